/-
  The contract of keys.Gap and of its closure.
-/
import Derived.Test.YtalkhkndelpdfaaKIn
import Derived.Test.YtalkhkndelpdfaaKSplit
import Derived.Deep.RegionHeld3
import Derived.BigQuiet
import Derived.Laws.ResultCell
namespace Go.Proofs.Ytalkhkndelpdfaa
open Go.RowKit Go.BigFrame
attribute [local go_sem] size_bstr toList_bstr ls_def

theorem reach_end {w : World} {nl ne : Nat} {u v z : Value} (ob : Obj) (hl : w.cell? ⟨nl, 0, none⟩ = some u) (he : w.cell? ⟨ne, 0, none⟩ = some z) (hf : w.frozen? ⟨nl, 0, none⟩ = false) (hne : nl < ne) (hb : ne < w.heap.size) :
    ((w.setCell ⟨nl, 0, none⟩ v).alloc ob).cell? ⟨nl, 0, none⟩ = some v ∧ ((w.setCell ⟨nl, 0, none⟩ v).alloc ob).cell? ⟨ne, 0, none⟩ = some z ∧ ((w.setCell ⟨nl, 0, none⟩ v).alloc ob).frozen? ⟨nl, 0, none⟩ = false ∧
      ((w.setCell ⟨nl, 0, none⟩ v).alloc ob).frozen? ⟨ne, 0, none⟩ = w.frozen? ⟨ne, 0, none⟩ ∧ w.heap.size ≤ ((w.setCell ⟨nl, 0, none⟩ v).alloc ob).heap.size ∧ Below nl w ((w.setCell ⟨nl, 0, none⟩ v).alloc ob) := by
  have hB : Below nl w (w.setCell ⟨nl, 0, none⟩ v) := (Below.refl nl w).setCell (p := ⟨nl, 0, none⟩) (Nat.le_refl _) v
  have hs : w.heap.size ≤ (w.setCell ⟨nl, 0, none⟩ v).heap.size := hB.size
  have hB2 := hB.alloc (by omega) ob
  have hA : Below (w.setCell ⟨nl, 0, none⟩ v).heap.size (w.setCell ⟨nl, 0, none⟩ v) ((w.setCell ⟨nl, 0, none⟩ v).alloc ob) := (Below.refl _ _).alloc (Nat.le_refl _) ob
  obtain ⟨cb, fb⟩ := bcell hA
  refine ⟨?_, ?_, ?_, ?_, hB2.size, hB2⟩
  · rw [cb _ _ (by omega)]
    exact World.cell?_setCell_same' w _ v (by rw [hl]; rfl)
  · rw [cb _ _ (by omega), World.cell?_setCell_far w ⟨nl, 0, none⟩ ⟨ne, 0, none⟩ v (by show nl ≠ ne; omega)]
    exact he
  · rw [fb _ _ (by omega)]
    simpa using hf
  · rw [fb _ _ (by omega)]
    simp

set_option maxHeartbeats 2000000 in
set_option maxRecDepth 100000 in
theorem reach_any (nl ne g o m c : Nat) (lo hi e : List UInt8) (w : World) (hl : w.cell? ⟨nl, 0, none⟩ = some (.slice (some ⟨g, o, none⟩) (m + 1) (c + 1))) (he : w.cell? ⟨ne, 0, none⟩ = some (.string (bstr e)))
    (h0 : w.cell? ⟨g, o, none⟩ = some (.string (bstr lo))) (h1 : w.cell? ⟨g, o + 1, none⟩ = some (.string (bstr hi))) (hf : w.frozen? ⟨nl, 0, none⟩ = false) (hgn : g < nl) (hne : nl < ne) (hmc : m ≤ c) (hcm : c ≤ maxLen) (hb : ne < w.heap.size) :
    Calls Try.prog 16 #[.pointer (some ⟨nl, 0, none⟩), .pointer (some ⟨ne, 0, none⟩)] w fun e' w' => e' = .returned (.string (bstr (if hi = [] then [] else maxT e hi))) ∧ (∃ p, w'.cell? ⟨nl, 0, none⟩ = some (.slice p m c) ∧ (0 < m → p = some ⟨g, o + 2, none⟩)) ∧ w'.cell? ⟨ne, 0, none⟩ = some (.string (bstr e)) ∧ w'.frozen? ⟨nl, 0, none⟩ = false ∧ w'.frozen? ⟨ne, 0, none⟩ = w.frozen? ⟨ne, 0, none⟩ ∧ w.heap.size ≤ w'.heap.size ∧ Below nl w w' := by
  have hx : ∀ ts t (w : World), (Builtin.max_ ts t #[.string (bstr e), .string (bstr hi)]).run Try.prog w = .ok (.string (bstr (maxT e hi))) w := fun ts t w => run_max_text ts t e hi w
  have l1 : nl < w.heap.size := by omega
  have l2 : g < w.heap.size := by omega
  have d1 : nl ≠ w.heap.size := by omega
  have d2 : g ≠ w.heap.size := by omega
  have d3 : ne ≠ w.heap.size := by omega
  have d4 : nl ≠ ne := by omega
  have d5 : nl ≠ g := by omega
  by_cases hc : c = 0
  · have hm : m = 0 := by omega
    subst hc hm
    by_cases hn : hi = []
    · subst hn
      go_enter Try.func16, Try.ntmps16
      go_wp2
      go_ret
      obtain ⟨r1, r2, r3, r4, r5, r6⟩ := reach_end (v := .slice (some ⟨g, o, none⟩) 0 0) (.cells #[.string (bstr lo), .string (bstr [])] 26) hl he hf hne hb
      first | exact ⟨rfl, ⟨_, r1, by omega⟩, r2, r3, r4, r5, r6⟩ | exact ⟨rfl, ⟨_, r1⟩, r2, r3, r4, r5, r6⟩
    · have k1 : (hi == ([] : List UInt8)) = false := by simpa using hn
      rw [if_neg hn]
      go_enter Try.func16, Try.ntmps16
      go_wp2
      go_ret
      obtain ⟨r1, r2, r3, r4, r5, r6⟩ := reach_end (v := .slice _ 0 0) (.cells #[.string (bstr lo), .string (bstr hi)] 26) hl he hf hne hb
      first | exact ⟨rfl, ⟨_, r1, by omega⟩, r2, r3, r4, r5, r6⟩ | exact ⟨rfl, ⟨_, r1⟩, r2, r3, r4, r5, r6⟩
  · by_cases hn : hi = []
    · subst hn
      go_enter Try.func16, Try.ntmps16
      go_wp2
      go_ret
      obtain ⟨r1, r2, r3, r4, r5, r6⟩ := reach_end (v := .slice (some ⟨g, o + 2, none⟩) m c) (.cells #[.string (bstr lo), .string (bstr [])] 26) hl he hf hne hb
      exact ⟨rfl, ⟨_, r1, fun _ => rfl⟩, r2, r3, r4, r5, r6⟩
    · have k1 : (hi == ([] : List UInt8)) = false := by simpa using hn
      rw [if_neg hn]
      go_enter Try.func16, Try.ntmps16
      go_wp2
      go_ret
      obtain ⟨r1, r2, r3, r4, r5, r6⟩ := reach_end (v := .slice (some ⟨g, o + 2, none⟩) m c) (.cells #[.string (bstr lo), .string (bstr hi)] 26) hl he hf hne hb
      exact ⟨rfl, ⟨_, r1, fun _ => rfl⟩, r2, r3, r4, r5, r6⟩

/-- What Gap answers. -/
def gapV : Option Rg → Value
  | some (a, b) => .tuple #[rngV a b, .bool true]
  | none => .tuple #[rngV [] [], .bool false]

/-- A scope in which the run jumps back to one label, entered at that label. -/
theorem wp_scope_label {P : Program} {a : Act} {w : World} {Q : Exit → Act → World → Prop} {c rest : Code} (l : Nat) (J : Act → World → Prop) (m : Act → World → Nat) (hf : findLabel c l = some (Code.skip.seq rest))
    (first : (∀ a w, J a w → rest.wp P (Exit.jump l J Q) a w) → c.wp P (Exit.jump l J Q) a w)
    (pass : ∀ a w, J a w → rest.wp P (Exit.jump l (fun a' w' => J a' w' ∧ m a' w' < m a w) Q) a w) : (Code.scope c).wp P Q a w := by
  refine wp_scope_jumps l J m hf (first fun a w h => wp_mono (pass a w h) ?_) (fun a w h => wp_seq (wp_skip (pass a w h)))
  intro e a w hq
  cases e with
  | goto l' => exact ⟨hq.1, hq.2.1⟩
  | normal => exact hq
  | exit id => exact hq
  | ret => exact hq
  | panic ch => exact hq
  | outgrown => exact hq

/-- How many ranges are left. -/
def gapM (a : Act) (w : World) : Nat :=
  match a.tmps.getD 4 undef with
  | .pointer (some ad) => (match w.cell? ad with | some (.slice _ n _) => n | _ => 0)
  | _ => 0

/-- Where Gap's variables lie: the result, the list that is left, the end of what is covered. -/
structure GapAt (w w' : World) (ss : List Rg) (k g nl c : Nat) (p : Option Addr) (e : List UInt8) : Prop where
  big : w.heap.size < nl
  size : nl + 1 < w'.heap.size
  r0 : w'.cell? ⟨w.heap.size, 0, none⟩ = some (.string ⟨#[]⟩)
  r1 : w'.cell? ⟨w.heap.size, 1, none⟩ = some (.string ⟨#[]⟩)
  f0 : w'.frozen? ⟨w.heap.size, 0, none⟩ = false
  f1 : w'.frozen? ⟨w.heap.size, 1, none⟩ = false
  l0 : w'.cell? ⟨nl, 0, none⟩ = some (.slice p (ss.length - k) c)
  lf : w'.frozen? ⟨nl, 0, none⟩ = false
  e0 : w'.cell? ⟨nl + 1, 0, none⟩ = some (.string (bstr e))
  ef : w'.frozen? ⟨nl + 1, 0, none⟩ = false
  cap : ss.length - k ≤ c ∧ c ≤ maxLen
  row : k < ss.length → p = some ⟨g, k * 2, none⟩ ∧ w.heap.size < g ∧ g < nl ∧ RowAt w' g 0 ss
  below : Below w.heap.size w w'

theorem GapAt.drew {w w' : World} {ss : List Rg} {k g nl c : Nat} {p : Option Addr} {e : List UInt8} (h : GapAt w w' ss k g nl c p e) : GapAt w w'.drew ss k g nl c p e :=
  ⟨h.big, h.size, h.r0, h.r1, h.f0, h.f1, h.l0, h.lf, h.e0, h.ef, h.cap, h.row, h.below.drew⟩
theorem GapAt.step {w w' w'' : World} {ss : List Rg} {k g nl c : Nat} {p : Option Addr} {e : List UInt8} (h : GapAt w w' ss k g nl c p e) (hb : Below w'.heap.size w' w'') : GapAt w w'' ss k g nl c p e := by
  obtain ⟨cb, fb⟩ := bcell hb
  have hs := h.size
  have hg := h.big
  refine ⟨hg, Nat.lt_of_lt_of_le hs hb.size, ?_, ?_, ?_, ?_, ?_, ?_, ?_, ?_, h.cap, fun hk => ?_, below2 h.below hb⟩
  · rw [cb _ _ (by omega)]; exact h.r0
  · rw [cb _ _ (by omega)]; exact h.r1
  · rw [fb _ _ (by omega)]; exact h.f0
  · rw [fb _ _ (by omega)]; exact h.f1
  · rw [cb _ _ (by omega)]; exact h.l0
  · rw [fb _ _ (by omega)]; exact h.lf
  · rw [cb _ _ (by omega)]; exact h.e0
  · rw [fb _ _ (by omega)]; exact h.ef
  · obtain ⟨h1, h2, h3, h4⟩ := h.row hk
    exact ⟨h1, h2, h3, h4.step hb (by omega)⟩
theorem GapAt.start {w w1 : World} {ss : List Rg} {g c : Nat} {p : Option Addr} (t u : TypeId) (ra : RngAt w1 w.heap.size [] []) (f0 : w1.frozen? ⟨w.heap.size, 0, none⟩ = false) (f1 : w1.frozen? ⟨w.heap.size, 1, none⟩ = false) (hz : w.heap.size + 1 ≤ w1.heap.size) (hbe : Below w.heap.size w w1) (hsc : ss.length ≤ c) (hcm : c ≤ maxLen)
    (hv : 0 < ss.length → p = some ⟨g, 0, none⟩ ∧ w.heap.size + 1 ≤ g ∧ g < w1.heap.size ∧ RowAt w1 g 0 ss) :
    GapAt w ((w1.alloc (.cells #[.slice p ss.length c] t)).alloc (.cells #[.string ⟨#[]⟩] u)) ss 0 g w1.heap.size c p [] := by
  have hb : Below w1.heap.size w1 ((w1.alloc (.cells #[.slice p ss.length c] t)).alloc (.cells #[.string ⟨#[]⟩] u)) := ((Below.refl _ _).alloc (Nat.le_refl _) _).alloc (by simp) _
  obtain ⟨cb, fb⟩ := bcell hb
  refine ⟨by omega, by simp, ?_, ?_, ?_, ?_, ?_, ?_, ?_, ?_, ⟨by omega, hcm⟩, fun hk => ?_, below2 hbe hb⟩
  · rw [cb _ _ (by omega)]; exact ra.c0
  · rw [cb _ _ (by omega)]; exact ra.c1
  · rw [fb _ _ (by omega)]; exact f0
  · rw [fb _ _ (by omega)]; exact f1
  · go_simp
  · go_simp
  · go_simp
    rfl
  · go_simp
  · obtain ⟨h1, h2, h3, h4⟩ := hv hk
    exact ⟨h1, by omega, h3, h4.step hb h3⟩

/-- Behind the closure: one range fewer, another end. -/
theorem GapAt.next {w wq wf : World} {ss : List Rg} {k g nl c : Nat} {p p' : Option Addr} {e e' z : List UInt8} (h : GapAt w wq ss k g nl (c + 1) p e) (hk : k < ss.length) (hl : wf.cell? ⟨nl, 0, none⟩ = some (.slice p' (ss.length - (k + 1)) c)) (hp : 0 < ss.length - (k + 1) → p' = some ⟨g, k * 2 + 2, none⟩)
    (he : wf.cell? ⟨nl + 1, 0, none⟩ = some (.string (bstr z))) (hf : wf.frozen? ⟨nl, 0, none⟩ = false) (hef : wf.frozen? ⟨nl + 1, 0, none⟩ = wq.frozen? ⟨nl + 1, 0, none⟩) (hb : Below nl wq wf) : GapAt w (wf.setCell ⟨nl + 1, 0, none⟩ (.string (bstr e'))) ss (k + 1) g nl c p' e' := by
  have hs := h.size
  have hg := h.big
  have hcap := h.cap
  have hbs : Below (nl + 1) wf (wf.setCell ⟨nl + 1, 0, none⟩ (.string (bstr e'))) := (Below.refl _ _).setCell (p := ⟨nl + 1, 0, none⟩) (Nat.le_refl _) _
  have hb2 : Below nl wq (wf.setCell ⟨nl + 1, 0, none⟩ (.string (bstr e'))) := hb.trans (hbs.mono (Nat.le_succ _))
  obtain ⟨cb, fb⟩ := bcell hb2
  obtain ⟨cb2, fb2⟩ := bcell hbs
  refine ⟨hg, Nat.lt_of_lt_of_le hs hb2.size, ?_, ?_, ?_, ?_, ?_, ?_, ?_, ?_, ⟨by omega, by omega⟩, fun hk2 => ?_, h.below.trans (hb2.mono (by omega))⟩
  · rw [cb _ _ (by omega)]; exact h.r0
  · rw [cb _ _ (by omega)]; exact h.r1
  · rw [fb _ _ (by omega)]; exact h.f0
  · rw [fb _ _ (by omega)]; exact h.f1
  · rw [cb2 _ _ (by omega)]; exact hl
  · rw [fb2 _ _ (by omega)]; exact hf
  · exact World.cell?_setCell_same' wf _ _ (by rw [he]; rfl)
  · have : (wf.setCell ⟨nl + 1, 0, none⟩ (.string (bstr e'))).frozen? ⟨nl + 1, 0, none⟩ = wf.frozen? ⟨nl + 1, 0, none⟩ := by simp
    rw [this, hef]
    exact h.ef
  · obtain ⟨h1, h2, h3, h4⟩ := h.row hk
    exact ⟨by rw [hp (by omega), show (k + 1) * 2 = k * 2 + 2 by omega], h2, h3, h4.step hb2 h3⟩
theorem seg_step {W W' : World} {a : Addr} {v : Value} (hb : Below W.heap.size W W') (h : W.cell? a = some v) : W'.cell? a = some v := by rw [hb.cell (block_lt_of_cell h)]; exact h
theorem cell_drew2 (W : World) (a : Addr) : W.drew.cell? a = W.cell? a := rfl
theorem set2r_cell {W : World} {n m o : Nat} {p q v : Value} (hne : n ≠ m) (h : W.cell? ⟨m, o, none⟩ = some v) : ((W.setCell ⟨n, 0, none⟩ p).setCell ⟨n, 1, none⟩ q).cell? ⟨m, o, none⟩ = some v := by
  rw [World.cell?_setCell_far _ ⟨n, 1, none⟩ ⟨m, o, none⟩ q hne, World.cell?_setCell_far _ ⟨n, 0, none⟩ ⟨m, o, none⟩ p hne]
  exact h
theorem set2r_reads {W : World} {n : Nat} {p q u v : Value} (h0 : W.cell? ⟨n, 0, none⟩ = some u) (h1 : W.cell? ⟨n, 1, none⟩ = some v) {W' : World} (hW : (W.setCell ⟨n, 0, none⟩ p).setCell ⟨n, 1, none⟩ q = W') :
    W'.cell? ⟨n, 0, none⟩ = some p ∧ W'.cell? ⟨n, 1, none⟩ = some q := by
  subst hW
  refine ⟨?_, ?_⟩ <;> go_simp
theorem below_set2r {B : Nat} {w W : World} {n : Nat} (p q : Value) (hB : Below B w W) (h : B ≤ n) : Below B w ((W.setCell ⟨n, 0, none⟩ p).setCell ⟨n, 1, none⟩ q) :=
  (hB.setCell (p := ⟨n, 0, none⟩) h p).setCell (p := ⟨n, 1, none⟩) h q

set_option maxHeartbeats 4000000 in
set_option maxRecDepth 100000 in
theorem Gap_any (q : Option Addr) (b off cap : Nat) (rs : List Rg) (w : World) (hq : 0 < rs.length → q = some ⟨b, off, none⟩ ∧ RowAt w b off rs ∧ b < w.heap.size) (hn : rs.length ≤ 1000000) :
    Calls Try.prog 8 #[.slice q rs.length cap] w fun e w' => ∃ o, e = .returned (gapV o) ∧ GapSpec rs o ∧ Below w.heap.size w w' := by
  have hB0 : Below w.heap.size w (w.alloc (.cells #[.string ⟨#[]⟩, .string ⟨#[]⟩] 26)) := (Below.refl _ _).alloc (Nat.le_refl _) _
  go_enter Try.func8, Try.ntmps8
  go_wp2
  refine wp_scope_label 0 (fun a' w' => ∃ (ss : List Rg) (k g nl c : Nat) (p : Option Addr) (e : List UInt8) (u7 u8 u9 u10 u11 u12 u13 u14 u15 u16 u17 u18 u19 u20 u21 u22 u23 u24 u25 u26 u27 u28 u29 u30 u31 : Value), a' = { tmps := #[.slice q rs.length cap, undef, .pointer (some ⟨w.heap.size, 0, none⟩), .bool false, .pointer (some ⟨nl, 0, none⟩), .pointer (some ⟨nl + 1, 0, none⟩), .func (.func 16) #[] #[.pointer (some ⟨nl, 0, none⟩), .pointer (some ⟨nl + 1, 0, none⟩)], u7, u8, u9, u10, u11, u12, u13, u14, u15, u16, u17, u18, u19, u20, u21, u22, u23, u24, u25, u26, u27, u28, u29, u30, u31], defers := [] } ∧ Hid (Sorted rs ss) ∧ Hid (Went3 rs ss k e) ∧ k ≤ ss.length ∧ GapAt w w' ss k g nl c p e) gapM rfl ?_ ?_
  · intro hp
    go_wp2_with fail
    refine (inOrder_any q b off cap rs _ (fun h => ⟨(hq h).1, (hq h).2.1.step hB0 (hq h).2.2, Nat.lt_of_lt_of_le (hq h).2.2 hB0.size⟩) hn).mono ?_
    rintro e w1 ⟨ss, p, g, c, rfl, hS, hsl, hsc, hcm, hv, hb1⟩
    have HS : Hid _ := hS
    have HV : Hid _ := hv
    clear hS hv
    have ra := (RngAt.new w 26 [] []).step hb1
    have rf := cell_new hb1 0 rfl
    have rf1 := cell_new hb1 1 rfl
    have hz : w.heap.size + 1 ≤ w1.heap.size := by have := hb1.size; simpa using this
    have hbe := below2 hB0 hb1
    go_wp2
    go_step3
    rename_i Q1 Q2 K hK
    refine hK _ _ (hp _ _ ⟨ss, 0, g, w1.heap.size, c, p, [], _, _, _, _, _, _, _, _, _, _, _, _, _, _, _, _, _, _, _, _, _, _, _, _, _, rfl, HS, Went3.start rs ss, Nat.zero_le _, ?_⟩)
    refine GapAt.start _ _ ra rf.2 rf1.2 hz hbe hsc hcm (fun h => ?_)
    obtain ⟨h1, h2, h3, h4⟩ := HV.out h
    exact ⟨h1, by simpa using h2, h3, h4⟩
  · rintro a' wr ⟨ss, k, g, nl, c, p, e, u7, u8, u9, u10, u11, u12, u13, u14, u15, u16, u17, u18, u19, u20, u21, u22, u23, u24, u25, u26, u27, u28, u29, u30, u31, rfl, HS, HW, hk, hG⟩
    have hel := HW.out.short
    by_cases hlt : k < ss.length
    · obtain ⟨m, hm⟩ : ∃ m, ss.length - k = m + 1 := ⟨ss.length - k - 1, by omega⟩
      obtain ⟨hc1, hc2⟩ := id hG.cap
      obtain ⟨c', rfl⟩ : ∃ c', c = c' + 1 := ⟨c - 1, by omega⟩
      obtain ⟨rfl, hg1, hg2, hrow⟩ := hG.row hlt
      obtain ⟨g0, g1⟩ := hrow k hlt
      rw [Nat.zero_add] at g0 g1
      have hlo := ((mayB_iff _ _).1 (HS.out.sub _ (List.getElem_mem hlt)).2).1
      have l0 := hG.l0
      rw [hm] at l0
      have e0 := hG.e0
      cases hl : ls e (ss[k]).1 with
      | true =>
        have HE : Hid _ := HW.out.end2 HS.out hlt hl
        have hle := le_spelt (ss[k]).1 e
        rw [hl] at hle
        clear HW HS hrow hl
        generalize ss[k] = r at *
        obtain ⟨lo, hi⟩ := r
        simp only at g0 g1 hlo hle HE
        have n1 : w.heap.size ≠ nl := by have := hG.big; omega
        have n2 : w.heap.size ≠ nl + 1 := by have := hG.big; omega
        have n3 : w.heap.size ≠ g := by omega
        go_wp2_with fail
        go_quiet (fail)
        replace hG : GapAt w (wr.drewN nq) ss k g nl (c' + 1) (some ⟨g, k * 2, none⟩) e := ⟨hG.big, hG.size, hG.r0, hG.r1, hG.f0, hG.f1, hG.l0, hG.lf, hG.e0, hG.ef, hG.cap, hG.row, below_drewN hG.below nq⟩
        replace l0 : (wr.drewN nq).cell? ⟨nl, 0, none⟩ = some (.slice (some ⟨g, k * 2, none⟩) (m + 1) (c' + 1)) := l0
        replace e0 : (wr.drewN nq).cell? ⟨nl + 1, 0, none⟩ = some (.string (bstr e)) := e0
        replace g0 : (wr.drewN nq).cell? ⟨g, k * 2, none⟩ = some (.string (bstr lo)) := g0
        generalize wr.drewN nq = wq at *
        go_wp2_with fail
        go_region_held3 (fun w' => w'.cell? ⟨nl, 0, none⟩ = some (.slice (some ⟨g, k * 2, none⟩) (m + 1) (c' + 1)) ∧ w'.cell? ⟨nl + 1, 0, none⟩ = some (.string (bstr e)) ∧ w'.cell? ⟨g, k * 2, none⟩ = some (.string (bstr lo))) (first | with_reducible exact ⟨l0, e0, g0⟩ | with_reducible exact ⟨set2r_cell n1 l0, set2r_cell n2 e0, set2r_cell n3 g0⟩ | go_keep)
          (first | (go_at_call 14; refine (fresh_any _ _ _ hel hlo).mono ?_; rintro ee wf ⟨rfl, hbf⟩; replace hG := hG.drew.step hbf; replace l0 := seg_step hbf ((cell_drew2 wq _).trans l0); replace e0 := seg_step hbf ((cell_drew2 wq _).trans e0); replace g0 := seg_step hbf ((cell_drew2 wq _).trans g0); obtain ⟨_, _, r0, r1, f0, f1, _, _, _, _, _, _, hbe⟩ := id hG; clear hbf))
        go_wp2
        simp only [Exit.jump]
        generalize hW : (wf.setCell ⟨w.heap.size, 0, none⟩ _).setCell ⟨w.heap.size, 1, none⟩ _ = W'
        obtain ⟨q0, q1⟩ := set2r_reads r0 r1 hW
        refine bodyPost_ret (v := gapV (some (e, lo))) (by rw [results_cell_tmp Try.results8]; simp [go_sem, q0, q1, gapV]) rfl ⟨some (e, lo), rfl, HE.out, ?_⟩
        rw [← hW]
        exact below_set2r _ _ hbe (Nat.le_refl _)
      | false =>
        have hle := le_spelt (ss[k]).1 e
        rw [hl] at hle
        by_cases hh : (ss[k]).2 = []
        · have HE : Hid _ := HW.out.end3 HS.out hlt hl hh
          clear HW HS hrow hl
          generalize ss[k] = r at *
          obtain ⟨lo, hi⟩ := r
          simp only at g0 g1 hlo hle HE hh
          subst hh
          go_wp2_with fail
          go_quiet (fail)
          replace hG : GapAt w (wr.drewN nq) ss k g nl (c' + 1) (some ⟨g, k * 2, none⟩) e := ⟨hG.big, hG.size, hG.r0, hG.r1, hG.f0, hG.f1, hG.l0, hG.lf, hG.e0, hG.ef, hG.cap, hG.row, below_drewN hG.below nq⟩
          replace l0 : (wr.drewN nq).cell? ⟨nl, 0, none⟩ = some (.slice (some ⟨g, k * 2, none⟩) (m + 1) (c' + 1)) := l0
          replace g0 : (wr.drewN nq).cell? ⟨g, k * 2, none⟩ = some (.string (bstr lo)) := g0
          replace g1 : (wr.drewN nq).cell? ⟨g, k * 2 + 1, none⟩ = some (.string (bstr [])) := g1
          clear e0
          generalize wr.drewN nq = wq at *
          go_wp2_with fail
          have hre := reach_any nl (nl + 1) g (k * 2) m c' lo [] e wq l0 hG.e0 g0 g1 hG.lf hg2 (by omega) (by omega) (by omega) hG.size
          rw [if_pos rfl] at hre
          refine hre.mono ?_
          clear hre
          rintro ee wf ⟨rfl, ⟨p', hl', hp'⟩, e0, hf', ef, hsz, hbf⟩
          have hG2 := GapAt.next (e' := []) hG hlt (by rw [show ss.length - (k + 1) = m by omega]; exact hl') (fun h => hp' (by omega)) e0 hf' ef hbf
          have ef2 : wf.frozen? ⟨nl + 1, 0, none⟩ = false := by rw [ef]; exact hG.ef
          obtain ⟨_, _, r0, r1, f0, f1, _, _, e1, _, _, _, hbe⟩ := id hG2
          clear hG l0 g0 g1 hl' hp' hf' ef hbf
          go_wp2_with fail
          generalize wf.setCell ⟨nl + 1, 0, none⟩ (.string (bstr [])) = wg at *
          go_wp2
          simp only [Exit.jump]
          generalize hW : (wg.setCell ⟨w.heap.size, 0, none⟩ _).setCell ⟨w.heap.size, 1, none⟩ _ = W'
          obtain ⟨q0, q1⟩ := set2r_reads r0 r1 hW
          refine bodyPost_ret (v := gapV none) (by rw [results_cell_tmp Try.results8]; simp [go_sem, q0, q1, gapV]; rfl) rfl ⟨none, rfl, HE.out, ?_⟩
          rw [← hW]
          exact below_set2r _ _ hbe (Nat.le_refl _)
        · have HN : Hid _ := HW.out.next HS.out hlt hl hh
          clear HW hrow hl
          generalize ss[k] = r at *
          obtain ⟨lo, hi⟩ := r
          simp only at g0 g1 hlo hle HN hh
          have k1 : (maxT e hi == ([] : List UInt8)) = false := by simpa using maxT_ne hh
          go_wp2_with fail
          go_quiet (fail)
          replace hG : GapAt w (wr.drewN nq) ss k g nl (c' + 1) (some ⟨g, k * 2, none⟩) e := ⟨hG.big, hG.size, hG.r0, hG.r1, hG.f0, hG.f1, hG.l0, hG.lf, hG.e0, hG.ef, hG.cap, hG.row, below_drewN hG.below nq⟩
          have hgm : gapM _ wr = m + 1 := (by unfold gapM; simp [l0] : gapM { tmps := #[.slice q rs.length cap, undef, .pointer (some ⟨w.heap.size, 0, none⟩), .bool false, .pointer (some ⟨nl, 0, none⟩), .pointer (some ⟨nl + 1, 0, none⟩), .func (.func 16) #[] #[.pointer (some ⟨nl, 0, none⟩), .pointer (some ⟨nl + 1, 0, none⟩)], u7, u8, u9, u10, u11, u12, u13, u14, u15, u16, u17, u18, u19, u20, u21, u22, u23, u24, u25, u26, u27, u28, u29, u30, u31], defers := [] } wr = m + 1)
          have HGM : Hid _ := hgm
          clear hgm
          replace l0 : (wr.drewN nq).cell? ⟨nl, 0, none⟩ = some (.slice (some ⟨g, k * 2, none⟩) (m + 1) (c' + 1)) := l0
          replace g0 : (wr.drewN nq).cell? ⟨g, k * 2, none⟩ = some (.string (bstr lo)) := g0
          replace g1 : (wr.drewN nq).cell? ⟨g, k * 2 + 1, none⟩ = some (.string (bstr hi)) := g1
          clear e0
          generalize wr.drewN nq = wq at *
          go_wp2_with fail
          have hre := reach_any nl (nl + 1) g (k * 2) m c' lo hi e wq l0 hG.e0 g0 g1 hG.lf hg2 (by omega) (by omega) (by omega) hG.size
          rw [if_neg hh] at hre
          refine hre.mono ?_
          clear hre
          rintro ee wf ⟨rfl, ⟨p', hl', hp'⟩, e0, hf', ef, hsz, hbf⟩
          have hG2 := GapAt.next (e' := maxT e hi) hG hlt (by rw [show ss.length - (k + 1) = m by omega]; exact hl') (fun h => hp' (by omega)) e0 hf' ef hbf
          have ef2 : wf.frozen? ⟨nl + 1, 0, none⟩ = false := by rw [ef]; exact hG.ef
          have e1 := hG2.e0
          have HL : Hid ((wf.setCell ⟨nl + 1, 0, none⟩ (.string (bstr (maxT e hi)))).cell? ⟨nl, 0, none⟩ = _) := hG2.l0
          clear hG l0 g0 g1 hl' hp' hf' ef hbf
          go_wp2_with fail
          generalize hwg : wf.setCell ⟨nl + 1, 0, none⟩ (.string (bstr (maxT e hi))) = wg at *
          go_wp2
          go_step3
          refine ⟨rfl, ⟨ss, k + 1, g, nl, c', p', maxT e hi, _, _, _, _, _, _, _, _, _, _, _, _, _, _, _, _, _, _, _, _, _, _, _, _, _, rfl, HS, HN, by omega, hG2⟩, ?_⟩
          rw [HGM.out]
          unfold gapM
          simp [HL.out]
          omega
    · have hke : k = ss.length := by omega
      subst hke
      have HE : Hid _ := HW.out.end1 HS.out
      have l0 := hG.l0
      rw [Nat.sub_self] at l0
      have e0 := hG.e0
      clear HW HS
      go_wp2_with fail
      refine (fresh_any e [] _ hel (by simp)).mono ?_
      rintro ee wf ⟨rfl, hbf⟩
      have hG2 := hG.step hbf
      have r0 := hG2.r0
      have r1 := hG2.r1
      have f0 := hG2.f0
      have f1 := hG2.f1
      have hbe := hG2.below
      clear hG hG2 hbf l0 e0
      go_wp2
      simp only [Exit.jump]
      generalize hW : (wf.setCell ⟨w.heap.size, 0, none⟩ _).setCell ⟨w.heap.size, 1, none⟩ _ = W'
      obtain ⟨q0, q1⟩ := set2r_reads r0 r1 hW
      refine bodyPost_ret (v := gapV (some (e, []))) (by rw [results_cell_tmp Try.results8]; simp [go_sem, q0, q1, gapV]) rfl ⟨some (e, []), rfl, HE.out, ?_⟩
      rw [← hW]
      exact below_set2r _ _ hbe (Nat.le_refl _)

end Go.Proofs.Ytalkhkndelpdfaa
