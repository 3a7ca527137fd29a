/-
  The frames of a row of bytes, as lists; the contract of seal.Scan: it goes through them by goto, and hands over a new list of their bodies.
  Rows of frames, as lists: what is found in a row that is cut anywhere, or that has bytes 0 behind it.
-/
import Derived.Test.YtmpnofbhbglfpaaGreatDoorGQFst
import Derived.WalkMore
import Derived.ScopeJumps
import Derived.Laws.AppendOwn
namespace Go.Proofs.YtmpnofbhbglfpaaGreatDoor
open Go.RowKit
attribute [local go_sem] size_bstr getElem_bstr toList_bstr append_bstr

/-- The bodies of the frames with which bytes begin (k steps at the most). -/
def scn : Nat → List UInt8 → List (List UInt8)
  | 0, _ => []
  | k + 1, s => match opn s with
    | none => []
    | some b => b :: scn k (s.drop (8 + b.length))
theorem scn_none {k : Nat} {s : List UInt8} (h : opn s = none) : scn k s = [] := by
  cases k with
  | zero => rfl
  | succ k => rw [scn, h]
theorem scn_some {k : Nat} {s b : List UInt8} (h : opn s = some b) : scn (k + 1) s = b :: scn k (s.drop (8 + b.length)) := by
  rw [scn, h]
/-- How many bytes the frames of bodies have. -/
def totS (bs : List (List UInt8)) : Nat := (bs.map fun b => b.length + 8).sum
theorem tot_snoc (bs : List (List UInt8)) (b : List UInt8) : totS (bs ++ [b]) = totS bs + (b.length + 8) := by
  unfold totS
  simp
/-- The cells of a list of strings. -/
def strCells (bs : List (List UInt8)) : List Value := bs.map fun b => .string (bstr b)
theorem strCells_snoc (bs : List (List UInt8)) (b : List UInt8) : strCells (bs ++ [b]) = strCells bs ++ [.string (bstr b)] := by
  unfold strCells
  simp
theorem strCells_length (bs : List (List UInt8)) : (strCells bs).length = bs.length := by
  unfold strCells
  simp
/-- What holds at each pass: bodies bs are found, g bytes are gone through. -/
def Went (s : List UInt8) (bs : List (List UInt8)) (g : Nat) : Prop := ∃ k, scn s.length s = bs ++ scn k (s.drop g) ∧ s.length - g ≤ k ∧ g = totS bs ∧ g ≤ s.length ∧ 8 * bs.length ≤ g
theorem Went.start (s : List UInt8) : Went s [] 0 := ⟨s.length, by simp, by omega, rfl, by omega, by simp⟩
theorem Went.next {s : List UInt8} {bs : List (List UInt8)} {g : Nat} {b : List UInt8} (h : Went s bs g) (ho : opn (s.drop g) = some b) : Went s (bs ++ [b]) (g + (8 + b.length)) := by
  obtain ⟨k, h1, h2, h3, h4, h5⟩ := h
  have hl := opn_length ho
  rw [List.length_drop] at hl
  cases k with
  | zero => omega
  | succ k =>
    refine ⟨k, ?_, by omega, ?_, by omega, ?_⟩
    · rw [h1, scn_some ho, List.drop_drop, List.append_assoc]
      rfl
    · rw [tot_snoc]; omega
    · rw [List.length_append, List.length_singleton]; omega
theorem Went.last {s : List UInt8} {bs : List (List UInt8)} {g : Nat} (h : Went s bs g) (ho : opn (s.drop g) = none) : scn s.length s = bs ∧ totS bs = g := by
  obtain ⟨k, h1, h2, h3, h4, h5⟩ := h
  rw [scn_none ho, List.append_nil] at h1
  exact ⟨h1, h3.symm⟩

theorem Tryz.infoStrS : (Tryz.prog.info? 9).map (fun i => (i.zero, i.size, i.bytes)) = some (some (.string ⟨#[]⟩), 1, 16) := by kernel_rfl
theorem run_from {P : Program} (t : TypeId) (L : List UInt8) (i : Nat) (hi : i ≤ L.length) (w : World) (ht : P.underlying t = some .string) :
    (Instr.slice t (.string (bstr L)) (some (.int .i64 (i : Int))) none none).run P w = .ok (.string (bstr (L.drop i))) w := by
  have h := run_slice_string_l (P := P) (t := t) (s := bstr L) (w := w) ht .i64 (i : Int) (by omega) (by rw [size_bstr]; omega)
  rw [h]
  have e2 : (bstr L).extract ((i : Int).toNat) (bstr L).size = bstr (L.drop i) := by
    apply ByteArray.ext
    rw [size_bstr]
    simp only [bstr, ByteArray.data_extract, List.extract_toArray, Int.toNat_natCast, List.extract_eq_take_drop]
    rw [List.take_of_length_le (by rw [List.length_drop]; omega)]
  rw [e2]

/-- A scope in which the run jumps back to one label, entered at that label. -/
theorem wp_scope_label {P : Program} {a : Act} {w : World} {Q : Exit → Act → World → Prop} {c rest : Code} (l : Nat) (J : Act → World → Prop) (m : Act → World → Nat) (hf : findLabel c l = some (Code.skip.seq rest))
    (first : (∀ a w, J a w → rest.wp P (Exit.jump l J Q) a w) → c.wp P (Exit.jump l J Q) a w)
    (pass : ∀ a w, J a w → rest.wp P (Exit.jump l (fun a' w' => J a' w' ∧ m a' w' < m a w) Q) a w) : (Code.scope c).wp P Q a w := by
  refine wp_scope_jumps l J m hf (first fun a w h => wp_mono (pass a w h) ?_) (fun a w h => wp_seq (wp_skip (pass a w h)))
  intro e a w hq
  cases e with
  | goto l' => exact ⟨hq.1, hq.2.1⟩
  | normal => exact hq
  | exit id => exact hq
  | ret => exact hq
  | panic ch => exact hq
  | outgrown => exact hq

theorem own_belowS {w w' : World} {B e size n : Nat} {v : Value} {xs : List Value} (h : w.ownsRow B e size v n xs) (hb : Below w.heap.size w w') : w'.ownsRow B e size v n xs := by
  rcases h.2 with h0 | ⟨g, cap, cur, hv, hbg, hg, hnc, hcm, hcs, htake⟩
  · exact ⟨h.1, .inl h0⟩
  · have hlt : g < w.heap.size := by
      by_cases hl : g < w.heap.size
      · exact hl
      · rw [Array.getElem?_eq_none (Nat.le_of_not_lt hl)] at hg
        exact absurd hg (by simp)
    exact ⟨h.1, .inr ⟨g, cap, cur, hv, hbg, (hb.block g hlt).trans hg, hnc, hcm, hcs, htake⟩⟩

set_option maxHeartbeats 2000000 in
set_option maxRecDepth 100000 in
theorem Scan_any (s : List UInt8) (w : World) (hs : s.length ≤ 35184372088832) (ht : Tabs w) :
    Calls Tryz.prog 30 #[.string (bstr s)] w fun e w' => ∃ v, e = .returned (.tuple #[v, .int .i64 (totS (scn s.length s) : Int)]) ∧ w'.ownsRow w.heap.size 9 1 v (scn s.length s).length (strCells (scn s.length s)) ∧ Below w.heap.size w w' := by
  obtain ⟨i0, hi, hz0, hz1, hz2⟩ := info_parts Tryz.infoStrS
  go_enter Tryz.func30, Tryz.ntmps30
  go_wp2
  refine wp_scope_label 0 (fun a' w' => ∃ (v : Value) (bs : List (List UInt8)) (g : Nat) (u4 u5 u6 u7 u8 u9 u10 u11 u12 u13 u14 u15 u16 u17 u18 u19 u20 u21 u22 : Value), a' = { tmps := #[.string (bstr s), undef, v, .int .i64 (g : Int), u4, u5, u6, u7, u8, u9, u10, u11, u12, u13, u14, u15, u16, u17, u18, u19, u20, u21, u22, undef, undef], defers := [] } ∧ Went s bs g ∧ w'.ownsRow w.heap.size 9 1 v bs.length (strCells bs) ∧ Below w.heap.size w w') (fun a' _ => s.length - (intOf (a'.tmps.getD 3 undef)).toNat) rfl ?_ ?_
  · intro hp
    go_wp2
    go_step3
    rename_i Q1 Q2 K hK
    exact hK _ _ (hp _ _ ⟨_, [], 0, _, _, _, _, _, _, _, _, _, _, _, _, _, _, _, _, _, _, _, rfl, Went.start s, ⟨rfl, .inl ⟨rfl, rfl⟩⟩, Below.refl _ _⟩)
  · rintro a' wr ⟨v, bs, g, u4, u5, u6, u7, u8, u9, u10, u11, u12, u13, u14, u15, u16, u17, u18, u19, u20, u21, u22, rfl, hwent, hown, hbel⟩
    have htr := ht.below hbel
    have hgl : g ≤ s.length := by obtain ⟨k, h1, h2, h3, h4, h5⟩ := hwent; exact h4
    have hgb : 8 * bs.length ≤ g := by obtain ⟨k, h1, h2, h3, h4, h5⟩ := hwent; exact h5
    have HW : Hid _ := hwent
    have hwent0 : Went s bs g := HW.out
    clear hwent
    have hsl := fun W : World => run_from (P := Tryz.prog) 9 s g hgl W Tryz.underlying9
    have hdl : (s.drop g).length = s.length - g := List.length_drop
    cases ho : opn (s.drop g) with
    | none =>
      have HL : Hid _ := hwent0.last ho
      have HO : Hid _ := ho
      clear ho hwent0
      generalize s.drop g = d at *
      go_wp2_with fail
      refine (first_none d _ (by omega) htr HO.out).mono ?_
      rintro e w1 ⟨rfl, hb1⟩
      have hown1 := own_belowS hown hb1
      clear hown
      go_wp2
      simp only [Exit.jump]
      go_ret2
      obtain ⟨hl1, hl2⟩ := HL.out
      refine ⟨v, ?_, ?_, hbel.trans (hb1.mono hbel.size)⟩
      · rw [hl1, hl2]
        rfl
      · rw [hl1]
        exact hown1
    | some b =>
      have hnx := hwent0.next ho
      have HN : Hid _ := hnx
      have hbl := (opn_some ho).1
      have hol := opn_length ho
      have HO : Hid _ := ho
      clear ho hnx hwent0
      rw [hdl] at hol
      generalize s.drop g = d at *
      go_wp2_with fail
      refine (first_some d b _ (by omega) htr HO.out).mono ?_
      rintro e w1 ⟨rfl, hb1⟩
      go_wp2_with fail
      refine (SClone_any b _ (by omega)).mono ?_
      rintro e w2 ⟨rfl, hb2⟩
      have hb12 : Below wr.heap.size wr w2 := hb1.trans (hb2.mono hb1.size)
      have hown2 := own_belowS hown hb12
      have hbw : Below w.heap.size w w2 := hbel.trans (hb12.mono hbel.size)
      clear hown
      go_wp2_with (at_builtin; refine wpList_append_own _ rfl _ _ 65 rfl w.heap.size 9 i0 (.string ⟨#[]⟩) 1 16 Tryz.underlying65 hi hz0 hz1 hz2 rfl (by decide) _ _ _ rfl (hown2.alloc _) ⟨w2.heap.size, 0, none⟩ 1 1 [.string (bstr b)] rfl rfl ?c1 ?c2 ?c3 ?c4 ?c5 ?_)
      case c1 =>
        intro j u hj
        match j, hj with
        | 0, hj => simp at hj; subst hj; simp [Addr.add]
      case c2 => intro u hu; simp at hu; subst hu; rfl
      case c3 => unfold maxLen; omega
      case c4 => omega
      case c5 => have := hbw.size; simp; omega
      intro v' w3 hown3 hgrow _
      have hbw3 : Below w.heap.size w w3 := (hbw.alloc hbw.size _).grown hgrow (by have := hbw.size; simp; omega) (fun k hk => (hown2.lt k hk).1)
      go_wp2
      go_step3
      rw [show (g : Int) + (8 + (b.length : Int)) = ((g + (8 + b.length) : Nat) : Int) from by omega]
      refine ⟨rfl, ⟨v', bs ++ [b], g + (8 + b.length), _, _, _, _, _, _, _, _, _, _, _, _, _, _, _, _, _, _, _, rfl, HN.out, ?_, hbw3⟩, ?_⟩
      · rw [strCells_snoc, List.length_append, List.length_singleton]
        exact hown3
      · simp [intOf]
        omega

end Go.Proofs.YtmpnofbhbglfpaaGreatDoor

namespace Go.Proofs.YtmpnofbhbglfpaaGreatDoor
open Go.RowKit

/-- The frames of bodies, one behind the other. -/
def fr (G : List (List UInt8)) : List UInt8 := (G.map frm).flatten
theorem fr_nil : fr [] = [] := rfl
theorem fr_cons (b : List UInt8) (G : List (List UInt8)) : fr (b :: G) = frm b ++ fr G := by
  unfold fr
  simp
theorem fr_append (G H : List (List UInt8)) : fr (G ++ H) = fr G ++ fr H := by
  unfold fr
  simp
theorem fr_length (G : List (List UInt8)) : (fr G).length = totS G := by
  induction G with
  | nil => rfl
  | cons b G ih =>
    rw [fr_cons, List.length_append, frm_length, ih]
    unfold totS
    simp
theorem tot_append (G H : List (List UInt8)) : totS (G ++ H) = totS G + totS H := by
  unfold totS
  simp
/-- What begins like a frame, and is no whole one, is none. -/
theorem prefix_none {b : List UInt8} (hb : b.length ≤ 1048576) {m : Nat} (hm : m < (frm b).length) : opn ((frm b).take m) = none := by
  cases h : opn ((frm b).take m) with
  | none => rfl
  | some c =>
    exfalso
    obtain ⟨hc, r, hr⟩ := opn_some h
    have h1 : opn (frm b) = some b := by
      have := opn_frm hb []
      rwa [List.append_nil] at this
    have h2 : frm b = frm c ++ (r ++ (frm b).drop m) := by
      rw [← List.append_assoc, ← hr, List.take_append_drop]
    have h3 : opn (frm b) = some c := by
      rw [h2]
      exact opn_frm hc _
    have h4 : b = c := Option.some.inj (h1.symm.trans h3)
    have h5 := congrArg List.length hr
    rw [List.length_append, List.length_take, ← h4] at h5
    omega
theorem zero_crc : ¬ le4 (crc ([0, 0, 0, 0] ++ [])).toNat = [0, 0, 0, 0] := by decide +kernel
/-- Bytes 0 begin with no frame. -/
theorem zeros_none (n : Nat) : opn (List.replicate n 0) = none := by
  by_cases h : n < 8
  · exact opn_short (by rw [List.length_replicate]; exact h)
  · obtain ⟨m, rfl⟩ : ∃ m, n = m + 8 := ⟨n - 8, by omega⟩
    show opn (0 :: 0 :: 0 :: 0 :: 0 :: 0 :: 0 :: 0 :: List.replicate m 0) = none
    rw [opn_eq, show rd4 0 0 0 0 = 0 from rfl, List.take_zero]
    exact if_neg fun hh => zero_crc hh.2.2
/-- Whole frames, and behind them what begins with none. -/
theorem scn_frames (G : List (List UInt8)) (r : List UInt8) (k : Nat) (hk : G.length ≤ k) (hG : ∀ b ∈ G, b.length ≤ 1048576) (hr : opn r = none) : scn k (fr G ++ r) = G := by
  induction G generalizing k with
  | nil => rw [fr_nil, List.nil_append]; exact scn_none hr
  | cons b G ih =>
    cases k with
    | zero => simp at hk
    | succ k =>
      have hb := hG b List.mem_cons_self
      rw [fr_cons, List.append_assoc, scn_some (opn_frm hb _)]
      have : (frm b ++ (fr G ++ r)).drop (8 + b.length) = fr G ++ r := by
        rw [List.drop_append_of_le_length (by rw [frm_length]; omega), List.drop_of_length_le (by rw [frm_length]; omega), List.nil_append]
      rw [this, ih k (by simpa using hk) (fun c hc => hG c (List.mem_cons_of_mem _ hc))]
/-- A row that is cut has just the whole ones. -/
theorem scn_cut (G : List (List UInt8)) (n i k : Nat) (hG : ∀ b ∈ G, b.length ≤ 1048576) (hi : i ≤ G.length) (hk : i ≤ k) (h1 : totS (G.take i) ≤ n) (h2 : i < G.length → n < totS (G.take (i + 1))) : scn k ((fr G).take n) = G.take i := by
  have hsplit : fr G = fr (G.take i) ++ fr (G.drop i) := by rw [← fr_append, List.take_append_drop]
  have hl : (fr (G.take i)).length = totS (G.take i) := fr_length _
  have htake : (fr G).take n = fr (G.take i) ++ (fr (G.drop i)).take (n - totS (G.take i)) := by
    rw [hsplit, List.take_append, hl, List.take_of_length_le (by omega)]
  rw [htake]
  refine scn_frames _ _ _ (by rw [List.length_take]; omega) (fun b hb => hG b (List.mem_of_mem_take hb)) ?_
  by_cases hlt : i < G.length
  · have h3 := h2 hlt
    rw [List.take_succ_eq_append_getElem hlt, tot_append] at h3
    have h4 : totS [G[i]] = G[i].length + 8 := by unfold totS; simp
    rw [List.drop_eq_getElem_cons hlt, fr_cons, List.take_append_of_le_length (by rw [frm_length]; omega)]
    exact prefix_none (hG _ (List.getElem_mem hlt)) (by rw [frm_length]; omega)
  · rw [List.drop_of_length_le (by omega), fr_nil, List.take_nil]
    rfl

end Go.Proofs.YtmpnofbhbglfpaaGreatDoor
