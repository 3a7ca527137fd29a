/-
  merge.Of: the row of a list.
  merge.Of: the row of a list, made.
-/
import Derived.Test.YtnpjbdbhjbccbaaMMem
import Derived.Laws.MakeOwn
namespace Go.Proofs.Ytnpjbdbhjbccbaa
open Go.RowKit Go.BigFrame Go.Sort
attribute [local go_sem] size_bstr toList_bstr ls_def

theorem mtail_run {P : Program} {t : TypeId} {q : Option Addr} {len cap n s : Nat} (ht : P.underlying t = some (.slice (P.elem t))) (hz : ∀ w, (Go.sizeOf (P.elem t)).run P w = .ok s w) (hn : n ≤ len) (w : World) :
    (Instr.slice t (.slice q len cap) (some (.int .i64 (n : Int))) none none).run P w = .ok (.slice (if cap = n then q else q.map (·.add (n * s))) (len - n) (cap - n)) w := by
  rw [run_slice_l w t q len cap ht .i64 (n : Int) (by omega) (by omega), hz]
  simp only [Result.andThen, Int.toNat_natCast, sliced]

/-- What is left of a list, n of its cells told. -/
structure OfJ (vb lb : Nat) (cs : List Cl) (n : Nat) (w : World) : Prop where
  v : ∃ q cap, w.heap[vb]? = some (.cells #[.slice q (cs.length - n) cap] 29 (0, 0)) ∧ cs.length - n ≤ cap ∧ (n < cs.length → q = some ⟨lb, n * 5, none⟩)
  r : CRow w lb 0 cs
def OfF (vb lb : Nat) (cs : List Cl) (i : Nat) : Prop := i = vb ∨ 0 < cs.length ∧ i = lb
theorem OfJ.lt {vb lb : Nat} {cs : List Cl} {n : Nat} {w : World} (h : OfJ vb lb cs n w) (i : Nat) (hi : OfF vb lb cs i) : i < w.heap.size := by
  rcases hi with rfl | ⟨h0, rfl⟩
  · obtain ⟨q, cap, h1, _⟩ := h.v
    exact blk_lt h1
  · exact (h.r 0 h0).lt
theorem OfJ.kept {vb lb : Nat} {cs : List Cl} {n : Nat} {w w' : World} (h : OfJ vb lb cs n w) (hk : ∀ i, OfF vb lb cs i → w'.heap[i]? = w.heap[i]?) : OfJ vb lb cs n w' := by
  obtain ⟨q, cap, h1, h2⟩ := h.v
  refine ⟨⟨q, cap, (hk vb (Or.inl rfl)).trans h1, h2⟩, ?_⟩
  intro i hi
  exact (h.r i hi).same fun _ => World.cell?_of_block (hk lb (Or.inr ⟨by omega, rfl⟩))

theorem OfJ.next {vb lb : Nat} {cs : List Cl} {n : Nat} {w w1 : World} (h : OfJ vb lb cs n w) (hne : 0 < cs.length → vb ≠ lb) {q : Option Addr} {cap : Nat} (h1 : w1.heap[vb]? = some (.cells #[.slice q (cs.length - (n + 1)) cap] 29 (0, 0))) (hc : cs.length - (n + 1) ≤ cap) (hq : n + 1 < cs.length → q = some ⟨lb, (n + 1) * 5, none⟩) (hk : Kp w w1 (fun i => i = vb)) :
    OfJ vb lb cs (n + 1) w1 ∧ Kp w w1 (OfF vb lb cs) := by
  refine ⟨⟨⟨q, cap, h1, hc, hq⟩, fun i hi => ?_⟩, hk.mono fun i hi => Or.inl (Or.inl hi)⟩
  have h0 : 0 < cs.length := by omega
  exact (h.r i hi).same fun _ => World.cell?_of_block (hk.block lb (h.lt lb (Or.inr ⟨h0, rfl⟩)) (fun e => hne h0 e.symm))

set_option maxHeartbeats 4000000 in
set_option maxRecDepth 100000 in
theorem Of1_step (vb lb : Nat) (cs : List Cl) (n : Nat) (w : World) (h : OfJ vb lb cs n w) (hne : 0 < cs.length → vb ≠ lb) :
    Calls Try.prog 43 #[.pointer (some ⟨vb, 0, none⟩)] w fun e w' => e = .returned (ansV cs n) ∧ OfJ vb lb cs (n + 1) w' ∧ Kp w w' (OfF vb lb cs) := by
  obtain ⟨q, cap, h1, h2, h3⟩ := h.v
  have c0 : w.cell? ⟨vb, 0, none⟩ = some (.slice q (cs.length - n) cap) := (mcells h1).1 0
  have hvl := blk_lt h1
  by_cases hn : n < cs.length
  · obtain rfl := h3 hn
    have hg : 0 < ((cs.length - n : Nat) : Int) := by omega
    obtain ⟨c, hc⟩ : ∃ c, cs[n]? = some c := ⟨_, List.getElem?_eq_getElem hn⟩
    have hat := h.r.get hc
    rw [Nat.zero_add] at hat
    have hlb := hat.lt
    have hne' := hne (by omega)
    have hH := h
    have htl := fun W => mtail_run (P := Try.prog) (t := 29) (q := some ⟨lb, n * 5, none⟩) (len := cs.length - n) (cap := cap) (n := 1) (s := 5) Try.underlying29 (fun W => Try.sizeOf39 W) (by omega) W
    have HN : Hid _ := hn
    have HC : Hid _ := hc
    have HH : Hid _ := h
    clear hc h3 hn hH h
    obtain ⟨r, k, v, g, x⟩ := c
    obtain ⟨a0, a1, a2, a3, a4⟩ := hat
    simp only at a0 a1 a2 a3 a4
    have fz := (mcells h1).2 0
    go_enter Try.func43, Try.ntmps43
    go_wp2
    all_goals (
      refine ret_cell Try.results43 (c := ⟨r, k, v, g, x⟩) (v := .bool true) rfl rfl ((At5.new _ ⟨r, k, v, g, x⟩ _ (by simp [World.setCell])).alloc _) rfl ?_
      refine ⟨by rw [ansV_yes HC.out], OfJ.next HH.out hne (((heap_alloc_old _ _ (by simp [World.setCell]; omega)).trans (heap_alloc_old _ _ (by simp [World.setCell]; omega))).trans ((heap_set_same h1 _).trans rfl)) (by omega) (fun h6 => ?_) ((((Kp.refl w (fun i => i = vb)).setCell _ (Or.inl rfl)).alloc _).alloc _)⟩
      first
        | (exfalso; omega)
        | (refine congrArg (fun x => some (⟨lb, x, none⟩ : Addr)) ?_; omega))
  · have hg : ((cs.length - n : Nat) : Int) = 0 := by omega
    have HN : Hid _ := hn
    have HH : Hid _ := h
    have HQ : Hid _ := h3
    clear h hn h3
    go_enter Try.func43, Try.ntmps43
    go_wp2
    refine ret_cell Try.results43 (c := zC) (v := .bool false) rfl rfl (At5.new _ zC _ rfl) rfl ?_
    have hn := HN.out
    refine ⟨by rw [ansV_no (by omega)], OfJ.next HH.out hne ((heap_alloc_old _ _ hvl).trans (h1.trans (by rw [show cs.length - n = cs.length - (n + 1) by omega]))) (by omega) (fun h6 => absurd h6 (by omega)) ((Kp.refl w _).alloc _)⟩

end Go.Proofs.Ytnpjbdbhjbccbaa

namespace Go.Proofs.Ytnpjbdbhjbccbaa
open Go.RowKit Go.BigFrame Go.Sort
attribute [local go_sem] size_bstr toList_bstr ls_def

/-- Five stores at a place of a block: what is there behind them. -/
theorem put5_reads {W : World} {n o : Nat} {c : Cl} {cur : Array Value} {t : TypeId} (h : W.heap[n]? = some (.cells cur t (0, 0))) (ho : o + 5 ≤ cur.size)
    {W' : World} (hW : ((((W.setCell ⟨n, o, none⟩ (.string (bstr c.row))).setCell ⟨n, o + 1, none⟩ (.string (bstr c.col))).setCell ⟨n, o + 2, none⟩ (.int .u64 c.ver)).setCell ⟨n, o + 3, none⟩ (.bool c.gone)).setCell ⟨n, o + 4, none⟩ (.string (bstr c.val)) = W') :
    (∃ cur', W'.heap[n]? = some (.cells cur' t (0, 0)) ∧ cur'.size = cur.size) ∧ At5 W' n o c ∧ (∀ p, p < o ∨ o + 5 ≤ p → W'.cell? ⟨n, p, none⟩ = W.cell? ⟨n, p, none⟩) ∧ ∀ i, i ≠ n → W'.heap[i]? = W.heap[i]? := by
  have hb := heap_set_same (o := o + 4) (heap_set_same (o := o + 3) (heap_set_same (o := o + 2) (heap_set_same (o := o + 1) (heap_set_same (o := o) h (.string (bstr c.row))) (.string (bstr c.col))) (.int .u64 c.ver)) (.bool c.gone)) (.string (bstr c.val))
  rw [hW] at hb
  refine ⟨⟨_, hb, by simp⟩, ?_, ?_, ?_⟩
  · have hc := (mcells hb).1
    refine ⟨?_, ?_, ?_, ?_, ?_⟩ <;> (rw [hc]; simp [Array.getElem?_setIfInBounds]; try omega)
  · intro p hp
    rw [(mcells hb).1, (mcells h).1]
    simp only [Array.getElem?_setIfInBounds]
    (repeat' split) <;> first | rfl | (exfalso; omega)
  · intro i hi
    rw [← hW]
    rw [heap_set_other _ hi, heap_set_other _ hi, heap_set_other _ hi, heap_set_other _ hi, heap_set_other _ hi]
theorem kp_set5 {w W : World} {S : Nat → Prop} {n o : Nat} (a b c d e : Value) (h : Kp w W S) (hn : S n ∨ w.heap.size ≤ n) : Kp w (((((W.setCell ⟨n, o, none⟩ a).setCell ⟨n, o + 1, none⟩ b).setCell ⟨n, o + 2, none⟩ c).setCell ⟨n, o + 3, none⟩ d).setCell ⟨n, o + 4, none⟩ e) S :=
  ((((h.setCell _ hn).setCell _ hn).setCell _ hn).setCell _ hn).setCell _ hn
/-- The list that Of makes, i of its cells laid. -/
structure OfB (w0 w : World) (vb lb : Nat) (cs : List Cl) (i : Nat) : Prop where
  v : w.heap[vb]? = some (.cells #[.slice (some ⟨lb, 0, none⟩) cs.length cs.length] 29 (0, 0))
  l : ∃ cur, w.heap[lb]? = some (.cells cur 39 (0, 0)) ∧ cur.size = cs.length * 5
  r : CRow w lb 0 (cs.take i)
  k : Below w0.heap.size w0 w
theorem OfB.below {w0 w w' : World} {vb lb : Nat} {cs : List Cl} {i : Nat} (h : OfB w0 w vb lb cs i) (hb : Below w.heap.size w w') : OfB w0 w' vb lb cs i := by
  obtain ⟨cur, h1, h2⟩ := h.l
  have e := hb.block lb (blk_lt h1)
  exact ⟨(hb.block vb (blk_lt h.v)).trans h.v, ⟨cur, e.trans h1, h2⟩, h.r.blk e, below2 h.k hb⟩
theorem OfB.put {w0 w w' : World} {vb lb : Nat} {cs : List Cl} {i : Nat} {c : Cl} (h : OfB w0 w vb lb cs i) (hc : cs[i]? = some c) (hne : vb ≠ lb) (hl : w0.heap.size ≤ lb)
    (hW : ((((w.setCell ⟨lb, i * 5, none⟩ (.string (bstr c.row))).setCell ⟨lb, i * 5 + 1, none⟩ (.string (bstr c.col))).setCell ⟨lb, i * 5 + 2, none⟩ (.int .u64 c.ver)).setCell ⟨lb, i * 5 + 3, none⟩ (.bool c.gone)).setCell ⟨lb, i * 5 + 4, none⟩ (.string (bstr c.val)) = w') : OfB w0 w' vb lb cs (i + 1) := by
  obtain ⟨hi, _⟩ := List.getElem?_eq_some_iff.1 hc
  obtain ⟨cur, h1, h2⟩ := h.l
  obtain ⟨⟨cur', p1, p2⟩, p3, p4, p5⟩ := put5_reads h1 (by omega) hW
  refine ⟨(p5 vb hne).trans h.v, ⟨cur', p1, p2.trans h2⟩, ?_, ?_⟩
  · intro j hj
    rw [List.length_take] at hj
    by_cases hji : j = i
    · subst hji
      have e : (cs.take (j + 1))[j]'(by rw [List.length_take]; exact hj) = c := by
        rw [List.getElem_take]
        obtain ⟨_, rfl⟩ := List.getElem?_eq_some_iff.1 hc
        rfl
      rw [e, Nat.zero_add]
      exact p3
    · have hj2 : j < (cs.take i).length := by rw [List.length_take]; omega
      have := h.r j hj2
      have e : (cs.take (i + 1))[j]'(by rw [List.length_take]; exact hj) = (cs.take i)[j] := by rw [List.getElem_take, List.getElem_take]
      rw [e]
      obtain ⟨q0, q1, q2, q3, q4⟩ := this
      exact ⟨by rw [p4 _ (by omega)]; exact q0, by rw [p4 _ (by omega)]; exact q1, by rw [p4 _ (by omega)]; exact q2, by rw [p4 _ (by omega)]; exact q3, by rw [p4 _ (by omega)]; exact q4⟩
  · have := kp_set5 (o := i * 5) (.string (bstr c.row)) (.string (bstr c.col)) (.int .u64 c.ver) (.bool c.gone) (.string (bstr c.val)) (Kp.refl w (fun j => j = lb)) (Or.inl rfl)
    rw [hW] at this
    refine ⟨this.os.trans h.k.os, this.tape.trans h.k.tape, this.output.trans h.k.output, Nat.le_trans h.k.size this.size, fun k hk => ?_⟩
    exact (this.block k (Nat.lt_of_lt_of_le hk h.k.size) (fun e => by omega)).trans (h.k.block k hk)
theorem OfB.facts {w0 w : World} {vb lb : Nat} {cs : List Cl} {i : Nat} (h : OfB w0 w vb lb cs i) (hi : i < cs.length) : w.cell? ⟨vb, 0, none⟩ = some (.slice (some ⟨lb, 0, none⟩) cs.length cs.length) ∧
    ∃ u0 u1 u2 u3 u4, w.cell? ⟨lb, i * 5, none⟩ = some u0 ∧ w.cell? ⟨lb, i * 5 + 1, none⟩ = some u1 ∧ w.cell? ⟨lb, i * 5 + 2, none⟩ = some u2 ∧ w.cell? ⟨lb, i * 5 + 3, none⟩ = some u3 ∧ w.cell? ⟨lb, i * 5 + 4, none⟩ = some u4 ∧
      ∀ o, w.frozen? ⟨lb, o, none⟩ = false := by
  obtain ⟨cur, h1, h2⟩ := h.l
  obtain ⟨a, b⟩ := mcells h1
  refine ⟨(mcells h.v).1 0, _, _, _, _, _, (a _).trans (Array.getElem?_eq_getElem (by omega)), (a _).trans (Array.getElem?_eq_getElem (by omega)), (a _).trans (Array.getElem?_eq_getElem (by omega)), (a _).trans (Array.getElem?_eq_getElem (by omega)), (a _).trans (Array.getElem?_eq_getElem (by omega)), b⟩

theorem makeC_run (n : Nat) (hn : n * 64 ≤ 140737488355328) (w : World) : (Instr.makeSlice 29 (.int .i64 (n : Int)) (.int .i64 (n : Int))).run Try.prog w = .ok (.slice (some ⟨w.heap.size, 0, none⟩) n n) (w.alloc (.cells (madeCells (Value.agg #[.string ⟨#[]⟩, .string ⟨#[]⟩, .int .u64 0, .bool false, .string ⟨#[]⟩]).cells (n * 5)) 39)) := by
  obtain ⟨i0, hi, hz0, hz1, hz2⟩ := info_parts Try.infoCell
  have := run_make (P := Try.prog) (w := w) 29 39 i0 _ Try.underlying29 hi hz0 .i64 .i64 (n : Int) (n : Int) (by omega) (by omega) (by rw [hz2]; omega) (by omega)
  rw [Int.toNat_natCast, hz1] at this
  exact this

set_option maxHeartbeats 4000000 in
set_option maxRecDepth 100000 in
theorem Of_any (q : Option Addr) (b off cap : Nat) (cs : List Cl) (w : World) (hq : 0 < cs.length → q = some ⟨b, off, none⟩ ∧ CRow w b off cs ∧ b < w.heap.size) (hf : ∀ c ∈ cs, Fits c) (hn : cs.length * 64 ≤ 140737488355328) :
    Calls Try.prog 16 #[.slice q cs.length cap] w fun e w' => ∃ vb lb, e = .returned (.func (.func 43) #[] #[.pointer (some ⟨vb, 0, none⟩)]) ∧ OfJ vb lb cs 0 w' ∧ vb ≠ lb ∧ w.heap.size ≤ vb ∧ w.heap.size ≤ lb ∧ Below w.heap.size w w' := by
  have hmk := fun W => makeC_run cs.length hn W
  have hmf : ∀ (fn : Fn) (first cap : Array Value) (w : World), (Instr.makeFunc fn first cap).run Try.prog w = .ok (.func fn first cap) w := fun _ _ _ _ => rfl
  go_enter Try.func16, Try.ntmps16
  go_wp2
  have hB0 : OfB w ((w.alloc (.cells (madeCells #[.string ⟨#[]⟩, .string ⟨#[]⟩, .int .u64 0, .bool false, .string ⟨#[]⟩] (cs.length * 5)) 39)).alloc (.cells #[.slice (some ⟨w.heap.size, 0, none⟩) cs.length cs.length] 29)) (w.heap.size + 1) w.heap.size cs 0 := by
    refine ⟨?_, ⟨_, (heap_alloc_old _ _ (by simp)).trans (heap_alloc_new w _), size_madeCells _ _⟩, fun j hj => absurd hj (by simp), ((Below.refl _ _).alloc (Nat.le_refl _) _).alloc (by simp) _⟩
    have := heap_alloc_new (w.alloc (.cells (madeCells #[.string ⟨#[]⟩, .string ⟨#[]⟩, .int .u64 0, .bool false, .string ⟨#[]⟩] (cs.length * 5)) 39)) (.cells #[.slice (some ⟨w.heap.size, 0, none⟩) cs.length cs.length] 29)
    simpa using this
  generalize (w.alloc (.cells (madeCells #[.string ⟨#[]⟩, .string ⟨#[]⟩, .int .u64 0, .bool false, .string ⟨#[]⟩] (cs.length * 5)) 39)).alloc (.cells #[.slice (some ⟨w.heap.size, 0, none⟩) cs.length cs.length] 29) = w0 at *
  go_loopw [11] (fun s11 wr => ∃ i : Nat, s11 = .int .i64 (i : Int) ∧ i ≤ cs.length ∧ OfB w wr (w.heap.size + 1) w.heap.size cs i) (fun s11 _ => cs.length - (intOf s11).toNat)
  case atStart => exact ⟨0, rfl, by omega, hB0⟩
  case round =>
    obtain ⟨i, rfl, hil, hO⟩ := hrel
    by_cases hlt : i < cs.length
    · obtain ⟨rfl, hR, hbl⟩ := hq (by omega)
      obtain ⟨c, hc⟩ : ∃ c, cs[i]? = some c := ⟨_, List.getElem?_eq_getElem hlt⟩
      have hAt := (hR.step hO.k hbl).get hc
      have hfi := hf c (List.mem_of_getElem? hc)
      have hO1 := hO.below ((Below.refl _ _).alloc (Nat.le_refl _) (.cells #[.string (bstr c.row), .string (bstr c.col), .int .u64 c.ver, .bool c.gone, .string (bstr c.val)] 39))
      have hA1 := At5.new wr c 39 rfl
      have hvs := blk_lt hO.v
      have hne1 : w.heap.size ≠ wr.heap.size := by omega
      have hne2 : wr.heap.size ≠ w.heap.size := by omega
      obtain ⟨v0, _⟩ := hO.facts hlt
      obtain ⟨v1, _⟩ := hO1.facts hlt
      have HC : Hid _ := hc
      have HF : Hid _ := hfi
      have HO : Hid _ := hO1
      clear hc hfi hO hO1
      obtain ⟨r, k, v, g, x⟩ := c
      obtain ⟨a0, a1, a2, a3, a4⟩ := hAt
      have l1 := hA1.lt
      have HA : Hid _ := hA1
      obtain ⟨e0, e1, e2, e3, e4⟩ := hA1
      simp only [Nat.zero_add] at a0 a1 a2 a3 a4 e0 e1 e2 e3 e4 v1
      go_wp2_with fail
      generalize hw1 : wr.alloc (.cells #[.string (bstr r), .string (bstr k), .int .u64 v, .bool g, .string (bstr x)] 39) = w1 at *
      clear a0 a1 a2 a3 a4 v0 hw1 hB0
      go_region_held3 (fun w' => w'.cell? ⟨w.heap.size + 1, 0, none⟩ = some (.slice (some ⟨w.heap.size, 0, none⟩) cs.length cs.length) ∧ w'.cell? ⟨wr.heap.size, 0, none⟩ = some (.string (bstr r)) ∧ w'.cell? ⟨wr.heap.size, 1, none⟩ = some (.string (bstr k)) ∧ w'.cell? ⟨wr.heap.size, 2, none⟩ = some (.int .u64 v) ∧ w'.cell? ⟨wr.heap.size, 3, none⟩ = some (.bool g) ∧ w'.cell? ⟨wr.heap.size, 4, none⟩ = some (.string (bstr x))) (first | with_reducible exact ⟨v1, e0, e1, e2, e3, e4⟩ | with_reducible exact ⟨v2, f0, f1, f2, f3, f4⟩ | go_keep)
        (first | (go_at_call 42; refine (mfresh_any ⟨r, k, v, g, x⟩ _ HF.out).mono ?_; rintro e w2 ⟨rfl, hb2⟩; have hb := below2 (Below.refl w1.heap.size w1).drew hb2; have hO2 : Hid _ := HO.out.below hb; have hA2 := HA.out.step hb l1; obtain ⟨f0, f1, f2, f3, f4⟩ := hA2; simp only [Nat.zero_add] at f0 f1 f2 f3 f4; obtain ⟨v2, u0, u1, u2, u3, u4, p0, p1, p2, p3, p4, pf⟩ := hO2.out.facts hlt; have pf0 := pf (i * 5); have pf1 := pf (i * 5 + 1); have pf2 := pf (i * 5 + 2); have pf3 := pf (i * 5 + 3); have pf4 := pf (i * 5 + 4); clear pf hb2))
      go_wp2
      go_roundw
      case rel => exact ⟨i + 1, by go_num, by omega, hO2.out.put HC.out (by omega) (by omega) rfl⟩
      case measure => simp [intOf]; omega
    · have hie : i = cs.length := by omega
      subst hie
      have HO : Hid _ := hO
      go_wp2
      go_ret
      have h := HO.out
      obtain ⟨cur, h1, h2⟩ := h.l
      refine ⟨_, _, rfl, ⟨⟨_, _, h.v, by omega, fun _ => by rw [Nat.zero_mul]⟩, by have := h.r; rw [List.take_length] at this; exact this⟩, by omega, by omega, by omega, h.k⟩

theorem Of_eg : ∀ args w, (callFunc 43 args).run Try.prog w = .ok (.enter 43 args) w := enters_of Try.func43 (by kernel_rfl) rfl
/-- The row of a list is one that tells its cells. -/
theorem Of_tlr (vb lb : Nat) (cs : List Cl) (hne : vb ≠ lb) (hf : ∀ c ∈ cs, Fits c) : Tlr 43 #[.pointer (some ⟨vb, 0, none⟩)] (OfF vb lb cs) cs (OfJ vb lb cs) where
  eg := Of_eg
  fits := hf
  lt _ _ h i hi := h.lt i hi
  kept _ _ _ h hk := h.kept hk
  step n w h := Of1_step vb lb cs n w h (fun _ => hne)

end Go.Proofs.Ytnpjbdbhjbccbaa

