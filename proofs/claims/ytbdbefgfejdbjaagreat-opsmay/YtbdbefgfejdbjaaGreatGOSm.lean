/-
  Two rows of numbers compared.
  Two entries compared.
-/
import Derived.Test.YtbdbefgfejdbjaaGreatGOLst
import Derived.Test.YtbdbefgfejdbjaaGreatGOOpen2
namespace Go.Proofs.YtbdbefgfejdbjaaGreat
open Go.RowKit Go.BigFrame
attribute [local go_sem] size_bstr toList_bstr

set_option maxHeartbeats 4000000 in
set_option maxRecDepth 100000 in
theorem oEql_any (q : Option Addr) (cap : Nat) (l : List Int) (q2 : Option Addr) (cap2 : Nat) (m : List Int) (w : World) (h : IArg w q l) (h2 : IArg w q2 m) (hl : l.length ≤ 9223372036854775807) :
    Calls Tryz.prog 56 #[.slice q l.length cap, .slice q2 m.length cap2] w fun e w' => e = .returned (.bool (decide (l = m))) ∧ Below w.heap.size w w' := by
  obtain ⟨ok, hok⟩ : ∃ ok, ok = decide (l = m) := ⟨_, rfl⟩
  rw [← hok]
  have HOK : Hid (ok = decide (l = m)) := hok
  clear hok
  go_enter Tryz.func56, Tryz.ntmps56
  by_cases hn : l.length = m.length
  case neg =>
    have h' : ((l.length : Int) == (m.length : Int)) = false := beq_eq_false_iff_ne.2 (by omega)
    have ho : ok = false := by
      rw [HOK.out]
      exact decide_eq_false fun e => hn (by rw [e])
    subst ho
    go_wp2
    go_ret
    exact ⟨rfl, Below.refl _ _⟩
  case pos =>
  have h' : ((l.length : Int) == (m.length : Int)) = true := beq_iff_eq.2 (by omega)
  go_wp2
  go_loopw [13] (fun s13 wr => ∃ (i : Nat), s13 = .int .i64 (i : Int) ∧ i ≤ l.length ∧ Hid (∀ j (hj : j < i) (a : j < l.length) (b : j < m.length), l[j] = m[j]) ∧ Below w.heap.size w wr) (fun s13 _ => l.length + 1 - (intOf s13).toNat)
  case atStart => exact ⟨0, rfl, by omega, (fun j hj => absurd hj (by omega) : ∀ j (_ : j < 0) (a : j < l.length) (b : j < m.length), l[j] = m[j]), Below.refl _ _⟩
  case round =>
    obtain ⟨i, rfl, hil, hs, hbr⟩ := hrel
    by_cases hlt : i < l.length
    · have hi1 : (i : Int) < (l.length : Int) := by omega
      have hi2 : (i : Int) < (m.length : Int) := by omega
      have hlt2 : i < m.length := by omega
      obtain ⟨b, off, rfl, hr⟩ := h (by omega)
      obtain ⟨b2, off2, rfl, hr2⟩ := h2 (by omega)
      have c0 := cell_below hbr (hr i hlt)
      have c1 := cell_below hbr (hr2 i hlt2)
      obtain ⟨x, hx⟩ : ∃ x, x = l[i] := ⟨_, rfl⟩
      obtain ⟨y, hy⟩ : ∃ y, y = m[i] := ⟨_, rfl⟩
      rw [← hx] at c0
      rw [← hy] at c1
      have HX : Hid (x = l[i]) := hx
      have HY : Hid (y = m[i]) := hy
      clear hx hy hr hr2
      by_cases hxy : x = y
      · have e1 : (x == y) = true := beq_iff_eq.2 hxy
        have HS : Hid (∀ j (hj : j < i + 1) (a : j < l.length) (b : j < m.length), l[j] = m[j]) := by
          show ∀ j (hj : j < i + 1) (a : j < l.length) (b : j < m.length), l[j] = m[j]
          intro j hj a b
          rcases Nat.lt_or_ge j i with hj | hj
          · exact hs.out j hj a b
          · obtain rfl : j = i := by omega
            rw [← HX.out, ← HY.out, hxy]
        clear hs hxy HX HY
        go_wp2
        go_region
        go_wp2
        go_roundw
        case rel => exact ⟨i + 1, by simp, by omega, HS.out, hbr.drew⟩
        case measure => simp [intOf]; omega
      · have e1 : (x == y) = false := beq_eq_false_iff_ne.2 hxy
        have ho : ok = false := by
          rw [HOK.out]
          refine decide_eq_false fun e => hxy ?_
          rw [HX.out, HY.out]
          simp only [e]
        subst ho
        clear hs HX HY hxy
        go_wp2
        go_region
        go_wp2
        go_ret
        exact ⟨rfl, hbr.drew⟩
    · obtain rfl : i = l.length := by omega
      have ho : ok = true := by
        rw [HOK.out]
        refine decide_eq_true (List.ext_getElem hn fun j a b => hs.out j a a b)
      subst ho
      clear hs
      go_wp2
      go_ret
      exact ⟨rfl, hbr⟩

end Go.Proofs.YtbdbefgfejdbjaaGreat

namespace Go.Proofs.YtbdbefgfejdbjaaGreat
open Go.RowKit Go.BigFrame
attribute [local go_sem] size_bstr toList_bstr

def sameE (a b : Et) : Bool := decide (a.ix = b.ix) && decide (a.te = b.te) && decide (a.kd = b.kd) && decide (a.cm = b.cm) && decide (a.mem = b.mem)

set_option maxHeartbeats 8000000 in
set_option maxRecDepth 100000 in
theorem oSm_any (a b : Et) (w : World) (ha : IArg w a.q a.mem) (hb : IArg w b.q b.mem) (hl : a.mem.length ≤ 9223372036854775807) :
    Calls Tryz.prog 24 #[.agg (etC a).toArray, .agg (etC b).toArray] w fun e w' => e = .returned (.bool (sameE a b)) ∧ Below w.heap.size w w' := by
  obtain ⟨ix, te, kd, cm, mem, q, cap⟩ := a
  obtain ⟨ix2, te2, kd2, cm2, mem2, q2, cap2⟩ := b
  simp only at ha hb hl
  obtain ⟨ok, hok⟩ : ∃ ok, ok = sameE ⟨ix, te, kd, cm, mem, q, cap⟩ ⟨ix2, te2, kd2, cm2, mem2, q2, cap2⟩ := ⟨_, rfl⟩
  rw [← hok]
  have HOK : Hid (ok = (decide (ix = ix2) && decide (te = te2) && decide (kd = kd2) && decide (cm = cm2) && decide (mem = mem2))) := hok
  clear hok
  obtain ⟨w1, hw1⟩ : ∃ w1, w1 = (w.alloc (.cells (etC ⟨ix, te, kd, cm, mem, q, cap⟩).toArray 38)).alloc (.cells (etC ⟨ix2, te2, kd2, cm2, mem2, q2, cap2⟩).toArray 38) := ⟨_, rfl⟩
  have hb1 : Below w.heap.size w w1 := by rw [hw1]; exact ((Below.refl _ _).alloc (Nat.le_refl _) _).alloc (by simp) _
  have hx1 : Blk w1 w.heap.size 38 (etC ⟨ix, te, kd, cm, mem, q, cap⟩).toArray := by rw [hw1]; exact blk_below (blk_new w 38 _) ((Below.refl _ _).alloc (Nat.le_refl _) _)
  have hx2 : Blk w1 (w.heap.size + 1) 38 (etC ⟨ix2, te2, kd2, cm2, mem2, q2, cap2⟩).toArray := by
    have := blk_new (w.alloc (.cells (etC ⟨ix, te, kd, cm, mem, q, cap⟩).toArray 38)) 38 (etC ⟨ix2, te2, kd2, cm2, mem2, q2, cap2⟩).toArray
    rw [hw1]
    rw [show (w.alloc (.cells (etC ⟨ix, te, kd, cm, mem, q, cap⟩).toArray 38)).heap.size = w.heap.size + 1 from by simp] at this
    exact this
  have K := oEql_any q cap mem q2 cap2 mem2 w1 (ha.below hb1) (hb.below hb1) hl
  clear ha hb
  have r1 : w1.rangeAt w.heap.size 3 (cmC cm) := range_of_block hx1 [.int .u64 ix, .int .u64 te, .int .i64 kd] (cmC cm) [.slice q mem.length cap] rfl
  have r2 : w1.rangeAt (w.heap.size + 1) 3 (cmC cm2) := range_of_block hx2 [.int .u64 ix2, .int .u64 te2, .int .i64 kd2] (cmC cm2) [.slice q2 mem2.length cap2] rfl
  have n1 : (Tryz.prog.info? 28).map (·.size) = some (cmC cm).length := by kernel_rfl
  have n2 : (Tryz.prog.info? 28).map (·.size) = some (cmC cm2).length := by kernel_rfl
  have c0 : w1.cell? ⟨w.heap.size, 0, none⟩ = some (.int .u64 ix) := (mcells hx1).1 0
  have c1 : w1.cell? ⟨w.heap.size, 1, none⟩ = some (.int .u64 te) := (mcells hx1).1 1
  have c2 : w1.cell? ⟨w.heap.size, 2, none⟩ = some (.int .i64 kd) := (mcells hx1).1 2
  have c3 : w1.cell? ⟨w.heap.size, 23, none⟩ = some (.slice q mem.length cap) := (mcells hx1).1 23
  have d0 : w1.cell? ⟨w.heap.size + 1, 0, none⟩ = some (.int .u64 ix2) := (mcells hx2).1 0
  have d1 : w1.cell? ⟨w.heap.size + 1, 1, none⟩ = some (.int .u64 te2) := (mcells hx2).1 1
  have d2 : w1.cell? ⟨w.heap.size + 1, 2, none⟩ = some (.int .i64 kd2) := (mcells hx2).1 2
  have d3 : w1.cell? ⟨w.heap.size + 1, 23, none⟩ = some (.slice q2 mem2.length cap2) := (mcells hx2).1 23
  clear hx1 hx2
  have hq : ∀ W, (binOp .eql 28 (.agg (cmC cm).toArray) (.agg (cmC cm2).toArray)).run Tryz.prog W = .ok (.bool (decide (cm = cm2))) W := fun W => cm_eql cm cm2 W
  have hgu : ∀ (x y : Operand) (W : World), (eqGuard .eql 28 x y (.agg (cmC cm).toArray) (.agg (cmC cm2).toArray)).run Tryz.prog W = .ok () W := fun x y W => cm_guard .eql x y _ _ W
  go_enter Tryz.func24, Tryz.ntmps24
  go_upto_region 1 with fail
  rw [← hw1]
  clear hw1
  by_cases h0 : ix = ix2
  case neg =>
    have e0 : (ix == ix2) = false := beq_eq_false_iff_ne.2 h0
    have ho : ok = false := by rw [HOK.out, decide_eq_false h0]; rfl
    subst ho
    clear K hq hgu r1 r2 h0
    go_wp2
    go_ret
    exact ⟨rfl, hb1⟩
  case pos =>
  have e0 : (ix == ix2) = true := beq_iff_eq.2 h0
  rw [decide_eq_true h0] at HOK
  clear h0
  by_cases h0 : te = te2
  case neg =>
    have e1 : (te == te2) = false := beq_eq_false_iff_ne.2 h0
    have ho : ok = false := by rw [HOK.out, decide_eq_false h0]; rfl
    subst ho
    clear K hq hgu r1 r2 h0
    go_wp2
    go_ret
    exact ⟨rfl, hb1⟩
  case pos =>
  have e1 : (te == te2) = true := beq_iff_eq.2 h0
  rw [decide_eq_true h0] at HOK
  clear h0
  by_cases h0 : kd = kd2
  case neg =>
    have e2 : (kd == kd2) = false := beq_eq_false_iff_ne.2 h0
    have ho : ok = false := by rw [HOK.out, decide_eq_false h0]; rfl
    subst ho
    clear K hq hgu r1 r2 h0
    go_wp2
    go_ret
    exact ⟨rfl, hb1⟩
  case pos =>
  have e2 : (kd == kd2) = true := beq_iff_eq.2 h0
  rw [decide_eq_true h0] at HOK
  clear h0
  generalize decide (cm = cm2) = g at *
  generalize cmC cm = C at *
  generalize cmC cm2 = D at *
  cases g
  case false =>
    have ho : ok = false := by rw [HOK.out]; rfl
    subst ho
    clear K
    go_wp2_with (first | refine wpList_load_w (by kernel_rfl) 28 _ rfl w.heap.size 3 rfl C _ r1 Tryz.underlying28 rfl n1 ?_ | refine wpList_load_w (by kernel_rfl) 28 _ rfl (w.heap.size + 1) 3 rfl D _ r2 Tryz.underlying28 rfl n2 ?_ | fail)
    go_ret
    exact ⟨rfl, hb1⟩
  case true =>
    have ho : ok = decide (mem = mem2) := by rw [HOK.out]; rfl
    generalize decide (mem = mem2) = z at *
    subst ho
    go_wp2_with (first | refine wpList_load_w (by kernel_rfl) 28 _ rfl w.heap.size 3 rfl C _ r1 Tryz.underlying28 rfl n1 ?_ | refine wpList_load_w (by kernel_rfl) 28 _ rfl (w.heap.size + 1) 3 rfl D _ r2 Tryz.underlying28 rfl n2 ?_ | fail)
    refine K.mono ?_
    rintro e w2 ⟨rfl, hb2⟩
    have hB := below2 hb1 hb2
    clear hb1 hb2 r1 r2 K
    go_wp2
    go_ret
    exact ⟨rfl, hB⟩

end Go.Proofs.YtbdbefgfejdbjaaGreat
