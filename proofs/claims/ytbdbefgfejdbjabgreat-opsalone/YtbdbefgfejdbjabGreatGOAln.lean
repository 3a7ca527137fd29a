/-
  The ten commands that OpsAlone makes of one: which of them may be.
  The law OpsAlone. Written by mkoaln.py.
-/
import Derived.Test.YtbdbefgfejdbjabGreatGOFit
import Derived.Test.YtbdbefgfejdbjabGreatGOWk
namespace Go.Proofs.YtbdbefgfejdbjabGreat
open Go.RowKit Go.BigFrame

/-- The i-th field turned. -/
def altC (c : Cm) (i : Nat) (y : Int) : Cm :=
  match i with
  | 0 => { c with cl := c.cl + y }
  | 1 => { c with sq := c.sq + y }
  | 2 => { c with op := { c.op with kind := c.op.kind + y } }
  | 3 => { c with pr := c.pr + y }
  | 4 => { c with st := c.st + y }
  | 5 => { c with gr := c.gr + y }
  | 6 => { c with key := c.key ++ [107] }
  | 7 => { c with val := c.val ++ [118] }
  | 8 => { c with ep := c.ep + y }
  | _ => { c with wt := { c.wt with i := c.wt.i + y } }
def mayA (c : Cm) (i : Nat) : Bool :=
  match i with
  | 0 => decide (c.k = 1)
  | 1 => decide (c.k = 1)
  | 2 => decide (c.k = 1)
  | 3 => decide ((2 ≤ c.k ∧ c.k ≤ 5) ∨ c.k = 7)
  | 4 => decide ((2 ≤ c.k ∧ c.k ≤ 5) ∨ c.k = 7)
  | 5 => decide (c.k = 3)
  | 6 => decide (c.k = 3 ∨ c.k = 5)
  | 7 => decide (c.k = 5)
  | 8 => decide (c.k = 1 ∨ (2 ≤ c.k ∧ c.k ≤ 4))
  | _ => decide (c.k = 6)

theorem alt_no {c : Cm} (hk : okC c = true) {y : Int} (hy : 0 < y) (i : Nat) (hm : mayA c i = false) : okC (altC c i y) = false := by
  unfold mayA at hm
  unfold altC
  split at hm <;> simp only [decide_eq_false_iff_not] at hm
  · obtain ⟨e, h⟩ := al_cl hk hm; exact h _ (by omega)
  · obtain ⟨e, h⟩ := al_sq hk hm; exact h _ (by omega)
  · obtain ⟨e, h⟩ := al_op hk hm; exact h _ (by omega)
  · obtain ⟨e, h⟩ := al_pr hk (by unfold procK; exact hm); exact h _ (by omega)
  · obtain ⟨e, h⟩ := al_st hk (by unfold procK; exact hm); exact h _ (by omega)
  · obtain ⟨e, h⟩ := al_gr hk hm; exact h _ (by omega)
  · obtain ⟨e, h⟩ := al_key hk (by omega); exact h _ (by simp)
  · obtain ⟨e, h⟩ := al_val hk hm; exact h _ (by simp)
  · obtain ⟨e, h⟩ := al_ep hk (by omega); exact h _ (by omega)
  · obtain ⟨e, h⟩ := al_in hk hm; exact h _ (by omega)

end Go.Proofs.YtbdbefgfejdbjabGreat

namespace Go.Proofs.YtbdbefgfejdbjabGreat
open Go.RowKit Go.BigFrame
attribute [local go_sem] size_bstr toList_bstr

theorem may_or {c : Cm} (hk : okC c = true) {y : Int} (hy : 0 < y) (i : Nat) {m : Bool} (h : m = mayA c i) : m = true ∨ okC (altC c i y) = false := by
  cases hm : mayA c i with
  | true => exact .inl (h.trans hm)
  | false => exact .inr (alt_no hk hy i hm)
theorem may_proc {c : Cm} {m : Bool} (h : m = (decide (2 ≤ c.k ∧ c.k ≤ 5) || decide (c.k = 7))) : m = mayA c 3 ∧ m = mayA c 4 := by
  have : decide ((2 ≤ c.k ∧ c.k ≤ 5) ∨ c.k = 7) = (decide (2 ≤ c.k ∧ c.k ≤ 5) || decide (c.k = 7)) := by
    by_cases h1 : (2 ≤ c.k ∧ c.k ≤ 5) <;> by_cases h2 : c.k = 7 <;> simp [h1, h2]
  exact ⟨h.trans this.symm, h.trans this.symm⟩
set_option maxHeartbeats 16000000 in
set_option maxRecDepth 100000 in
theorem OAlone_any (c : Cm) (n : Nat) (w : World) (hn : n < 256) (hsq : 0 ≤ c.sq ∧ c.sq ≤ 18446744073709551615) (hep : 0 ≤ c.ep ∧ c.ep ≤ 18446744073709551615) :
    Calls Tryz.prog 4 #[.agg (cmC c).toArray, .int .u8 (n : Int)] w fun e w' => e = .returned (.bool true) ∧ Below w.heap.size w w' := by
  have K := fun W => oCmd_any c W
  have hC : (cmC c).length = 20 := rfl
  have hin : (Tryz.prog.info? 40).map (·.size) = some (cmC c).length := by rw [hC]; kernel_rfl
  obtain ⟨w1, hw1⟩ : ∃ w1, w1 = w.alloc (.cells (cmC c).toArray 40) := ⟨_, rfl⟩
  have hB1 : Below w.heap.size w w1 := by rw [hw1]; exact (Below.refl _ _).alloc (Nat.le_refl _) _
  have hx1 : Blk w1 w.heap.size 40 (cmC c).toArray := by rw [hw1]; exact blk_new w _ _
  have HW : Hid _ := hw1
  clear hw1
  obtain ⟨m, hm⟩ : ∃ m : Nat, m = n % 3 := ⟨_, rfl⟩
  have hmz : (n : Int) % 3 = (m : Int) := by omega
  have hm2 : m ≤ 2 := by omega
  have HMW : Hid _ := hm
  clear hm
  go_enter Tryz.func4, Tryz.ntmps4
  go_upto_region 1 with fail
  have hw1 := HW.out
  rw [← hw1]
  clear hw1 HW
  go_wp2_with fail
  refine (works16_any _).mono ?_
  rintro x w2 ⟨rfl, hb2⟩
  have hx2 := blk_below hx1 hb2
  have hB2 := below2 hB1 hb2
  clear hx1 hB1 hb2
  have hr2 : w2.rangeAt w.heap.size 0 (cmC c) := range_of_block hx2 [] _ [] (by simp)
  go_wp2_with (first | refine wpList_load_mid rfl 40 _ rfl w.heap.size 0 rfl (cmC c) _ hr2 Tryz.underlying40 rfl hin ?_ | fail)
  refine (K _).mono ?_
  rintro x w3 ⟨rfl, hb3⟩
  have hx3 := blk_below hx2 hb3
  have hB3 := below2 hB2 hb3
  clear hr2 hx2 hB2 hb3 K
  by_cases hk : okC c = true
  case neg =>
    rw [if_neg hk]
    clear hk
    go_wp2
    go_ret
    exact ⟨rfl, hB3⟩
  case pos =>
  rw [if_pos hk]
  have ckk : w3.cell? ⟨w.heap.size, 0, none⟩ = some (.int .i64 c.k) := (mcells hx3).1 0
  have HK : Hid (okC c = true) := hk
  have HBD : Hid (Bnd c) := ok_bnd hk
  clear hk
  go_upto_region 6 with fail
  go_upto_region 7 with fail
  have hy : (1 : Int) ≤ 1 + (m : Int) ∧ 1 + (m : Int) ≤ 3 := by omega
  generalize (1 + (m : Int)) = y at *
  have HR : Hid ((c.k == 1) = mayA c 0 ∧ (c.k == 1) = mayA c 1 ∧ (c.k == 1) = mayA c 2) := ⟨rfl, rfl, rfl⟩
  generalize hRR : (c.k == 1) = R at *
  have HRR : Hid _ := hRR
  clear hRR
  clear hmz hm2 HMW
  go_cut [7] from 23 to 36 (fun s7 wx => (∃ p : Bool, s7 = .bool p ∧ Hid (p = (decide (2 ≤ c.k ∧ c.k ≤ 5) || decide (c.k = 7)))) ∧ wx = w3)
  case first =>
    by_cases h1 : 2 ≤ c.k
    · by_cases h2 : c.k ≤ 5
      · have e : Hid (true = (decide (2 ≤ c.k ∧ c.k ≤ 5) || decide (c.k = 7))) := by show _ = _; simp [h1, h2]
        go_wp2
        go_meet
        case rel => exact ⟨⟨true, rfl, e⟩, rfl⟩
      · by_cases h3 : c.k = 7
        · have e : Hid (true = (decide (2 ≤ c.k ∧ c.k ≤ 5) || decide (c.k = 7))) := by show _ = _; simp [h3]
          have e7 : (c.k == 7) = true := beq_iff_eq.2 h3
          clear h3
          go_wp2
          go_meet
          case rel => exact ⟨⟨true, rfl, e⟩, rfl⟩
        · have e : Hid (false = (decide (2 ≤ c.k ∧ c.k ≤ 5) || decide (c.k = 7))) := by show _ = _; simp [h2, h3]
          have e7 : (c.k == 7) = false := beq_eq_false_iff_ne.2 h3
          clear h3
          go_wp2
          go_meet
          case rel => exact ⟨⟨false, rfl, e⟩, rfl⟩
    · by_cases h3 : c.k = 7
      · exact absurd h3 (by omega)
      · have e : Hid (false = (decide (2 ≤ c.k ∧ c.k ≤ 5) || decide (c.k = 7))) := by show _ = _; simp [h1, h3]
        have e7 : (c.k == 7) = false := beq_eq_false_iff_ne.2 h3
        clear h3
        go_wp2
        go_meet
        case rel => exact ⟨⟨false, rfl, e⟩, rfl⟩
  case rest =>
  obtain ⟨⟨p, rfl, HP⟩, rfl⟩ := hcut
  clear ckk
  go_wp2
  go_loopw [8, 9, 10] (fun s8 s9 s10 wr => ∃ i : Nat, s8 = .int .i64 (i : Int) ∧ i ≤ 10 ∧ Blk wr w.heap.size 40 (cmC c).toArray ∧ Below w.heap.size w wr) (fun s8 _ _ _ => 10 - (intOf s8).toNat)
  case atStart => exact ⟨0, rfl, by omega, hx3, hB3⟩
  case round =>
    obtain ⟨i, rfl, hi, hx, hB⟩ := hrel
    by_cases hlt : i < 10
    · have hi1 : (i : Int) < 10 := by omega
      have hr : wr.rangeAt w.heap.size 0 (cmC c) := range_of_block hx [] _ [] (by simp)
      obtain ⟨g, hg⟩ : ∃ g, g = wr.heap.size := ⟨_, rfl⟩
      obtain ⟨w4, hw4⟩ : ∃ w4, w4 = (wr.alloc (.cells #[.int .i64 0, .int .i64 0, .int .u64 0, .int .u64 0, .int .i64 0, .string ⟨#[]⟩, .string ⟨#[]⟩, .string ⟨#[]⟩, .bool false, .string ⟨#[]⟩, .int .u64 0, .int .i64 0, .string ⟨#[]⟩, .string ⟨#[]⟩, .int .i64 0, .bool false, .int .i64 0, .string ⟨#[]⟩, .int .i64 0, .int .i64 0] 40)).setCells wr.heap.size 0 (cmC c).toArray.toList := ⟨_, rfl⟩
      have hz4 : Blk w4 g 40 (cmC c).toArray := by rw [hw4, hg]; exact blk_store (blk_new wr 40 #[.int .i64 0, .int .i64 0, .int .u64 0, .int .u64 0, .int .i64 0, .string ⟨#[]⟩, .string ⟨#[]⟩, .string ⟨#[]⟩, .bool false, .string ⟨#[]⟩, .int .u64 0, .int .i64 0, .string ⟨#[]⟩, .string ⟨#[]⟩, .int .i64 0, .bool false, .int .i64 0, .string ⟨#[]⟩, .int .i64 0, .int .i64 0]) rfl
      have hB4 : Below wr.heap.size wr w4 := by rw [hw4]; exact bel_cells (Nat.le_refl _) _ _ ((Below.refl _ _).alloc (Nat.le_refl _) _)
      have hx4 := blk_below hx hB4
      have hgw : w.heap.size < g := by rw [hg]; exact blk_lt hx
      have hB5 := below2 hB hB4
      have HG : Hid (w.heap.size < g) := hgw
      have HW4 : Hid _ := hw4
      have HGE : Hid _ := hg
      have HZ4 : Hid _ := hz4
      have HX4 : Hid _ := hx4
      have HB5 : Hid _ := hB5
      clear hw4 hg hgw hz4 hB4 hx4 hx hB hB5
      go_upto_region 12 with (first | refine wpList_load_mid rfl 40 _ rfl w.heap.size 0 rfl (cmC c) _ hr Tryz.underlying40 rfl hin ?_ | refine wpList_store_mid rfl 40 _ _ rfl wr.heap.size 0 (cmC c).toArray rfl rfl (blk_there (blk_new wr _ _) rfl) hin (by kernel_rfl) ?_ | fail)
      have hw4 := HW4.out
      have hg := HGE.out
      rw [← hg] at hw4 ⊢
      rw [← hw4]
      clear hw4 hg HW4 HGE hr
      go_upto_region 13 with fail
      go_upto_block 2 with fail
      go_cut [10] from 36 to 154 (fun s10 wx => (∃ (b : Bool) (X : Cm), s10 = .bool b ∧ Hid (Blk wx g 40 (cmC X).toArray) ∧ Hid (b = true ∨ okC X = false)) ∧ Hid (Blk wx w.heap.size 40 (cmC c).toArray) ∧ Hid (Below w.heap.size w wx))
      case first =>
        have ck : w4.cell? ⟨w.heap.size, 0, none⟩ = some (.int .i64 c.k) := (mcells HX4.out).1 0
        have HD : Hid (w.heap.size ≠ g ∧ w.heap.size ≤ g) := ⟨Nat.ne_of_lt HG.out, Nat.le_of_lt HG.out⟩
        rcases (show i = 0 ∨ i = 1 ∨ i = 2 ∨ i = 3 ∨ i = 4 ∨ i = 5 ∨ i = 6 ∨ i = 7 ∨ i = 8 ∨ i = 9 by omega) with rfl | rfl | rfl | rfl | rfl | rfl | rfl | rfl | rfl | rfl
        · have hbd := HBD.out.cl
          have hv1 : -9223372036854775808 ≤ c.cl + y := by omega
          have hv2 : c.cl + y ≤ 9223372036854775807 := by omega
          have hv3 : 0 ≤ c.cl + y := by omega
          have cz : w4.cell? ⟨g, 1, none⟩ = some (.int .i64 c.cl) := (mcells HZ4.out).1 1
          have fz : w4.frozen? ⟨g, 1, none⟩ = false := (mcells HZ4.out).2 1
          have HY : Hid (Blk (w4.setCell ⟨g, 1, none⟩ (.int .i64 (c.cl + y))) g 40 (cmC (altC c 0 y)).toArray) := heap_set_same HZ4.out (o := 1) (.int .i64 (c.cl + y))
          have HX : Hid (Blk (w4.setCell ⟨g, 1, none⟩ (.int .i64 (c.cl + y))) w.heap.size 40 (cmC c).toArray) := blk_other HX4.out HD.out.1
          have HB : Hid (Below w.heap.size w (w4.setCell ⟨g, 1, none⟩ (.int .i64 (c.cl + y)))) := bel_set HB5.out HD.out.2
          go_wp2
          go_meet
          case rel => exact ⟨⟨_, _, rfl, HY, may_or HK.out (by omega) 0 (HR.out.1)⟩, HX, HB⟩
        · have hbd := HBD.out.sq
          have hv1 : -9223372036854775808 ≤ c.sq + y := by omega
          have hv2 : c.sq + y ≤ 9223372036854775807 := by omega
          have hv3 : 0 ≤ c.sq + y := by omega
          have cz : w4.cell? ⟨g, 2, none⟩ = some (.int .u64 c.sq) := (mcells HZ4.out).1 2
          have fz : w4.frozen? ⟨g, 2, none⟩ = false := (mcells HZ4.out).2 2
          have HY : Hid (Blk (w4.setCell ⟨g, 2, none⟩ (.int .u64 (c.sq + y))) g 40 (cmC (altC c 1 y)).toArray) := heap_set_same HZ4.out (o := 2) (.int .u64 (c.sq + y))
          have HX : Hid (Blk (w4.setCell ⟨g, 2, none⟩ (.int .u64 (c.sq + y))) w.heap.size 40 (cmC c).toArray) := blk_other HX4.out HD.out.1
          have HB : Hid (Below w.heap.size w (w4.setCell ⟨g, 2, none⟩ (.int .u64 (c.sq + y)))) := bel_set HB5.out HD.out.2
          go_wp2
          go_meet
          case rel => exact ⟨⟨_, _, rfl, HY, may_or HK.out (by omega) 1 (HR.out.2.1)⟩, HX, HB⟩
        · have hbd := HBD.out.ok
          have hv1 : -9223372036854775808 ≤ c.op.kind + y := by omega
          have hv2 : c.op.kind + y ≤ 9223372036854775807 := by omega
          have hv3 : 0 ≤ c.op.kind + y := by omega
          have cz : w4.cell? ⟨g, 4, none⟩ = some (.int .i64 c.op.kind) := (mcells HZ4.out).1 4
          have fz : w4.frozen? ⟨g, 4, none⟩ = false := (mcells HZ4.out).2 4
          have HY : Hid (Blk (w4.setCell ⟨g, 4, none⟩ (.int .i64 (c.op.kind + y))) g 40 (cmC (altC c 2 y)).toArray) := heap_set_same HZ4.out (o := 4) (.int .i64 (c.op.kind + y))
          have HX : Hid (Blk (w4.setCell ⟨g, 4, none⟩ (.int .i64 (c.op.kind + y))) w.heap.size 40 (cmC c).toArray) := blk_other HX4.out HD.out.1
          have HB : Hid (Below w.heap.size w (w4.setCell ⟨g, 4, none⟩ (.int .i64 (c.op.kind + y)))) := bel_set HB5.out HD.out.2
          go_wp2
          go_meet
          case rel => exact ⟨⟨_, _, rfl, HY, may_or HK.out (by omega) 2 (HR.out.2.2)⟩, HX, HB⟩
        · have hbd := HBD.out.pr
          have hv1 : -9223372036854775808 ≤ c.pr + y := by omega
          have hv2 : c.pr + y ≤ 9223372036854775807 := by omega
          have hv3 : 0 ≤ c.pr + y := by omega
          have cz : w4.cell? ⟨g, 10, none⟩ = some (.int .u64 c.pr) := (mcells HZ4.out).1 10
          have fz : w4.frozen? ⟨g, 10, none⟩ = false := (mcells HZ4.out).2 10
          have HY : Hid (Blk (w4.setCell ⟨g, 10, none⟩ (.int .u64 (c.pr + y))) g 40 (cmC (altC c 3 y)).toArray) := heap_set_same HZ4.out (o := 10) (.int .u64 (c.pr + y))
          have HX : Hid (Blk (w4.setCell ⟨g, 10, none⟩ (.int .u64 (c.pr + y))) w.heap.size 40 (cmC c).toArray) := blk_other HX4.out HD.out.1
          have HB : Hid (Below w.heap.size w (w4.setCell ⟨g, 10, none⟩ (.int .u64 (c.pr + y)))) := bel_set HB5.out HD.out.2
          go_wp2
          go_meet
          case rel => exact ⟨⟨_, _, rfl, HY, may_or HK.out (by omega) 3 ((may_proc HP.out).1)⟩, HX, HB⟩
        · have hbd := HBD.out.st
          have hv1 : -9223372036854775808 ≤ c.st + y := by omega
          have hv2 : c.st + y ≤ 9223372036854775807 := by omega
          have hv3 : 0 ≤ c.st + y := by omega
          have cz : w4.cell? ⟨g, 11, none⟩ = some (.int .i64 c.st) := (mcells HZ4.out).1 11
          have fz : w4.frozen? ⟨g, 11, none⟩ = false := (mcells HZ4.out).2 11
          have HY : Hid (Blk (w4.setCell ⟨g, 11, none⟩ (.int .i64 (c.st + y))) g 40 (cmC (altC c 4 y)).toArray) := heap_set_same HZ4.out (o := 11) (.int .i64 (c.st + y))
          have HX : Hid (Blk (w4.setCell ⟨g, 11, none⟩ (.int .i64 (c.st + y))) w.heap.size 40 (cmC c).toArray) := blk_other HX4.out HD.out.1
          have HB : Hid (Below w.heap.size w (w4.setCell ⟨g, 11, none⟩ (.int .i64 (c.st + y)))) := bel_set HB5.out HD.out.2
          go_wp2
          go_meet
          case rel => exact ⟨⟨_, _, rfl, HY, may_or HK.out (by omega) 4 ((may_proc HP.out).2)⟩, HX, HB⟩
        · have hbd := HBD.out.gr
          have hv1 : -9223372036854775808 ≤ c.gr + y := by omega
          have hv2 : c.gr + y ≤ 9223372036854775807 := by omega
          have hv3 : 0 ≤ c.gr + y := by omega
          have cz : w4.cell? ⟨g, 14, none⟩ = some (.int .i64 c.gr) := (mcells HZ4.out).1 14
          have fz : w4.frozen? ⟨g, 14, none⟩ = false := (mcells HZ4.out).2 14
          have HY : Hid (Blk (w4.setCell ⟨g, 14, none⟩ (.int .i64 (c.gr + y))) g 40 (cmC (altC c 5 y)).toArray) := heap_set_same HZ4.out (o := 14) (.int .i64 (c.gr + y))
          have HX : Hid (Blk (w4.setCell ⟨g, 14, none⟩ (.int .i64 (c.gr + y))) w.heap.size 40 (cmC c).toArray) := blk_other HX4.out HD.out.1
          have HB : Hid (Below w.heap.size w (w4.setCell ⟨g, 14, none⟩ (.int .i64 (c.gr + y)))) := bel_set HB5.out HD.out.2
          go_wp2
          go_meet
          case rel => exact ⟨⟨_, _, rfl, HY, may_or HK.out (by omega) 5 (rfl)⟩, HX, HB⟩
        · have hbd := HBD.out.key
          have hbd2 : c.key.length < 4096 := by omega
          have hap : ∀ W : World, (binOp .add 9 (.string (bstr c.key)) (.string ⟨#[107]⟩)).run Tryz.prog W = .ok (.string (bstr (c.key ++ [107]))) W := by
            intro W
            rw [← append_bstr c.key [107]]
            have hone : (bstr [107] : ByteArray) = ⟨#[107]⟩ := rfl
            rw [hone]
            go_simp
            omega
          have cz : w4.cell? ⟨g, 12, none⟩ = some (.string (bstr c.key)) := (mcells HZ4.out).1 12
          have fz : w4.frozen? ⟨g, 12, none⟩ = false := (mcells HZ4.out).2 12
          have HY : Hid (Blk (w4.setCell ⟨g, 12, none⟩ (.string (bstr (c.key ++ [107])))) g 40 (cmC (altC c 6 y)).toArray) := heap_set_same HZ4.out (o := 12) (.string (bstr (c.key ++ [107])))
          have HX : Hid (Blk (w4.setCell ⟨g, 12, none⟩ (.string (bstr (c.key ++ [107])))) w.heap.size 40 (cmC c).toArray) := blk_other HX4.out HD.out.1
          have HB : Hid (Below w.heap.size w (w4.setCell ⟨g, 12, none⟩ (.string (bstr (c.key ++ [107]))))) := bel_set HB5.out HD.out.2
          by_cases h3 : c.k = 3
          · have e3 : (c.k == 3) = true := beq_iff_eq.2 h3
            have HM : Hid (true = mayA c 6) := by show _ = _; simp [mayA, h3]
            clear h3
            go_wp2
            go_meet
            case rel => exact ⟨⟨_, _, rfl, HY, may_or HK.out (by omega) 6 (HM.out)⟩, HX, HB⟩
          · have e3 : (c.k == 3) = false := beq_eq_false_iff_ne.2 h3
            have HM : Hid ((c.k == 5) = mayA c 6) := by show decide (c.k = 5) = _; simp [mayA, h3]
            clear h3
            go_wp2
            go_meet
            case rel => exact ⟨⟨_, _, rfl, HY, may_or HK.out (by omega) 6 (HM.out)⟩, HX, HB⟩
        · have hbd := HBD.out.val
          have hbd2 : c.val.length < 4096 := by omega
          have hap : ∀ W : World, (binOp .add 9 (.string (bstr c.val)) (.string ⟨#[118]⟩)).run Tryz.prog W = .ok (.string (bstr (c.val ++ [118]))) W := by
            intro W
            rw [← append_bstr c.val [118]]
            have hone : (bstr [118] : ByteArray) = ⟨#[118]⟩ := rfl
            rw [hone]
            go_simp
            omega
          have cz : w4.cell? ⟨g, 13, none⟩ = some (.string (bstr c.val)) := (mcells HZ4.out).1 13
          have fz : w4.frozen? ⟨g, 13, none⟩ = false := (mcells HZ4.out).2 13
          have HY : Hid (Blk (w4.setCell ⟨g, 13, none⟩ (.string (bstr (c.val ++ [118])))) g 40 (cmC (altC c 7 y)).toArray) := heap_set_same HZ4.out (o := 13) (.string (bstr (c.val ++ [118])))
          have HX : Hid (Blk (w4.setCell ⟨g, 13, none⟩ (.string (bstr (c.val ++ [118])))) w.heap.size 40 (cmC c).toArray) := blk_other HX4.out HD.out.1
          have HB : Hid (Below w.heap.size w (w4.setCell ⟨g, 13, none⟩ (.string (bstr (c.val ++ [118]))))) := bel_set HB5.out HD.out.2
          go_wp2
          go_meet
          case rel => exact ⟨⟨_, _, rfl, HY, may_or HK.out (by omega) 7 (rfl)⟩, HX, HB⟩
        · have hbd := HBD.out.ep
          have hv1 : -9223372036854775808 ≤ c.ep + y := by omega
          have hv2 : c.ep + y ≤ 9223372036854775807 := by omega
          have hv3 : 0 ≤ c.ep + y := by omega
          have cz : w4.cell? ⟨g, 3, none⟩ = some (.int .u64 c.ep) := (mcells HZ4.out).1 3
          have fz : w4.frozen? ⟨g, 3, none⟩ = false := (mcells HZ4.out).2 3
          have HY : Hid (Blk (w4.setCell ⟨g, 3, none⟩ (.int .u64 (c.ep + y))) g 40 (cmC (altC c 8 y)).toArray) := heap_set_same HZ4.out (o := 3) (.int .u64 (c.ep + y))
          have HX : Hid (Blk (w4.setCell ⟨g, 3, none⟩ (.int .u64 (c.ep + y))) w.heap.size 40 (cmC c).toArray) := blk_other HX4.out HD.out.1
          have HB : Hid (Below w.heap.size w (w4.setCell ⟨g, 3, none⟩ (.int .u64 (c.ep + y)))) := bel_set HB5.out HD.out.2
          cases R with
          | true =>
            have h1 : c.k = 1 := beq_iff_eq.1 HRR.out
            have HM : Hid (true = mayA c 8) := by show _ = _; simp [mayA, h1]
            clear h1
            go_wp2
            go_meet
            case rel => exact ⟨⟨_, _, rfl, HY, may_or HK.out (by omega) 8 (HM.out)⟩, HX, HB⟩
          | false =>
            have h1 : c.k ≠ 1 := beq_eq_false_iff_ne.1 HRR.out
            by_cases h2 : 2 ≤ c.k
            · have HM : Hid (decide (c.k ≤ 4) = mayA c 8) := by show _ = _; simp [mayA, h1, h2]
              clear h1
              go_wp2
              go_meet
              case rel => exact ⟨⟨_, _, rfl, HY, may_or HK.out (by omega) 8 (HM.out)⟩, HX, HB⟩
            · have HM : Hid (false = mayA c 8) := by show _ = _; simp [mayA, h1]; omega
              clear h1
              go_wp2
              go_meet
              case rel => exact ⟨⟨_, _, rfl, HY, may_or HK.out (by omega) 8 (HM.out)⟩, HX, HB⟩
        · have hbd := HBD.out.wi
          have hv1 : -9223372036854775808 ≤ c.wt.i + y := by omega
          have hv2 : c.wt.i + y ≤ 9223372036854775807 := by omega
          have hv3 : 0 ≤ c.wt.i + y := by omega
          have cz : w4.cell? ⟨g, 18, none⟩ = some (.int .i64 c.wt.i) := (mcells HZ4.out).1 18
          have fz : w4.frozen? ⟨g, 18, none⟩ = false := (mcells HZ4.out).2 18
          have HY : Hid (Blk (w4.setCell ⟨g, 18, none⟩ (.int .i64 (c.wt.i + y))) g 40 (cmC (altC c 9 y)).toArray) := heap_set_same HZ4.out (o := 18) (.int .i64 (c.wt.i + y))
          have HX : Hid (Blk (w4.setCell ⟨g, 18, none⟩ (.int .i64 (c.wt.i + y))) w.heap.size 40 (cmC c).toArray) := blk_other HX4.out HD.out.1
          have HB : Hid (Below w.heap.size w (w4.setCell ⟨g, 18, none⟩ (.int .i64 (c.wt.i + y)))) := bel_set HB5.out HD.out.2
          go_wp2
          go_meet
          case rel => exact ⟨⟨_, _, rfl, HY, may_or HK.out (by omega) 9 (rfl)⟩, HX, HB⟩
      case rest =>
        obtain ⟨⟨b, X, rfl, HY, HO⟩, HX, HB⟩ := hcut
        clear HR HRR HP
        have HXX := HX.out
        have HBB := HB.out
        cases b with
        | true =>
          go_wp2
          go_roundw
          case rel => exact ⟨i + 1, by go_num, by omega, HX.out, HB.out⟩
          case measure => simp [intOf]; omega
        | false =>
          have hO : okC X = false := HO.out.resolve_left (by simp)
          have KX := oCmd_any X wc
          rw [hO] at KX
          simp only [Bool.false_eq_true, if_false] at KX
          have hCX : (cmC X).length = 20 := rfl
          have hinX : (Tryz.prog.info? 40).map (·.size) = some (cmC X).length := by rw [hCX]; kernel_rfl
          have rX : wc.rangeAt g 0 (cmC X) := range_of_block HY.out [] _ [] (by simp)
          clear hO hCX HY HO
          go_wp2_with (first | refine wpList_load_w (by kernel_rfl) 40 _ rfl g 0 rfl (cmC X) _ rX Tryz.underlying40 rfl hinX ?_ | fail)
          refine KX.mono ?_
          rintro e w9 ⟨rfl, hb9⟩
          have hx9 := blk_below HX.out hb9
          have hb9' := below2 HB.out hb9
          clear rX KX HXX HBB
          go_wp2
          go_roundw
          case rel => exact ⟨i + 1, by go_num, by omega, hx9, hb9'⟩
          case measure => simp [intOf]; omega
    · obtain rfl : i = 10 := by omega
      go_wp2
      go_ret
      exact ⟨rfl, hB⟩

end Go.Proofs.YtbdbefgfejdbjabGreat
