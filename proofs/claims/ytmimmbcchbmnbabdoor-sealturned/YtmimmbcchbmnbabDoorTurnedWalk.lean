/-
  The walk of the law SealTurned over this seat's translation: it returns true, and of what was there nothing has turned.
-/
import Derived.Test.YtmimmbcchbmnbabDoorBurst
import Derived.Test.YtmimmbcchbmnbabDoorWks
import Derived.Deep.Cut
import Derived.Deep.CutBlock
import Derived.BigQuiet
import Derived.Lib.QuietBelow
import Derived.Deep.RegionHeld3
import Derived.Lib.ConvBytes
import Derived.OpenShut
import Derived.Laws.IdiomStrings
namespace Go.Proofs.YtmimmbcchbmnbabDoor
open Go.RowKit Go.BigFrame
attribute [local go_sem] size_bstr getElem_bstr toList_bstr append_bstr

/-- Bytes that lie in a block of their own, the mark behind them. -/
def Bts (W : World) (g : Nat) (lst : List UInt8) : Prop := ∃ cur, W.heap[g]? = some (.cells cur 5 (cur.size, cur.size + 1)) ∧ lst.length ≤ cur.size ∧ ∀ (j : Nat) (h : j < lst.length), cur[j]? = some (.int .u8 (lst[j].toNat : Int))
theorem Bts.cell {W : World} {g : Nat} {lst : List UInt8} (h : Bts W g lst) (j : Nat) (hj : j < lst.length) : W.cell? ⟨g, j, none⟩ = some (.int .u8 (lst[j].toNat : Int)) := by
  obtain ⟨cur, h1, h2, h3⟩ := h
  unfold World.cell?
  rw [h1]
  exact h3 j hj
theorem Bts.frozen {W : World} {g : Nat} {lst : List UInt8} (h : Bts W g lst) (j : Nat) (hj : j < lst.length) : W.frozen? ⟨g, j, none⟩ = false := by
  obtain ⟨cur, h1, h2, h3⟩ := h
  unfold World.frozen?
  rw [h1]
  simp
  omega
theorem Bts.set {W : World} {g : Nat} {lst : List UInt8} (h : Bts W g lst) (j : Nat) (v : UInt8) : Bts (W.setCell ⟨g, j, none⟩ (.int .u8 (v.toNat : Int))) g (lst.set j v) := by
  obtain ⟨cur, h1, h2, h3⟩ := h
  refine ⟨cur.setIfInBounds j (.int .u8 (v.toNat : Int)), ?_, by rw [List.length_set, Array.size_setIfInBounds]; exact h2, ?_⟩
  · simp [World.setCell, Array.getElem?_modify, h1]
  · intro k hk
    rw [List.length_set] at hk
    rw [Array.getElem?_setIfInBounds, List.getElem_set]
    by_cases hjk : j = k
    · subst hjk
      simp
      omega
    · simp only [hjk, if_false]
      exact h3 k hk
theorem Bts.drawn {W : World} {g : Nat} {lst : List UInt8} (h : Bts W g lst) : Bts W.drew g lst := h
theorem bts_conv (W : World) (L : List UInt8) : Bts (Lib.bytesWorld W 5 (bstr L)) W.heap.size L := by
  refine ⟨Lib.bytesCells W 5 (bstr L), Lib.bytesWorld_at_new W _ _, ?_, ?_⟩
  · unfold Lib.bytesCells
    rw [Array.size_append, Array.size_map, show (bstr L).data.size = L.length from size_bstr L]
    omega
  · intro j hj
    have := Lib.bytesWorld_cell W 5 (bstr L) j (by rw [size_bstr]; exact hj)
    unfold World.cell? at this
    rw [Lib.bytesWorld_at_new] at this
    rw [data_bstr, List.getD_eq_getElem?_getD, List.getElem?_eq_getElem hj] at this
    exact this
theorem below_conv (W : World) (L : List UInt8) : Below W.heap.size W (Lib.bytesWorld W 5 (bstr L)) :=
  ⟨rfl, rfl, rfl, by rw [Lib.bytesWorld_size]; omega, fun k hk => Lib.bytesWorld_at_old W _ _ k hk⟩
theorem add_xor {x k : Nat} (h : x < 2 ^ k) : x ^^^ 2 ^ k = x + 2 ^ k := by
  have h3 := Nat.two_pow_add_eq_or_of_lt h 1
  rw [Nat.mul_one] at h3
  rw [Nat.add_comm, h3]
  apply Nat.eq_of_testBit_eq
  intro i
  rw [Nat.testBit_xor, Nat.testBit_or, Nat.testBit_two_pow]
  by_cases hi : k = i
  · subst hi
    have : x.testBit k = false := Nat.testBit_lt_two_pow h
    simp [this]
  · simp [hi]
theorem mod_step (t i : Nat) : t % 2 ^ (i + 1) = t % 2 ^ i + 2 ^ i * (t / 2 ^ i % 2) := Nat.mod_pow_succ
/-- The frame with its body turned. -/
def tfr (l : List UInt8) (E : Nat) : List UInt8 := be4 l.length ++ (le4 (crc (be4 l.length ++ l)).toNat ++ xorE l E)
theorem tfr_length (l : List UInt8) (E : Nat) : (tfr l E).length = l.length + 8 := by
  unfold tfr
  rw [List.length_append, List.length_append, xorE_length, be4_length, le4_length]
  omega
theorem tfr_zero (l : List UInt8) : tfr l 0 = frm l := by
  unfold tfr frm
  rw [xorE_zero]
theorem tfr_get (l : List UInt8) (E j : Nat) (h : j < l.length) : (tfr l E)[8 + j]'(by rw [tfr_length]; omega) = (xorE l E).getD j 0 := by
  have hx : j < (xorE l E).length := by rw [xorE_length]; exact h
  unfold tfr
  rw [List.getElem_append_right (by rw [be4_length]; omega), List.getElem_append_right (by rw [be4_length, le4_length]; omega), List.getD_eq_getElem?_getD, List.getElem?_eq_getElem hx]
  simp only [be4_length, le4_length, Option.getD_some]
  congr 1
  omega
theorem tfr_set (l : List UInt8) (E p : Nat) (h : p / 8 < l.length) : (tfr l E).set (8 + p / 8) ((xorE l E).getD (p / 8) 0 ^^^ (2 ^ (p % 8)).toUInt8) = tfr l (E ^^^ 2 ^ p) := by
  unfold tfr
  rw [xorE_set l E p h, List.set_append_right _ _ (by rw [be4_length]; omega), List.set_append_right _ _ (by rw [be4_length, le4_length]; omega), be4_length, le4_length]
  congr 3
  omega

theorem turned_ends {T tn i a n : Nat} {tb : Bool} (h1 : T = tn % 2 ^ i) (h2 : tn < 4294967296) (h3 : a + i ≤ 8 * n) (h4 : tb = decide (T ≠ 0)) : T < 2 ^ 32 ∧ 2 ^ a * T < 2 ^ (8 * n) ∧ tb = decide (T ≠ 0) := by
  have hTi : T < 2 ^ i := by rw [h1]; exact Nat.mod_lt _ (Nat.two_pow_pos i)
  refine ⟨?_, ?_, h4⟩
  · rw [h1]
    exact Nat.lt_of_le_of_lt (Nat.mod_le _ _) h2
  · have e1 : 2 ^ a * T < 2 ^ (a + i) := by
      rw [Nat.pow_add]
      exact Nat.mul_lt_mul_of_pos_left hTi (Nat.two_pow_pos a)
    exact Nat.lt_of_lt_of_le e1 (Nat.pow_le_pow_right (by decide) h3)

set_option maxHeartbeats 4000000 in
set_option maxRecDepth 100000 in
theorem turned_walk (l : List UInt8) (at0 : Int) (turn : Int) (w : World) (ht : Tabs w) (hl : l.length ≤ 140737488355328) (_ha : (Lit.int .i64 at0).wf = true) (htw : (Lit.int .u32 turn).wf = true) :
    Calls Tryd.prog 3 #[.string (bstr l), .int .i64 at0, .int .u32 turn] w fun e w' => e = .returned (.bool true) ∧ Below w.heap.size w w' := by
  have hE0 : (⟨#[]⟩ : ByteArray) = bstr [] := rfl
  have htb := bounds_u32 htw
  obtain ⟨tn, rfl⟩ : ∃ tn : Nat, turn = (tn : Int) := ⟨turn.toNat, by omega⟩
  clear htw
  by_cases hlong : 1048576 < l.length
  · go_enter Tryd.func3, Tryd.ntmps3
    go_wp2_with fail
    refine (works_any _ ht).mono ?_
    rintro e w1 ⟨rfl, hb⟩
    go_wp2_with fail
    refine (Frame_long l _ hlong (by omega)).mono ?_
    rintro e w2 ⟨rfl, hq⟩
    replace hb := hb.trans (hq.mono hb.size)
    go_wp2
    go_ret
    exact ⟨rfl, hb⟩
  · by_cases hnil : l = []
    · subst hnil
      go_enter Tryd.func3, Tryd.ntmps3
      go_wp2_with fail
      refine (works_any _ ht).mono ?_
      rintro e w1 ⟨rfl, hb⟩
      have ht1 := ht.below hb
      go_wp2_with fail
      refine (Frame_ok [] _ (by simp) ht1).mono ?_
      rintro e w2 ⟨rfl, hq⟩
      replace hb := hb.trans (hq.mono hb.size)
      go_wp2
      go_ret
      exact ⟨rfl, hb⟩
    · have hpos : 0 < l.length := List.length_pos_iff.2 hnil
      have hne : (l == []) = false := by simpa using hnil
      have hfl := frm_length l
      go_enter Tryd.func3, Tryd.ntmps3
      go_wp2_with fail
      refine (works_any _ ht).mono ?_
      rintro e w1 ⟨rfl, hb⟩
      have ht1 := ht.below hb
      go_wp2_with fail
      refine (Frame_ok l _ (by omega) ht1).mono ?_
      rintro e w2 ⟨rfl, hq⟩
      have ht2 := ht1.below hq
      replace hb := hb.trans (hq.mono hb.size)
      clear hq ht1
      go_upto_if 42 with fail
      have hmb : (at0.tmod (8 * (l.length : Int))).natAbs < 8 * l.length := by
        rw [Int.natAbs_tmod, show (8 * (l.length : Int)).natAbs = 8 * l.length from by omega]
        exact Nat.mod_lt _ (by omega)
      generalize at0.tmod (8 * (l.length : Int)) = m at *
      go_cut [1] from 10 (fun s1 wx => wx = w2 ∧ ∃ a : Nat, a < 8 * l.length ∧ s1 = .int .i64 (a : Int))
      case first =>
        go_wp2_with fail
        · go_meet
          case rel => exact ⟨rfl, (m + 8 * (l.length : Int)).toNat, by omega, by congr 1; omega⟩
        · go_meet
          case rel => exact ⟨rfl, m.toNat, by omega, by congr 1; omega⟩
      case rest =>
        obtain ⟨hwc, a, ha, rfl⟩ := hcut
        rw [hwc]
        clear hmb hwc
        have hcv : ∀ W : World, (convert 9 27 (.string (bstr (frm l)))).run Tryd.prog W = .ok (.slice (some ⟨W.heap.size, 0, none⟩) (frm l).length (grownCap W (frm l).length 0 5)) (Lib.bytesWorld W 5 (bstr (frm l))) := by
          intro W
          have := Lib.run_convert_string_bytes (P := Tryd.prog) W 9 27 5 (bstr (frm l)) Tryd.underlying9 Tryd.underlying27 Tryd.underlying5
          rw [size_bstr] at this
          exact this
        have hbt0 := bts_conv w2 (frm l)
        have hbb := below_conv w2 (frm l)
        go_upto_block 0 with fail
        generalize Lib.bytesWorld w2 5 (bstr (frm l)) = wb at *
        rw [← tfr_zero] at hbt0
        generalize grownCap w2 (l.length + 8) 0 5 = cp at *
        go_cut [11] from 12 (fun s11 wx => ∃ (T : Nat) (tb : Bool), Hid (T < 2 ^ 32 ∧ 2 ^ a * T < 2 ^ (8 * l.length) ∧ tb = decide (T ≠ 0)) ∧ s11 = .bool tb ∧ Hid (Bts wx w2.heap.size (tfr l (2 ^ a * T))) ∧ Below w2.heap.size w2 wx)
        case first =>
          go_wp2_with fail
          go_loopw [11, 12] (fun s11 s12 wr => ∃ (i T : Nat) (tb : Bool), s12 = .int .i64 (i : Int) ∧ i ≤ 32 ∧ a + i ≤ 8 * l.length ∧ Hid (T = tn % 2 ^ i ∧ tb = decide (T ≠ 0)) ∧ s11 = .bool tb ∧ Hid (Bts wr w2.heap.size (tfr l (2 ^ a * T))) ∧ Below w2.heap.size w2 wr) (fun _ s12 _ => 32 - (intOf s12).toNat)
          case atStart => exact ⟨0, 0, false, rfl, by omega, by omega, ⟨by rw [Nat.pow_zero, Nat.mod_one], rfl⟩, rfl, by rw [Nat.mul_zero]; exact hbt0, hbb⟩
          case round =>
            obtain ⟨i, T, tb, rfl, hi, hai, HT, rfl, HB, hbr⟩ := hrel
            by_cases h32 : i < 32
            · by_cases hm : a + i < 8 * l.length
              · have hgd : decide ((i : Int) < 32) = true := decide_eq_true (by omega)
                have hsh : ((tn : Int) / (2 : Int) ^ i) = ((tn / 2 ^ i : Nat) : Int) := by
                  rw [Int.natCast_ediv, Int.natCast_pow]
                  rfl
                have hlt : tn / 2 ^ i < 4294967296 := Nat.lt_of_le_of_lt (Nat.div_le_self _ _) (by omega)
                have hand0 : bits .and .u32 ((tn : Int) / (2 : Int) ^ i) 1 = ((tn / 2 ^ i % 2 : Nat) : Int) := by
                  rw [hsh]
                  have := u32_and_nat (tn / 2 ^ i) 1 hlt (by decide)
                  rw [Nat.and_one_is_mod] at this
                  exact this
                rcases Nat.mod_two_eq_zero_or_one (tn / 2 ^ i) with hbit | hbit
                · have hand : bits .and .u32 ((tn : Int) / (2 : Int) ^ i) 1 = 0 := by rw [hand0, hbit]; rfl
                  have HBIT : Hid _ := hbit
                  clear hand0 hbit hsh hlt
                  go_wp2_with fail
                  go_roundw
                  case rel =>
                    refine ⟨i + 1, T, tb, by go_num, by omega, by omega, ⟨?_, HT.out.2⟩, rfl, HB, hbr⟩
                    rw [mod_step, HBIT.out, Nat.mul_zero, Nat.add_zero]
                    exact HT.out.1
                  case measure => simp [intOf]; omega
                · have hand : bits .and .u32 ((tn : Int) / (2 : Int) ^ i) 1 = 1 := by rw [hand0, hbit]; rfl
                  have HBIT : Hid _ := hbit
                  clear hand0 hbit hsh hlt
                  go_wp2_with fail
                  obtain ⟨p, hp⟩ : ∃ p, p = a + i := ⟨_, rfl⟩
                  have hp8 : p < 8 * l.length := by omega
                  have hw1 : IntKind.i64.wrap ((a : Int) + (i : Int)) = (p : Int) := by rw [IntKind.wrap_i64]; omega
                  have hw2 : (p : Int).tdiv 8 = ((p / 8 : Nat) : Int) := by rw [Int.tdiv_eq_ediv_of_nonneg (by omega)]; omega
                  have hw3 : IntKind.i64.wrap ((p / 8 : Nat) : Int) = ((p / 8 : Nat) : Int) := by rw [IntKind.wrap_i64]; omega
                  have hw4 : IntKind.i64.wrap (8 + ((p / 8 : Nat) : Int)) = ((8 + p / 8 : Nat) : Int) := by rw [IntKind.wrap_i64]; omega
                  have hw5 : (p : Int).tmod 8 = ((p % 8 : Nat) : Int) := by rw [Int.tmod_eq_emod_of_nonneg (by omega)]; omega
                  have hw6 : IntKind.i64.wrap ((p % 8 : Nat) : Int) = ((p % 8 : Nat) : Int) := by rw [IntKind.wrap_i64]; omega
                  generalize hd8 : p / 8 = d at *
                  generalize hm8 : p % 8 = q at *
                  have hdl : d < l.length := by omega
                  have hq8 : q < 8 := by omega
                  generalize hix : 8 + d = ix at *
                  have hixl : ix < l.length + 8 := by omega
                  obtain ⟨sb, hsb⟩ : ∃ sb : Nat, sb = 2 ^ q := ⟨_, rfl⟩
                  have hsbl : sb < 256 := by
                    have : 2 ^ q < 2 ^ 8 := Nat.pow_lt_pow_right (by decide) hq8
                    omega
                  have hw7 : IntKind.u8.wrap ((2 : Int) ^ q) = (sb : Int) := by
                    rw [show ((2 : Int) ^ q) = ((2 ^ q : Nat) : Int) from by rw [Int.natCast_pow]; rfl, ← hsb, IntKind.wrap_u8]
                    omega
                  have HSB : Hid (sb = 2 ^ q) := hsb
                  clear hsb
                  have HP : Hid (p = a + i ∧ p / 8 = d ∧ p % 8 = q ∧ 8 + d = ix) := ⟨hp, hd8, hm8, hix⟩
                  clear hp hd8 hm8 hix
                  refine wp_region_noPanic ?_
                  refine wp_region_any (by kernel_rfl) ?_
                  change wpAny _ _ _ _ _ _ _ (World.drew _)
                  refine wpAny_take (i := 0) (v := ?v0) rfl (by kernel_rfl) (by kernel_rfl) (by kernel_rfl) (fun _ _ _ h => h) (Or.inl ⟨by rfl, ?y0⟩) ?_
                  case y0 => (intro w; go_simp; try with_reducible rfl)
                  refine wpAny_take (i := 1) (v := ?v1) rfl (by kernel_rfl) (by kernel_rfl) (by kernel_rfl) (fun _ _ _ h => h) (Or.inl ⟨by rfl, ?y1⟩) ?_
                  case y1 => (intro w; go_simp; try with_reducible rfl)
                  refine wpAny_take (i := 2) (v := ?v2) rfl (by kernel_rfl) (by kernel_rfl) (by kernel_rfl) (fun _ _ _ h => h) (Or.inl ⟨by rfl, ?y2⟩) ?_
                  case y2 => (intro w; go_simp; try with_reducible rfl)
                  refine wpAny_take (i := 3) (v := .int .i64 (p : Int)) rfl (by kernel_rfl) (by kernel_rfl) (by kernel_rfl) (fun _ _ _ h => h) (Or.inl ⟨by rfl, ?y3⟩) ?_
                  case y3 => (intro w; go_simp; try with_reducible rfl)
                  refine wpAny_take (i := 4) (v := .int .i64 (d : Int)) rfl (by kernel_rfl) (by kernel_rfl) (by kernel_rfl) (fun _ _ _ h => h) (Or.inl ⟨by rfl, ?y4⟩) ?_
                  case y4 => (intro w; go_simp; try with_reducible rfl)
                  refine wpAny_take (i := 5) (v := .int .i64 (ix : Int)) rfl (by kernel_rfl) (by kernel_rfl) (by kernel_rfl) (fun _ _ _ h => h) (Or.inl ⟨by rfl, ?y5⟩) ?_
                  case y5 => (intro w; go_simp; try with_reducible rfl)
                  refine wpAny_take (i := 6) (v := .pointer (some ⟨w2.heap.size, ix, none⟩)) rfl (by kernel_rfl) (by kernel_rfl) (by kernel_rfl) (fun _ _ _ h => h) (Or.inl ⟨by rfl, ?y6⟩) ?_
                  case y6 => (intro w; go_simp; intro hbad; omega)
                  refine wpAny_take (i := 8) (v := ?v7) rfl (by kernel_rfl) (by kernel_rfl) (by kernel_rfl) (fun _ _ _ h => h) (Or.inl ⟨by rfl, ?y7⟩) ?_
                  case y7 => (intro w; go_simp; try with_reducible rfl)
                  refine wpAny_take (i := 9) (v := ?v8) rfl (by kernel_rfl) (by kernel_rfl) (by kernel_rfl) (fun _ _ _ h => h) (Or.inl ⟨by rfl, ?y8⟩) ?_
                  case y8 => (intro w; go_simp; try with_reducible rfl)
                  refine wpAny_take (i := 10) (v := .int .i64 (p : Int)) rfl (by kernel_rfl) (by kernel_rfl) (by kernel_rfl) (fun _ _ _ h => h) (Or.inl ⟨by rfl, ?y9⟩) ?_
                  case y9 => (intro w; go_simp; try with_reducible rfl)
                  refine wpAny_take (i := 11) (v := .int .i64 (q : Int)) rfl (by kernel_rfl) (by kernel_rfl) (by kernel_rfl) (fun _ _ _ h => h) (Or.inl ⟨by rfl, ?y10⟩) ?_
                  case y10 => (intro w; go_simp; try with_reducible rfl)
                  refine wpAny_take (i := 12) (v := .int .u8 (sb : Int)) rfl (by kernel_rfl) (by kernel_rfl) (by kernel_rfl) (fun _ _ _ h => h) (Or.inl ⟨by rfl, ?y11⟩) ?_
                  case y11 => (intro w; go_simp; try with_reducible rfl)
                  refine wpAny_ready (rs := [7]) (by kernel_rfl) (by simp) ?_
                  refine AllReady.cons rfl (fun K hK => ?_) AllReady.nil
                  have hcl : wr.cell? ⟨w2.heap.size, ix, none⟩ = some (.int .u8 (((tfr l (2 ^ a * T))[ix]'(by rw [tfr_length]; exact hixl)).toNat : Int)) := HB.out.cell ix (by rw [tfr_length]; exact hixl)
                  have hfz : wr.frozen? ⟨w2.heap.size, ix, none⟩ = false := HB.out.frozen ix (by rw [tfr_length]; exact hixl)
                  go_simp
                  refine hK _ _ ?_
                  clear hK K
                  refine wpAny_ready (rs := [13]) (by kernel_rfl) (by simp) ?_
                  refine AllReady.cons rfl (fun K hK => ?_) AllReady.nil
                  go_simp
                  refine hK _ _ ?_
                  clear hK K
                  refine wpAny_ready (rs := [14]) (by kernel_rfl) (by simp) ?_
                  refine AllReady.cons rfl (fun K hK => ?_) AllReady.nil
                  go_simp
                  rw [if_pos (by omega)]
                  go_simp
                  refine hK _ _ ?_
                  clear hK K
                  refine wpAny_ready (rs := [15]) (by kernel_rfl) (by simp) ?_
                  refine AllReady.cons rfl (fun K hK => ?_) AllReady.nil
                  go_simp
                  refine hK _ _ ?_
                  clear hK K
                  refine wpAny_done (by kernel_rfl) ?_ _
                  refine NoPanic.normal ?_
                  go_wp2_with fail
                  go_roundw
                  case rel =>
                    obtain ⟨hp1, hp2, hp3, hp4⟩ := HP.out
                    have hTe := HT.out.1
                    have hTi : T < 2 ^ i := by rw [hTe]; exact Nat.mod_lt _ (Nat.two_pow_pos i)
                    have hEi : 2 ^ a * T < 2 ^ p := by
                      rw [hp1, Nat.pow_add]
                      exact Nat.mul_lt_mul_of_pos_left hTi (Nat.two_pow_pos a)
                    have hE1 : (2 ^ a * T) ^^^ 2 ^ p = 2 ^ a * (T + 2 ^ i) := by
                      rw [add_xor hEi, hp1, Nat.pow_add, Nat.mul_add]
                    have hT1 : T + 2 ^ i = tn % 2 ^ (i + 1) := by rw [mod_step, HBIT.out, Nat.mul_one, ← hTe]
                    have hpd : p / 8 < l.length := by omega
                    obtain ⟨x, hx⟩ : ∃ x, x = (tfr l (2 ^ a * T))[ix]'(by rw [tfr_length]; exact hixl) := ⟨_, rfl⟩
                    have hxg : x = (xorE l (2 ^ a * T)).getD (p / 8) 0 := by
                      rw [hx, ← tfr_get l (2 ^ a * T) (p / 8) hpd]
                      congr 1
                      omega
                    have hval : bits .xor .u8 (x.toNat : Int) (sb : Int) = ((x ^^^ (2 ^ q).toUInt8).toNat : Int) := by
                      rw [u8_xor_nat _ _ x.toNat_lt hsbl, UInt8.toNat_xor, toNat_toU8 (by rw [← HSB.out]; exact hsbl), HSB.out]
                    rw [← hx, hval]
                    refine ⟨i + 1, T + 2 ^ i, true, by go_num, by omega, by omega, ⟨hT1, (decide_eq_true (by have := Nat.two_pow_pos i; omega)).symm⟩, rfl, ?_, (hbr.setCell (Nat.le_refl _) _).drew⟩
                    have hset := HB.out.set ix (x ^^^ (2 ^ q).toUInt8)
                    rw [← hp4, ← hp2, ← hp3, hxg, tfr_set l (2 ^ a * T) p hpd, hE1] at hset
                    rw [hxg, ← hp4, ← hp2, ← hp3]
                    exact hset
                  case measure => simp [intOf]; omega
              · have hgd : decide ((i : Int) < 32) = true := decide_eq_true (by omega)
                go_wp2_with fail
                go_meet
                case rel => exact ⟨T, tb, turned_ends HT.out.1 (by omega) hai HT.out.2, rfl, HB, hbr⟩
            · have hgd : decide ((i : Int) < 32) = false := decide_eq_false (by omega)
              go_wp2_with fail
              go_meet
              case rel => exact ⟨T, tb, turned_ends HT.out.1 (by omega) hai HT.out.2, rfl, HB, hbr⟩
        case rest =>
          obtain ⟨T, tb, HT, rfl, HB, hbx⟩ := hcut
          have hbel : Below w.heap.size w wc := hb.trans (hbx.mono hb.size)
          have htc := ht.below hbel
          have hcb : ∀ lst : List UInt8, Bts wc w2.heap.size lst → lst.length = l.length + 8 → (convert 27 9 (.slice (some ⟨w2.heap.size, 0, none⟩) (l.length + 8) cp)).run Tryd.prog wc = .ok (.string (bstr lst)) wc := by
            intro lst h1 h2
            rw [← h2]
            refine run_convert_bytes_back wc 27 9 5 ⟨w2.heap.size, 0, none⟩ cp lst Tryd.underlying27 Tryd.underlying5 Tryd.underlying9 ?_
            intro j hj
            have := h1.cell j hj
            by_cases h0 : j = 0
            · subst h0
              simpa [Addr.add] using this
            · simpa [Addr.add, h0] using this
          have hconv := hcb _ HB.out (tfr_length _ _)
          obtain ⟨hT1, hT2, hT3⟩ := HT.out
          by_cases hT0 : T = 0
          · have htb0 : tb = false := by rw [hT3, hT0]; rfl
            subst htb0
            rw [hT0, Nat.mul_zero, tfr_zero] at hconv
            have HO : Hid (opn (frm l) = some l) := by
              have := opn_frm (b := l) (by omega) []
              rwa [List.append_nil] at this
            clear hcb HB HT hT1 hT2 hT3 hbx
            go_wp2_with fail
            refine (Open_some _ l _ (by omega) htc HO.out).mono ?_
            rintro e w6 ⟨rfl, hq⟩
            replace hbel := hbel.trans (hq.mono hbel.size)
            have hz8 : ((8 : Int) + (l.length : Int) == 0) = false := by
              rw [beq_eq_false_iff_ne]
              omega
            go_wp2
            go_ret
            exact ⟨rfl, hbel⟩
          · have htb0 : tb = true := by rw [hT3]; exact decide_eq_true hT0
            subst htb0
            have HO : Hid (opn (tfr l (2 ^ a * T)) = none) := opn_turned l (by omega) _ (crc_burst _ l T a hT0 hT1 hT2 (by omega))
            have hsl := tfr_length l (2 ^ a * T)
            generalize tfr l (2 ^ a * T) = tl at *
            clear hcb HB HT hT1 hT2 hT3 hbx
            go_wp2_with fail
            refine (Open_none _ _ (by omega) htc HO.out).mono ?_
            rintro e w6 ⟨rfl, hq⟩
            replace hbel := hbel.trans (hq.mono hbel.size)
            go_wp2
            go_ret
            exact ⟨rfl, hbel⟩

end Go.Proofs.YtmimmbcchbmnbabDoor
