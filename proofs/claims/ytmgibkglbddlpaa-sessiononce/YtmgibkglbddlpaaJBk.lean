/-
  The law SessionBack: what was put is looked up as it was; bytes that are cut or lengthened are none.
-/
import Derived.Test.YtmgibkglbddlpaaJWks
import Derived.Deep.CutBlock
namespace Go.Proofs.Ytmgibkglbddlpaa
open Go.RowKit Go.BigFrame
attribute [local go_sem] size_bstr toList_bstr append_bstr

theorem rz_neq (k : Int) (g : Bool) (r v : List UInt8) (n : Nat) (k' : Int) (g' : Bool) (r' v' : List UInt8) (n' : Nat) (w : World) : (binOp .neq 25 (.agg #[.int .i64 k, .bool g, .string (bstr r), .string (bstr v), .int .u64 (n : Int)]) (.agg #[.int .i64 k', .bool g', .string (bstr r'), .string (bstr v'), .int .u64 (n' : Int)])).run Try.prog w = .ok (.bool (!eqR ⟨k, g, r, v, n⟩ ⟨k', g', r', v', n'⟩)) w := by
  have := eqFields_rz ⟨k, g, r, v, n⟩ ⟨k', g', r', v', n'⟩ w
  rw [run_neq_struct, this]
  rfl

theorem lk_one {c : List UInt8} {q : Nat} (h : lkK c q = 1) : Ending.returned (.tuple #[rzV (lkR c q), .bool (lkA c q), .int .i64 (lkE c q)]) = .returned (.tuple #[rzV rz0, .bool false, .int .i64 4]) := by
  unfold lkR lkA lkE
  rw [h]
  rfl
set_option maxHeartbeats 8000000 in
set_option maxRecDepth 100000 in
theorem SBack_any (sq : Nat) (e : Int) (f : Bool) (ro va : List UInt8) (ve : Nat) (w : World) (hs : sq < 18446744073709551616) (hve : ve < 18446744073709551616) :
    Calls Try.prog 5 #[.int .u64 (sq : Int), .agg #[.int .i64 e, .bool f, .string (bstr ro), .string (bstr va), .int .u64 (ve : Int)]] w fun x w' => x = .returned (.bool true) ∧ Below w.heap.size w w' := by
  obtain ⟨S, hS⟩ : ∃ S, S = 1 + sq % 1099511627776 := ⟨_, rfl⟩
  obtain ⟨V, hV⟩ : ∃ V, V = ve % 1099511627776 := ⟨_, rfl⟩
  obtain ⟨T, hT⟩ : ∃ T, T = e.tmod 16 := ⟨_, rfl⟩
  have hS1 : 1 ≤ S ∧ S ≤ 1099511627776 := by omega
  have hV1 : V ≤ 1099511627776 := by omega
  have hT1 : -15 ≤ T ∧ T ≤ 15 := by
    have h1 := Int.tmod_lt_of_pos e (b := 16) (by decide)
    have h2 : -16 < e.tmod 16 := Int.lt_tmod_of_pos e (by decide)
    omega
  have eS : 1 + (sq : Int) % 1099511627776 = (S : Int) := by omega
  have eV : (ve : Int).tmod 1099511627776 = (V : Int) := by rw [Int.tmod_eq_emod_of_nonneg (by omega)]; omega
  have eT : e.tmod 16 = T := hT.symm
  have hcr := fun w : World => run_cut (P := Try.prog) 9 ro 32 32 rfl w Try.underlying9
  have hcv := fun w : World => run_cut (P := Try.prog) 9 va 300 300 rfl w Try.underlying9
  obtain ⟨w1, hw1⟩ : ∃ w1, w1 = w.alloc (.cells #[.int .i64 e, .bool f, .string (bstr ro), .string (bstr va), .int .u64 (ve : Int)] 25) := ⟨_, rfl⟩
  have hz1 : RzB w1 w.heap.size ⟨e, f, ro, va, ve⟩ := by rw [hw1]; exact heap_alloc_new w _
  have hB1 : Below w.heap.size w w1 := by rw [hw1]; exact bel_alloc (Below.refl _ _)
  have HW : Hid _ := hw1
  have HS1 : Hid _ := hS1
  have HV1 : Hid _ := hV1
  have HT1 : Hid _ := hT1
  have HS : Hid _ := hS
  have hrl : (ro.take 32).length ≤ 32 := List.length_take_le _ _
  have hvl : (va.take 300).length ≤ 300 := List.length_take_le _ _
  have HRL : Hid _ := And.intro hrl hvl
  clear hw1 hS hV hS1 hV1 hT1 hT hrl hvl
  go_enter Try.func5, Try.ntmps5
  go_upto_region 1 with fail
  rw [← HW.out]
  clear HW
  obtain ⟨z0, z1, z2, z3, z4⟩ := hz1.facts
  simp only at z0 z1 z2 z3 z4
  go_upto_region 2 with fail
  go_cut [6] from 18 (fun s6 wx => ∃ P : Nat, s6 = .pointer (some ⟨P, 0, none⟩) ∧ w.heap.size < P ∧ RzB wx P ⟨T, f, ro.take 32, va.take 300, V⟩ ∧ Below w.heap.size w wx)
  case first =>
    go_region_held3 (fun w' => w'.cell? ⟨w.heap.size, 0, none⟩ = some (.int .i64 e) ∧ w'.cell? ⟨w.heap.size, 1, none⟩ = some (.bool f) ∧ w'.cell? ⟨w.heap.size, 2, none⟩ = some (.string (bstr ro)) ∧ w'.cell? ⟨w.heap.size, 3, none⟩ = some (.string (bstr va)) ∧ w'.cell? ⟨w.heap.size, 4, none⟩ = some (.int .u64 (ve : Int))) (refine ⟨?_, ?_, ?_, ?_, ?_⟩ <;> repeat (first | with_reducible exact z0 | with_reducible exact z1 | with_reducible exact z2 | with_reducible exact z3 | with_reducible exact z4 | with_reducible refine cell_drew ?_ | with_reducible refine cell_alloc_old ?_)) (fail)
    all_goals
      go_wp2_with fail
      go_meet
      case rel => exact ⟨w1.heap.size, rfl, hz1.lt, heap_alloc_new w1 _, bel_drew (bel_alloc hB1)⟩
  case rest =>
    obtain ⟨P, rfl, hPw, hzc, hBc⟩ := hcut
    clear z0 z1 z2 z3 z4 hz1 hB1 hcr hcv eS eV eT hs hve
    have HPW : Hid _ := hPw
    clear hPw
    generalize ro.take 32 = ro' at *
    generalize va.take 300 = va' at *
    obtain ⟨z0, z1, z2, z3, z4⟩ := hzc.facts
    simp only at z0 z1 z2 z3 z4
    have fz := hzc.frz
    go_upto_if 43 with fail
    go_cut [] from 44 (fun wx => ∃ E : Int, Hid (0 ≤ E ∧ E ≤ 15) ∧ RzB wx P ⟨E, f, ro', va', V⟩ ∧ Below w.heap.size w wx)
    case first =>
      have hT2 := HT1.out
      by_cases hT0 : T < 0
      · have hz5 : RzB (wc.setCell ⟨P, 0, none⟩ (.int .i64 (-T))) P ⟨-T, f, ro', va', V⟩ := heap_set_same hzc _
        have hB5 : Below w.heap.size w (wc.setCell ⟨P, 0, none⟩ (.int .i64 (-T))) := bel_set hBc (Nat.le_of_lt HPW.out)
        have H5 : Hid _ := And.intro hz5 hB5
        have hng : IntKind.i64.wrap (-T) = -T := by rw [IntKind.wrap_i64]; omega
        clear hz5 hB5
        go_wp2
        go_meet
        case rel => exact ⟨-T, ⟨by omega, by omega⟩, H5.out.1, H5.out.2⟩
      · go_wp2
        go_meet
        case rel => exact ⟨T, ⟨by omega, by omega⟩, hzc, hBc⟩
    case rest =>
      obtain ⟨E, HEr, hzd, hBd⟩ := hcut
      clear z0 z1 z2 z3 z4 fz hzc hBc
      obtain ⟨E0, E15⟩ := HEr.out
      obtain ⟨hrl, hvl⟩ := HRL.out
      obtain ⟨S0, S40⟩ := HS1.out
      have hok : okR ⟨E, f, ro', va', V⟩ = true := okR_iff.2 ⟨E0, E15, hrl, by simp only; omega, HV1.out⟩
      have hput := jPut_any S ⟨E, f, ro', va', V⟩
      obtain ⟨p1, p2, p3⟩ := pt_small (q := S) (r := ⟨E, f, ro', va', V⟩) S0 S40 hok (by simp only; omega)
      rw [p1, p2] at hput
      obtain ⟨r1, r2, r3, r4, r5⟩ := rd_ss S0 S40 hok
      have hq40 : 1 ≤ S ∧ S ≤ 1099511627776 := ⟨S0, S40⟩
      have k1 : lkK (ssL S ⟨E, f, ro', va', V⟩) S = 2 := by unfold lkK; rw [if_pos hq40, if_pos r4, if_pos r2.symm]
      have hl1 := jLook_any (ssL S ⟨E, f, ro', va', V⟩) S
      rw [show lkR (ssL S ⟨E, f, ro', va', V⟩) S = ⟨E, f, ro', va', V⟩ from by unfold lkR; rw [k1, if_pos rfl, r3], show lkA (ssL S ⟨E, f, ro', va', V⟩) S = true from by unfold lkA; rw [k1]; rfl, show lkE (ssL S ⟨E, f, ro', va', V⟩) S = 0 from by unfold lkE; rw [k1]; rfl] at hl1
      have k2 : lkK (ssL S ⟨E, f, ro', va', V⟩ ++ [0]) S = 1 := by unfold lkK; rw [if_pos hq40, if_neg (by rw [rd_more S40 hok]; decide)]
      have hl2 := jLook_any (ssL S ⟨E, f, ro', va', V⟩ ++ [0]) S
      simp only [lk_one k2] at hl2
      have k3 : lkK (ssL S ⟨E, f, ro', va', V⟩).dropLast S = 1 := by unfold lkK; rw [if_pos hq40, if_neg (by rw [rd_cut S40 hok]; decide)]
      have hl3 := jLook_any (ssL S ⟨E, f, ro', va', V⟩).dropLast S
      simp only [lk_one k3] at hl3
      have hl4 := jLook_any (ssL S ⟨E, f, ro', va', V⟩) (S - 1)
      have hl4' : 1 < S → ∀ w, (ssL S ⟨E, f, ro', va', V⟩).length ≤ 65536 → Calls Try.prog 9 #[.string (bstr (ssL S ⟨E, f, ro', va', V⟩)), .int .u64 ((S - 1 : Nat) : Int)] w fun e w' => e = .returned (.tuple #[rzV rz0, .bool false, .int .i64 12]) ∧ Below w.heap.size w w' := by
        intro h1
        have k4 : lkK (ssL S ⟨E, f, ro', va', V⟩) (S - 1) = 3 := by unfold lkK; rw [if_pos ⟨by omega, by omega⟩, if_pos r4, r2, if_neg (by omega), if_pos (by omega)]
        rw [show lkR (ssL S ⟨E, f, ro', va', V⟩) (S - 1) = rz0 from by unfold lkR; rw [k4]; rfl, show lkA (ssL S ⟨E, f, ro', va', V⟩) (S - 1) = false from by unfold lkA; rw [k4]; rfl, show lkE (ssL S ⟨E, f, ro', va', V⟩) (S - 1) = 12 from by unfold lkE; rw [k4]; rfl] at hl4
        exact hl4
      have hlen : 0 < (ssL S ⟨E, f, ro', va', V⟩).length := List.length_pos_iff.2 r5
      have hlen2 : (ssL S ⟨E, f, ro', va', V⟩).length ≤ 60000 := by
        have hu := Lib.uvarint_length64 (x := S) (by omega)
        have hr := (layR_len hok).1
        unfold ssL
        rw [List.length_append]
        simp only at hr
        omega
      clear p1 p2 p3 r1 r2 r3 r4 r5 k1 k2 k3 hl4 hok
      generalize ssL S ⟨E, f, ro', va', V⟩ = s at *
      have hS64 : S < 18446744073709551616 := by omega
      have HPut : Hid _ := hput
      have HL1 : Hid _ := hl1
      have HL2 : Hid _ := hl2
      have HL3 : Hid _ := hl3
      have HL4 : Hid _ := hl4'
      have HRR : Hid _ := HEr
      clear hput hl1 hl2 hl3 hl4' E0 E15 hrl hvl
      obtain ⟨z0, z1, z2, z3, z4⟩ := hzd.facts
      simp only at z0 z1 z2 z3 z4
      go_wp2_with fail
      refine (HPut.out wc hS64).mono ?_
      rintro x w2 ⟨rfl, hb2⟩
      have hzd2 := hzd.below hb2 hzd.lt
      have hB2 := bel_call hb2 hBd
      clear z0 z1 z2 z3 z4 hzd hBd hb2
      go_wp2_with fail
      refine (HL1.out w2 (by omega)).mono ?_
      rintro x w3 ⟨rfl, hb3⟩
      have hzd3 := hzd2.below hb3 hzd2.lt
      have hB3 := bel_call hb3 hB2
      clear hzd2 hB2 hb3
      obtain ⟨X, hX⟩ : ∃ X, X = w3.heap.size := ⟨_, rfl⟩
      obtain ⟨w4, hw4⟩ : ∃ w4, w4 = w3.alloc (.cells #[.int .i64 E, .bool f, .string (bstr ro'), .string (bstr va'), .int .u64 (V : Int)] 25) := ⟨_, rfl⟩
      have hx4 : RzB w4 X ⟨E, f, ro', va', V⟩ := by rw [hw4, hX]; exact heap_alloc_new w3 _
      have hb4 : Below w3.heap.size w3 w4 := by rw [hw4]; exact bel_alloc (Below.refl _ _)
      have hzd4 := hzd3.below hb4 hzd3.lt
      have hB4 := bel_call hb4 hB3
      have HW : Hid _ := hw4
      have HX : Hid _ := hX
      clear hw4 hb4 hzd3 hB3
      go_upto_region 7 with fail
      rw [← HX.out]
      have HW2 := HW.out
      rw [← HW2]
      clear HW2 HW HX hX
      obtain ⟨x0, x1, x2, x3, x4⟩ := hx4.facts
      obtain ⟨z0, z1, z2, z3, z4⟩ := hzd4.facts
      simp only at x0 x1 x2 x3 x4 z0 z1 z2 z3 z4
      have hne := rz_neq
      have hge := rz_guard
      have hself : eqR ⟨E, f, ro', va', V⟩ ⟨E, f, ro', va', V⟩ = true := eqR_iff.2 rfl
      have hl0 : ((s.length : Int) == 0) = false := beq_eq_false_iff_ne.2 (by omega)
      have hl00 : 0 < (s.length : Int) := by omega
      go_upto_region 9 with fail
      clear x0 x1 x2 x3 x4 z0 z1 z2 z3 z4 hx4 hzd4 hne hge hself hl0
      have happ : (bstr s ++ (⟨#[0]⟩ : ByteArray)) = bstr (s ++ [0]) := append_bstr s [0]
      have hsl := fun W : World => run_head (P := Try.prog) 9 s (s.length - 1) (by omega) W Try.underlying9
      have hm : (s.length : Int) - 1 = ((s.length - 1 : Nat) : Int) := by omega
      have hdl : s.take (s.length - 1) = s.dropLast := List.dropLast_eq_take.symm
      rw [hdl] at hsl
      have hap2 : ∀ W : World, (binOp .add 9 (.string (bstr s)) (.string ⟨#[0]⟩)).run Try.prog W = .ok (.string (bstr (s ++ [0]))) W := by
        intro W
        rw [← happ]
        go_simp
        omega
      go_wp2_with fail
      refine (HL2.out w4 (by simp; omega)).mono ?_
      rintro x w5 ⟨rfl, hb5⟩
      have hB5 := bel_call hb5 hB4
      clear hb5 hB4 hap2 happ
      go_wp2_with fail
      refine (HL3.out w5 (by rw [List.length_dropLast]; omega)).mono ?_
      rintro x w6 ⟨rfl, hb6⟩
      have hB6 := bel_call hb6 hB5
      clear hb6 hB5 hsl hm hdl
      obtain ⟨w7, hw7⟩ : ∃ w7, w7 = w6.alloc (.cells #[.int .i64 0, .bool false, .string (bstr []), .string (bstr []), .int .u64 0] 25) := ⟨_, rfl⟩
      have hB7 : Below w.heap.size w w7 := by rw [hw7]; exact bel_alloc hB6
      have HW : Hid _ := hw7
      clear hw7 hB6
      go_upto_region 11 with fail
      have HW2 := HW.out
      rw [← HW2]
      clear HW2 HW
      by_cases hS1 : 1 < S
      · have hSi : (1 : Int) < (S : Int) := by omega
        have hSm : (S : Int) - 1 = ((S - 1 : Nat) : Int) := by omega
        have hSw : IntKind.u64.wrap ((S : Int) - 1) = ((S - 1 : Nat) : Int) := by rw [IntKind.wrap_u64]; omega
        go_wp2_with fail
        refine (HL4.out hS1 w7 (by omega)).mono ?_
        rintro x w8 ⟨rfl, hb8⟩
        have hB8 := bel_call hb8 hB7
        clear hb8 hB7
        go_wp2_with fail
        refine (works17_any w8).mono ?_
        rintro x w9 ⟨rfl, hb9⟩
        have hB9 := bel_call hb9 hB8
        clear hb9 hB8
        go_wp2
        go_ret
        exact ⟨rfl, hB9⟩
      · have hSi : (S : Int) ≤ (1 : Int) := by omega
        go_wp2_with fail
        refine (works17_any w7).mono ?_
        rintro x w9 ⟨rfl, hb9⟩
        have hB9 := bel_call hb9 hB7
        clear hb9 hB7
        go_wp2
        go_ret
        exact ⟨rfl, hB9⟩

end Go.Proofs.Ytmgibkglbddlpaa
