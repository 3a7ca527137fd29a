/-
  The document's read of a session (acreageref17).
-/
import Derived.Test.YtmgibkglbddlpaaDoorJDt3
import Derived.Test.YtmgibkglbddlpaaDoorJPt17
namespace Go.Proofs.YtmgibkglbddlpaaDoor
open Go.RowKit Go.BigFrame
attribute [local go_sem] size_bstr toList_bstr

theorem res_tct {fn : Func} {p u v : Tmp} {ty : TypeId} (h : fn.results = #[.tmp u, .cell p ty, .tmp v]) (tmps : Array Value) (P : Program) (w : World) :
    (results fn tmps).run P w = ((asAddr (tmps.getD p undef)).run P w).andThen fun a w₁ => ((loadVar ty a).run P w₁).andThen fun x w₂ => .ok (.tuple #[tmps.getD u undef, x, tmps.getD v undef]) w₂ := by
  simp only [results, h]
  simp [Sem.run_bind, Result.andThen]
theorem ret_tct {fn : Func} {p u t : Tmp} (h : fn.results = #[.tmp u, .cell p 25, .tmp t]) {R : Ending → World → Prop} {a : Act} {w : World} {b : Nat} {r : Rz} {x y : Value} (hp : a.tmps.getD p undef = .pointer (some ⟨b, 0, none⟩)) (hu : a.tmps.getD u undef = x) (ht : a.tmps.getD t undef = y) (hat : RzB w b r) (hd : a.defers = []) (hR : R (.returned (.tuple #[x, rzV r, y])) w) :
    bodyPost Tryd.prog fn R .ret a w := by
  obtain ⟨q0, q1, q2, q3, q4⟩ := hat.facts
  exact bodyPost_ret (v := .tuple #[x, rzV r, y]) (by rw [res_tct h, hp, hu, ht]; simp [go_sem, q0, q1, q2, q3, q4]) hd hR

/-- What is read of a cell. -/
def RdQ (c : List UInt8) (w : World) (e : Ending) (w' : World) : Prop := ∃ (n : Nat) (r : Rz), e = .returned (.tuple #[.int .u64 (n : Int), rzV r, .bool (rdOk c)]) ∧ (rdOk c = true → n = nV c ∧ r = decR (nR c)) ∧ Below w.heap.size w w'

theorem rdq_no {c : List UInt8} {w w' : World} {n : Nat} {r : Rz} (h : rdOk c = false) (hb : Below w.heap.size w w') : RdQ c w (.returned (.tuple #[.int .u64 (n : Int), rzV r, .bool false])) w' :=
  ⟨n, r, by rw [h], fun h1 => (by rw [h] at h1; cases h1), hb⟩
theorem rdq_yes {c : List UInt8} {w w' : World} {r : Rz} (h : rdOk c = true) (hr : r = decR (nR c)) (hb : Below w.heap.size w w') : RdQ c w (.returned (.tuple #[.int .u64 (nV c : Int), rzV r, .bool true])) w' :=
  ⟨nV c, r, by rw [h], fun _ => ⟨rfl, hr⟩, hb⟩
set_option maxHeartbeats 8000000 in
set_option maxRecDepth 100000 in
theorem rRead_any (c : List UInt8) (w : World) (hl : c.length ≤ 65536) :
    Calls Tryd.prog 14 #[.string (bstr c)] w (RdQ c w) := by
  obtain ⟨w1, hw1⟩ : ∃ w1, w1 = w.alloc (.cells #[.int .i64 0, .bool false, .string ⟨#[]⟩, .string ⟨#[]⟩, .int .u64 0] 25) := ⟨_, rfl⟩
  have hz1 : RzB w1 w.heap.size rz0 := by rw [hw1]; exact RzB.new w
  have hB1 : Below w.heap.size w w1 := by rw [hw1]; exact bel_alloc (Below.refl _ _)
  have HW : Hid _ := hw1
  clear hw1
  go_enter Tryd.func14, Tryd.ntmps14
  go_upto_region 1 with fail
  rw [← HW.out]
  clear HW
  go_wp2_with fail
  refine (RTakeNumber_any c w1 (by omega)).mono ?_
  rintro e w2 ⟨rfl, hb2⟩
  have hz2 := hz1.below hb2 hz1.lt
  have hB2 := bel_call hb2 hB1
  clear hz1 hB1 hb2
  obtain ⟨z0, z1, z2, z3, z4⟩ := hz2.facts
  simp only at z0 z1 z2 z3 z4
  have fz := hz2.frz
  by_cases h0 : (numOf c).2 = 0
  · have hk : rdOk c = false := by
      have : nV c = 0 := by unfold nV okN; simp [h0]
      unfold rdOk
      rw [this]
      simp
    have HK : Hid _ := hk
    rw [h0]
    clear hk h0
    generalize (numOf c).1 = x
    go_wp2
    exact ret_tct (x := .int .u64 0) (y := .bool false) rfl rfl rfl rfl (hz2.set rz0) rfl (rdq_no (n := 0) HK.out (bel_set5 hB2))
  · have hok : okN c = true := by unfold okN; exact decide_eq_true h0
    obtain ⟨hcb, hv64⟩ := okN_back hok
    have hnv : nV c = (numOf c).1 := by unfold nV; rw [hok, if_pos rfl]
    have hnr : nR c = c.drop (numOf c).2 := by unfold nR; rw [hok, if_pos rfl]
    obtain ⟨k1, k2, k3, k4, k5⟩ := numOf_back (l := c) (v := (numOf c).1) (n := (numOf c).2) rfl h0
    have hsl := fun W : World => rrun_from (P := Tryd.prog) 9 c (numOf c).2 k3 W Tryd.underlying9
    rw [← hnr] at hsl
    have hrl := rest_len c
    have hdec := rDecode_any (nR c)
    have hpt := fun W => rPut17_any (nV c) (decR (nR c)) W hv64
    have hni : (((numOf c).2 : Int) == 0) = false := beq_eq_false_iff_ne.2 (by omega)
    have hnp : 0 < (numOf c).2 := by omega
    rw [← hnv]
    have HCB : Hid _ := hcb
    have HV : Hid _ := hv64
    have HPT : Hid _ := hpt
    have HRL : Hid ((nR c).length ≤ 1048576) := by show _ ≤ _; omega
    clear hcb hok hnv hnr k1 k2 k3 k4 k5 h0 hpt hrl hv64
    generalize (numOf c).2 = nn at *
    go_wp2_with fail
    refine (hdec w2 HRL.out).mono ?_
    rintro e w3 ⟨rfl, hb3⟩
    have hz3 := hz2.below hb3 hz2.lt
    have hB3 := bel_call hb3 hB2
    clear hz2 hB2 hb3 z0 z1 z2 z3 z4 fz hsl hdec
    cases hd : decO (nR c) with
    | false =>
      have hk : rdOk c = false := by unfold rdOk; rw [hd, Bool.and_false]
      have HK : Hid _ := hk
      obtain ⟨w4, hw4⟩ : ∃ w4, w4 = w3.alloc (.cells #[.int .i64 0, .bool false, .string (bstr []), .string (bstr []), .int .u64 0] 25) := ⟨_, rfl⟩
      have hz4 : RzB w4 w.heap.size rz0 := by rw [hw4]; exact hz3.below (bel_alloc (Below.refl _ _)) hz3.lt
      have hB4 : Below w.heap.size w w4 := by rw [hw4]; exact bel_alloc hB3
      have HW : Hid _ := hw4
      clear hw4 hz3 hB3 hd hk
      go_upto_region 5 with fail
      have HW2 := HW.out
      rw [← HW2]
      clear HW HW2
      obtain ⟨z0, z1, z2, z3, z4⟩ := hz4.facts
      simp only at z0 z1 z2 z3 z4
      have fz := hz4.frz
      go_wp2
      exact ret_tct (x := .int .u64 0) (y := .bool false) rfl rfl rfl rfl (hz4.set rz0) rfl (rdq_no (n := 0) HK.out (bel_set5 hB4))
    | true =>
      obtain ⟨hb1, hb2⟩ := dec_back hd
      obtain ⟨sq, hsq⟩ : ∃ sq, sq = decide (1 ≤ nV c ∧ nV c ≤ 1099511627776) := ⟨_, rfl⟩
      have hk : rdOk c = sq := by unfold rdOk; rw [hd, ← hsq, Bool.and_true]
      have hss : ssL (nV c) (decR (nR c)) = c := by
        unfold ssL
        rw [← hb1]
        exact HCB.out.symm
      have hptk : ptL (nV c) (decR (nR c)) = (if sq then c else []) ∧ ptE (nV c) (decR (nR c)) = (if sq then 0 else 2) := by
        cases hs : sq with
        | true =>
          have h1 := of_decide_eq_true (hsq.symm.trans hs)
          have hkk : ptK (nV c) (decR (nR c)) = 2 := by unfold ptK; rw [if_pos h1, if_pos hb2, if_pos (by rw [hss]; exact hl)]
          unfold ptL ptE
          rw [hkk, hss]
          exact ⟨rfl, rfl⟩
        | false =>
          have h1 := of_decide_eq_false (hsq.symm.trans hs)
          have hkk : ptK (nV c) (decR (nR c)) = 0 := by unfold ptK; rw [if_neg h1]
          unfold ptL ptE
          rw [hkk]
          exact ⟨rfl, rfl⟩
      have hp2 := HPT.out
      rw [hptk.1, hptk.2] at hp2
      obtain ⟨D, hD⟩ : ∃ D, D = decR (nR c) := ⟨_, rfl⟩
      rw [← hD] at hp2 ⊢
      have HP2 : Hid _ := hp2
      have HK : Hid _ := hk
      have HD : Hid _ := hD
      clear hb1 hb2 hsq hk hss hptk hp2 hD hd HPT HCB
      obtain ⟨de, df, dr, dv, dn⟩ := D
      obtain ⟨X, hX⟩ : ∃ X, X = w3.heap.size := ⟨_, rfl⟩
      obtain ⟨w4, hw4⟩ : ∃ w4, w4 = w3.alloc (.cells #[.int .i64 de, .bool df, .string (bstr dr), .string (bstr dv), .int .u64 (dn : Int)] 25) := ⟨_, rfl⟩
      have hb4 : Below w3.heap.size w3 w4 := by rw [hw4]; exact bel_alloc (Below.refl _ _)
      have hx4 : RzB w4 X ⟨de, df, dr, dv, dn⟩ := by rw [hw4, hX]; exact heap_alloc_new w3 _
      have hz4 := hz3.below hb4 hz3.lt
      have hB4 := bel_call hb4 hB3
      have HW : Hid _ := hw4
      have HN : Hid _ := hX
      clear hw4 hb4 hz3 hB3
      go_upto_region 5 with fail
      rw [← HN.out]
      have HW2 := HW.out
      rw [← HW2]
      clear HW2 HW HN hX
      obtain ⟨x0, x1, x2, x3, x4⟩ := hx4.facts
      simp only at x0 x1 x2 x3 x4
      go_wp2_with fail
      refine (HP2.out w4).mono ?_
      rintro e w5 ⟨rfl, hb5⟩
      have hx5 := hx4.below hb5 hx4.lt
      have hz5 := hz4.below hb5 hz4.lt
      have hB5 := bel_call hb5 hB4
      clear hx4 hz4 hB4 hb5 x0 x1 x2 x3 x4
      obtain ⟨x0, x1, x2, x3, x4⟩ := hx5.facts
      obtain ⟨z0, z1, z2, z3, z4⟩ := hz5.facts
      simp only at x0 x1 x2 x3 x4 z0 z1 z2 z3 z4
      have fz := hz5.frz
      have HZ : Hid _ := hz5.set ⟨de, df, dr, dv, dn⟩
      have HBZ : Hid _ := hB5
      have HBQ : Hid (Below w.heap.size w (((((w5.setCell ⟨w.heap.size, 0, none⟩ (.int .i64 de)).setCell ⟨w.heap.size, 1, none⟩ (.bool df)).setCell ⟨w.heap.size, 2, none⟩ (.string (bstr dr))).setCell ⟨w.heap.size, 3, none⟩ (.string (bstr dv))).setCell ⟨w.heap.size, 4, none⟩ (.int .u64 (dn : Int)))) := bel_set5 hB5
      clear hx5 hz5 hB5
      cases sq
      · go_upto_region 8 with fail
        go_region
        go_wp2
        exact ret_tct (x := .int .u64 (nV c : Int)) (y := .bool false) rfl rfl rfl rfl HZ.out rfl (rdq_no HK.out HBQ.out.drew)
      · go_upto_region 8 with fail
        go_region
        go_wp2
        exact ret_tct (x := .int .u64 (nV c : Int)) (y := .bool true) rfl rfl rfl rfl HZ.out rfl (rdq_yes HK.out HD.out HBQ.out.drew)

end Go.Proofs.YtmgibkglbddlpaaDoor
