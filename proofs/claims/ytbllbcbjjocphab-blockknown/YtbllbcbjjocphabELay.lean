/-
  The contracts of block's small functions: common, tailSize, lay.
-/
import Derived.Test.YtbllbcbjjocphabEMath
namespace Go.Proofs.Ytbllbcbjjocphab
open Go.RowKit Go.BigFrame Go.Sort
attribute [local go_sem] size_bstr getElem_bstr toList_bstr

set_option maxHeartbeats 1000000 in
set_option maxRecDepth 100000 in
theorem common_any (a b : List UInt8) (w : World) (ha : a.length ≤ 1000000) :
    Calls Try.prog 28 #[.string (bstr a), .string (bstr b)] w fun e w' => e = .returned (.int .i64 (cmn a b : Int)) ∧ RowKit.Below w.heap.size w w' := by
  go_enter Try.func28, Try.ntmps28
  go_wp2
  obtain ⟨m, hm⟩ : ∃ m : Nat, (min (a.length : Int) (b.length : Int)) = (m : Int) := ⟨min a.length b.length, by omega⟩
  have hma : m ≤ a.length := by omega
  have hmb : m ≤ b.length := by omega
  have hme : a.length ≤ m ∨ b.length ≤ m := by omega
  rw [hm]
  clear hm
  have HME : Hid _ := hme
  clear hme
  go_loopw [13] (fun s13 wr => ∃ i : Nat, s13 = .int .i64 (i : Int) ∧ i ≤ m ∧ Hid (cmn a b = i + cmn (a.drop i) (b.drop i)) ∧ RowKit.Below w.heap.size w wr) (fun s13 _ => m - (intOf s13).toNat)
  case atStart => exact ⟨0, rfl, by omega, by show _ = _; simp, RowKit.Below.refl _ _⟩
  case round =>
    obtain ⟨i, rfl, him, HC, hbel⟩ := hrel
    by_cases hlt : i < m
    · have ha' : i < a.length := by omega
      have hb' : i < b.length := by omega
      by_cases he : a[i] = b[i]
      · have HE : Hid _ := he
        have hq : ((a[i].toNat : Int) == (b[i].toNat : Int)) = true := by rw [he]; simp
        clear he
        go_wp2_with fail
        go_quiet (fail)
        have hbq := below_drewN hbel nq
        go_wp2
        go_roundw
        case rel => exact ⟨i + 1, by go_num, by omega, cmn_step ha' hb' HE.out HC.out, hbq⟩
        case measure => simp [intOf]; omega
      · have HE : Hid _ := he
        have hq : ((a[i].toNat : Int) == (b[i].toNat : Int)) = false := by
          rw [beq_eq_false_iff_ne]
          intro h
          exact he (UInt8.toNat_inj.1 (by omega))
        clear he
        go_wp2_with fail
        go_quiet (fail)
        have hbq := below_drewN hbel nq
        go_wp2
        go_ret
        exact ⟨by rw [cmn_here ha' hb' HE.out HC.out]; rfl, hbq⟩
    · have hie : i = m := by omega
      subst hie
      go_wp2
      go_ret
      exact ⟨by rw [cmn_end HME.out HC.out]; rfl, hbel⟩
theorem tailSize_any (n : Nat) (w : World) (h : n ≤ 1000000) : Calls Try.prog 13 #[.int .i64 (n : Int)] w fun e w' => e = .returned (.int .i64 ((2 * n + 2 : Nat) : Int)) ∧ w' = w := by
  go_enter Try.func13, Try.ntmps13
  go_wp2
  go_ret
  exact ⟨by go_num, rfl⟩

/-- 's[i:]', 's[:n]'. -/
theorem erun_from {P : Program} (t : TypeId) (L : List UInt8) (i : Nat) (hi : i ≤ L.length) (w : World) (ht : P.underlying t = some .string) :
    (Instr.slice t (.string (bstr L)) (some (.int .i64 (i : Int))) none none).run P w = .ok (.string (bstr (L.drop i))) w := by
  have h := run_slice_string_l (P := P) (t := t) (s := bstr L) (w := w) ht .i64 (i : Int) (by omega) (by rw [size_bstr]; omega)
  rw [h]
  have e2 : (bstr L).extract ((i : Int).toNat) (bstr L).size = bstr (L.drop i) := by
    apply ByteArray.ext
    rw [size_bstr]
    simp only [bstr, ByteArray.data_extract, List.extract_toArray, Int.toNat_natCast, List.extract_eq_take_drop]
    rw [List.take_of_length_le (by rw [List.length_drop]; omega)]
  rw [e2]
theorem erun_head {P : Program} (t : TypeId) (k : IntKind) (L : List UInt8) (n : Nat) (hn : n ≤ L.length) (w : World) (ht : P.underlying t = some .string) :
    (Instr.slice t (.string (bstr L)) none (some (.int k (n : Int))) none).run P w = .ok (.string (bstr (L.take n))) w := by
  have h := run_slice_string_h (P := P) (t := t) (s := bstr L) (w := w) ht k (n : Int) (by omega) (by rw [size_bstr]; omega)
  rw [h]
  have e2 : (bstr L).extract 0 ((n : Int).toNat) = bstr (L.take n) := by
    apply ByteArray.ext
    simp [bstr]
  rw [e2]

set_option maxHeartbeats 2000000 in
set_option maxRecDepth 100000 in
theorem blay_any (c : Cl) (a : List UInt8) (w : World) (hc : okC c = true) (ha : a.length ≤ 1000) :
    Calls Try.prog 12 #[clV c, .string (bstr a)] w fun e w' => e = .returned (.string (bstr (layB a c))) ∧ RowKit.Below w.heap.size w w' := by
  obtain ⟨h1, h2, h3, h4, h5⟩ := okC_len hc
  clear hc
  obtain ⟨r, k, v, z, x⟩ := c
  simp only at h1 h2 h3 h4 h5
  have hB : RowKit.Below w.heap.size w (w.alloc (.cells #[.string (bstr r), .string (bstr k), .int .u64 v, .bool z, .string (bstr x)] 24)) := (RowKit.Below.refl _ _).alloc (Nat.le_refl _) _
  have hA := CellAt.new w 24 r k v z x
  have hcm := fun W => common_any a r W (by omega)
  have hnl := cmn_right a r
  obtain ⟨n, hn⟩ : ∃ n, cmn a r = n := ⟨_, rfl⟩
  rw [hn] at hnl
  have e0 := Lib.uvarint_length64 (x := n) (by omega)
  have e1 := txt_len (s := r.drop n) (by rw [List.length_drop]; omega)
  rw [List.length_drop] at e1
  have e2 := txt_len (s := k) (by omega)
  have e3 := Lib.uvarint_length64 (x := v.toNat) (by omega)
  have l2 : (Lib.uvarint n ++ txt (r.drop n)).length ≤ 10000000000 := by rw [List.length_append]; omega
  have l3 : (Lib.uvarint n ++ txt (r.drop n) ++ txt k).length ≤ 10000000000 := by rw [List.length_append, List.length_append]; omega
  have l4 : (Lib.uvarint n ++ txt (r.drop n) ++ txt k ++ Lib.uvarint v.toNat).length ≤ 10000000000 := by rw [List.length_append, List.length_append, List.length_append]; omega
  have l5' : ∀ {g : UInt8}, (Lib.uvarint n ++ txt (r.drop n) ++ txt k ++ Lib.uvarint v.toNat ++ [g]).length ≤ 10000000000 := by intro g; rw [List.length_append, List.length_append, List.length_append, List.length_append, List.length_singleton]; omega
  have p1 : ∀ W, Calls Try.prog 30 #[.string ⟨#[]⟩, .int .u64 (n : Int)] W fun e w' => e = .returned (.string (bstr (Lib.uvarint n))) ∧ RowKit.Below W.heap.size W w' := fun W => putNum [] n W (by omega) (by simp)
  have p2 : ∀ W, Calls Try.prog 29 #[.string (bstr (Lib.uvarint n)), .string (bstr (r.drop n))] W fun e w' => e = .returned (.string (bstr (Lib.uvarint n ++ txt (r.drop n)))) ∧ RowKit.Below W.heap.size W w' := fun W => putText _ _ W (by omega) (by rw [List.length_drop]; omega)
  have p3 : ∀ W, Calls Try.prog 29 #[.string (bstr (Lib.uvarint n ++ txt (r.drop n))), .string (bstr k)] W fun e w' => e = .returned (.string (bstr (Lib.uvarint n ++ txt (r.drop n) ++ txt k))) ∧ RowKit.Below W.heap.size W w' := fun W => putText _ _ W l2 (by omega)
  have p3b : ∀ W, Calls Try.prog 30 #[.string (bstr (Lib.uvarint n ++ txt (r.drop n) ++ txt k)), .int .u64 v] W fun e w' => e = .returned (.string (bstr (Lib.uvarint n ++ txt (r.drop n) ++ txt k ++ Lib.uvarint v.toNat))) ∧ RowKit.Below W.heap.size W w' := by
    intro W
    have := putNum (Lib.uvarint n ++ txt (r.drop n) ++ txt k) v.toNat W (by omega) l3
    rw [Int.toNat_of_nonneg (by omega)] at this
    exact this
  have hsl := fun W => erun_from (P := Try.prog) 9 r n hnl W Try.underlying9
  rw [hn] at hcm
  clear e0 e1 e2 e3
  go_enter Try.func12, Try.ntmps12
  go_wp2_with fail
  generalize w.alloc (.cells #[.string (bstr r), .string (bstr k), .int .u64 v, .bool z, .string (bstr x)] 24) = W at *
  refine (hcm _).mono ?_
  rintro e w1 ⟨rfl, hb1⟩
  replace hB := below2 hB hb1
  replace hA := hA.step hb1
  clear hb1 hcm
  cases z with
  | true =>
    have p4 : ∀ W, Calls Try.prog 31 #[.string (bstr (Lib.uvarint n ++ txt (r.drop n) ++ txt k ++ Lib.uvarint v.toNat)), .int .u8 1] W fun e w' => e = .returned (.string (bstr (Lib.uvarint n ++ txt (r.drop n) ++ txt k ++ Lib.uvarint v.toNat ++ [1]))) ∧ RowKit.Below W.heap.size W w' := fun W => putByte _ 1 W (by omega) l4
    have p5 : ∀ W, Calls Try.prog 29 #[.string (bstr (Lib.uvarint n ++ txt (r.drop n) ++ txt k ++ Lib.uvarint v.toNat ++ [1])), .string (bstr x)] W fun e w' => e = .returned (.string (bstr (Lib.uvarint n ++ txt (r.drop n) ++ txt k ++ Lib.uvarint v.toNat ++ [1] ++ txt x))) ∧ RowKit.Below W.heap.size W w' := fun W => putText _ x W l5' (by omega)
    have HL : Hid (layB a ⟨r, k, v, true, x⟩ = Lib.uvarint n ++ txt (r.drop n) ++ txt k ++ Lib.uvarint v.toNat ++ [1] ++ txt x) := by
      show _ = _
      unfold layB
      simp [hn]
    clear hn l2 l3 l4 l5'
    generalize Lib.uvarint n ++ txt (r.drop n) ++ txt k ++ Lib.uvarint v.toNat ++ [1] ++ txt x = L6 at *
    generalize Lib.uvarint n ++ txt (r.drop n) ++ txt k ++ Lib.uvarint v.toNat ++ [1] = L5 at *
    generalize Lib.uvarint n ++ txt (r.drop n) ++ txt k ++ Lib.uvarint v.toNat = L4 at *
    generalize Lib.uvarint n ++ txt (r.drop n) ++ txt k = L3 at *
    generalize Lib.uvarint n ++ txt (r.drop n) = L2 at *
    generalize Lib.uvarint n = L1 at *
    generalize r.drop n = rd at *
    obtain ⟨c0, c1, c2, c3, c4⟩ := id hA
    go_wp2_with fail
    have q0 := fun d os => cell_regrown hA.c0 d os
    refine wp_region_quiet_below (by kernel_rfl) (by kernel_rfl) ?_
    repeat (go_big_quiet_step (first
      | (go_at_call 30; with_reducible exact Calls.regrown_of (p1 _))
      | (go_at_call 29; with_reducible exact Calls.regrown_of (p2 _))))
    refine wpQuiet_nil ?_
    intro _ hw'
    obtain ⟨⟨dq, osq⟩, hw''⟩ := hw'
    subst hw''
    have hb2 := below_regrown w1 dq osq
    replace hB := below2 hB hb2
    replace hA := hA.step hb2
    clear q0 hb2 c0 c1 c2 c3 c4
    generalize grow (redrawn w1 dq) osq = w2 at *
    go_wp2_with fail
    have q1 := fun d os => cell_regrown hA.c1 d os
    have q2 := fun d os => cell_regrown hA.c2 d os
    refine wp_region_quiet_below (by kernel_rfl) (by kernel_rfl) ?_
    repeat (go_big_quiet_step (first
      | (go_at_call 29; with_reducible exact Calls.regrown_of (p3 _))
      | (go_at_call 30; with_reducible exact Calls.regrown_of (p3b _))))
    refine wpQuiet_nil ?_
    intro _ hw'
    obtain ⟨⟨dq3, osq3⟩, hw''⟩ := hw'
    subst hw''
    have hb3 := below_regrown w2 dq3 osq3
    replace hB := below2 hB hb3
    replace hA := hA.step hb3
    clear q1 q2 hb3
    generalize grow (redrawn w2 dq3) osq3 = w3 at *
    go_wp2_with fail
    have q4 := fun d os => cell_regrown hA.c4 d os
    refine wp_region_quiet_below (by kernel_rfl) (by kernel_rfl) ?_
    repeat (go_big_quiet_step (first
      | (go_at_call 31; with_reducible exact Calls.regrown_of (p4 _))
      | (go_at_call 29; with_reducible exact Calls.regrown_of (p5 _))))
    refine wpQuiet_nil ?_
    intro _ hw'
    obtain ⟨⟨dq4, osq4⟩, hw''⟩ := hw'
    subst hw''
    have hb4 := below_regrown w3 dq4 osq4
    replace hB := below2 hB hb4
    clear q4 hb4 hA
    generalize grow (redrawn w3 dq4) osq4 = w4 at *
    go_wp2
    go_ret
    exact ⟨by rw [HL.out]; rfl, hB⟩
  | false =>
    have p4 : ∀ W, Calls Try.prog 31 #[.string (bstr (Lib.uvarint n ++ txt (r.drop n) ++ txt k ++ Lib.uvarint v.toNat)), .int .u8 0] W fun e w' => e = .returned (.string (bstr (Lib.uvarint n ++ txt (r.drop n) ++ txt k ++ Lib.uvarint v.toNat ++ [0]))) ∧ RowKit.Below W.heap.size W w' := fun W => putByte _ 0 W (by omega) l4
    have p5 : ∀ W, Calls Try.prog 29 #[.string (bstr (Lib.uvarint n ++ txt (r.drop n) ++ txt k ++ Lib.uvarint v.toNat ++ [0])), .string (bstr x)] W fun e w' => e = .returned (.string (bstr (Lib.uvarint n ++ txt (r.drop n) ++ txt k ++ Lib.uvarint v.toNat ++ [0] ++ txt x))) ∧ RowKit.Below W.heap.size W w' := fun W => putText _ x W l5' (by omega)
    have HL : Hid (layB a ⟨r, k, v, false, x⟩ = Lib.uvarint n ++ txt (r.drop n) ++ txt k ++ Lib.uvarint v.toNat ++ [0] ++ txt x) := by
      show _ = _
      unfold layB
      simp [hn]
    clear hn l2 l3 l4 l5'
    generalize Lib.uvarint n ++ txt (r.drop n) ++ txt k ++ Lib.uvarint v.toNat ++ [0] ++ txt x = L6 at *
    generalize Lib.uvarint n ++ txt (r.drop n) ++ txt k ++ Lib.uvarint v.toNat ++ [0] = L5 at *
    generalize Lib.uvarint n ++ txt (r.drop n) ++ txt k ++ Lib.uvarint v.toNat = L4 at *
    generalize Lib.uvarint n ++ txt (r.drop n) ++ txt k = L3 at *
    generalize Lib.uvarint n ++ txt (r.drop n) = L2 at *
    generalize Lib.uvarint n = L1 at *
    generalize r.drop n = rd at *
    obtain ⟨c0, c1, c2, c3, c4⟩ := id hA
    go_wp2_with fail
    have q0 := fun d os => cell_regrown hA.c0 d os
    refine wp_region_quiet_below (by kernel_rfl) (by kernel_rfl) ?_
    repeat (go_big_quiet_step (first
      | (go_at_call 30; with_reducible exact Calls.regrown_of (p1 _))
      | (go_at_call 29; with_reducible exact Calls.regrown_of (p2 _))))
    refine wpQuiet_nil ?_
    intro _ hw'
    obtain ⟨⟨dq, osq⟩, hw''⟩ := hw'
    subst hw''
    have hb2 := below_regrown w1 dq osq
    replace hB := below2 hB hb2
    replace hA := hA.step hb2
    clear q0 hb2 c0 c1 c2 c3 c4
    generalize grow (redrawn w1 dq) osq = w2 at *
    go_wp2_with fail
    have q1 := fun d os => cell_regrown hA.c1 d os
    have q2 := fun d os => cell_regrown hA.c2 d os
    refine wp_region_quiet_below (by kernel_rfl) (by kernel_rfl) ?_
    repeat (go_big_quiet_step (first
      | (go_at_call 29; with_reducible exact Calls.regrown_of (p3 _))
      | (go_at_call 30; with_reducible exact Calls.regrown_of (p3b _))))
    refine wpQuiet_nil ?_
    intro _ hw'
    obtain ⟨⟨dq3, osq3⟩, hw''⟩ := hw'
    subst hw''
    have hb3 := below_regrown w2 dq3 osq3
    replace hB := below2 hB hb3
    replace hA := hA.step hb3
    clear q1 q2 hb3
    generalize grow (redrawn w2 dq3) osq3 = w3 at *
    go_wp2_with fail
    have q4 := fun d os => cell_regrown hA.c4 d os
    refine wp_region_quiet_below (by kernel_rfl) (by kernel_rfl) ?_
    repeat (go_big_quiet_step (first
      | (go_at_call 31; with_reducible exact Calls.regrown_of (p4 _))
      | (go_at_call 29; with_reducible exact Calls.regrown_of (p5 _))))
    refine wpQuiet_nil ?_
    intro _ hw'
    obtain ⟨⟨dq4, osq4⟩, hw''⟩ := hw'
    subst hw''
    have hb4 := below_regrown w3 dq4 osq4
    replace hB := below2 hB hb4
    clear q4 hb4 hA
    generalize grow (redrawn w3 dq4) osq4 = w4 at *
    go_wp2
    go_ret
    exact ⟨by rw [HL.out]; rfl, hB⟩

end Go.Proofs.Ytbllbcbjjocphab
