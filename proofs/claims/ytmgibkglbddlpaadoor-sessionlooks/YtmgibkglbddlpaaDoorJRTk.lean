/-
  The contracts of the document's reading of numbers and texts.
-/
import Derived.Test.YtmgibkglbddlpaaDoorRTakeM
import Derived.Test.YtmgibkglbddlpaaDoorJRf
namespace Go.Proofs.YtmgibkglbddlpaaDoor
open Go.RowKit Go.BigFrame Go.Sort
attribute [local go_sem] size_bstr getElem_bstr toList_bstr

set_option maxHeartbeats 4000000 in
set_option maxRecDepth 100000 in
theorem RTakeNumber_any (l : List UInt8) (w : World) (hl : l.length ≤ 10000000000) :
    Calls Tryd.prog 23 #[.string (bstr l)] w fun e w' => e = .returned (.tuple #[.int .u64 ((numOf l).1 : Int), .int .i64 ((numOf l).2 : Int)]) ∧ RowKit.Below w.heap.size w w' := by
  obtain ⟨P, hP⟩ : ∃ P, numOf l = P := ⟨_, rfl⟩
  rw [hP]
  have HP : Hid (numOf l = P) := hP
  clear hP
  go_enter Tryd.func23, Tryd.ntmps23
  go_wp2
  go_loopw [4] (fun s4 wr => ∃ n : Nat, s4 = .int .i64 ((n : Int) + 1) ∧ n ≤ 10 ∧ n ≤ l.length ∧ Hid (∀ j (h : j < l.length), j < n → 128 ≤ l[j].toNat) ∧ RowKit.Below w.heap.size w wr) (fun s4 _ => 11 - (intOf s4).toNat)
  case atStart => exact ⟨0, rfl, by omega, by omega, by show ∀ _, _; intro j h hj; omega, RowKit.Below.refl _ _⟩
  case round =>
    obtain ⟨n, rfl, hn10, hnl, HA, hbel⟩ := hrel
    by_cases hin : n < 10 ∧ n < l.length
    · obtain ⟨hn1, hn2⟩ := hin
      have hb := (l[n]).toNat_lt
      by_cases h128 : 128 ≤ l[n].toNat
      · have HA2 : Hid (∀ j (h : j < l.length), j < n + 1 → 128 ≤ l[j].toNat) := by
          show ∀ _, _
          intro j h hj
          by_cases hj2 : j < n
          · exact HA.out j h hj2
          · have : j = n := by omega
            subst this
            exact h128
        go_wp2
        exact ⟨⟨n + 1, by go_num, by omega, by omega, HA2, hbel⟩, by simp [intOf]; omega⟩
      · have hsl : ∀ w : World, (Instr.slice 9 (.string (bstr l)) none (some (.int .i64 ((n : Int) + 1))) none).run Tryd.prog w = .ok (.string (bstr (l.take (n + 1)))) w := fun w => run_head (P := Tryd.prog) 9 l (n + 1) (by omega) w Tryd.underlying9
        have hsb : (n : Int) + 1 - 1 = (n : Int) := by omega
        go_wp2
        go_loopw [5, 6] (fun s5 s6 w' => ∃ i z : Nat, s6 = .int .i64 ((i : Int) - 1) ∧ i ≤ n + 1 ∧ s5 = .int .u64 (z : Int) ∧ Hid (z = valL ((l.take (n + 1)).drop i) % 18446744073709551616) ∧ RowKit.Below w.heap.size w w') (fun _ s6 _ => ((intOf s6) + 1).toNat)
        case atStart => exact ⟨n + 1, 0, by go_num, by omega, rfl, by show _ = _; rw [List.drop_eq_nil_of_le (by rw [List.length_take]; omega)]; rfl, hbel⟩
        case round =>
          clear hbel
          obtain ⟨i, z, rfl, hi, rfl, HZ, hbel⟩ := hrel
          cases i with
          | succ j =>
            rw [show ((j + 1 : Nat) : Int) - 1 = (j : Int) by omega]
            have hj0 : (0 : Int) ≤ (j : Int) := by omega
            have hjl : (j : Int) < (l.length : Int) := by omega
            have hbj := (l[j]).toNat_lt
            have HV : Hid (valL ((l.take (n + 1)).drop j) = valL ((l.take (n + 1)).drop (j + 1)) * 128 + l[j].toNat % 128) := val_step (by omega) (by omega)
            go_wp2
            exact ⟨⟨j, (z * 128 + l[j].toNat % 128) % 18446744073709551616, rfl, by omega, by rw [show IntKind.u64.wrap ((z : Int) * 128) = ((z * 128 % 18446744073709551616 : Nat) : Int) by simp [IntKind.wrap, IntKind.bits, IntKind.signed], show ((l[j].toNat : Int) % 128) = ((l[j].toNat % 128 : Nat) : Int) by omega, ror_step (by omega)], by show _ = _; rw [HV.out, HZ.out]; omega, hbel⟩, by first | (simp [intOf]; done) | (simp [intOf]; omega)⟩
          | zero =>
            rw [show ((0 : Nat) : Int) - 1 = -1 by omega]
            rw [List.drop_zero] at HZ
            have hh := num_here hn2 HA.out (by omega) HZ.out
            have hzl : z < 18446744073709551616 := by rw [HZ.out]; exact Nat.mod_lt _ (by omega)
            have hcon := fun W => RNumber_any z W hzl
            by_cases heq : Lib.uvarint z = l.take (n + 1)
            · have HE : Hid (P = (z, n + 1)) := by show _ = _; rw [← HP.out]; exact hh.1 heq
              rw [heq] at hcon
              clear hh heq HZ HA
              generalize l.take (n + 1) = T at *
              go_wp2_with fail
              refine wp_region_quiet_below (by kernel_rfl) (by kernel_rfl) ?_
              repeat (go_big_quiet_step ((go_at_call 37; with_reducible exact Calls.regrown_of (hcon _))))
              refine wpQuiet_nil ?_
              intro _ hw'
              obtain ⟨⟨dq, osq⟩, hw''⟩ := hw'
              subst hw''
              have hb2 := below2 hbel (below_regrown wr dq osq)
              clear hbel hcon
              generalize grow (redrawn wr dq) osq = W1 at *
              go_wp2
              go_ret2
              exact ⟨by rw [HE.out]; rfl, hb2⟩
            · have HE : Hid (P = (0, 0)) := by show _ = _; rw [← HP.out]; exact hh.2 heq
              clear hh HZ HA
              have hne : (Lib.uvarint z == l.take (n + 1)) = false := by rw [beq_eq_false_iff_ne]; exact heq
              generalize l.take (n + 1) = T at *
              generalize Lib.uvarint z = Z at *
              go_wp2_with fail
              refine wp_region_quiet_below (by kernel_rfl) (by kernel_rfl) ?_
              repeat (go_big_quiet_step ((go_at_call 37; with_reducible exact Calls.regrown_of (hcon _))))
              refine wpQuiet_nil ?_
              intro _ hw'
              obtain ⟨⟨dq, osq⟩, hw''⟩ := hw'
              subst hw''
              have hb2 := below2 hbel (below_regrown wr dq osq)
              clear hbel hcon
              generalize grow (redrawn wr dq) osq = W1 at *
              go_wp2
              go_ret2
              exact ⟨by rw [HE.out]; rfl, hb2⟩
    · have HN : Hid (P = (0, 0)) := by show _ = _; rw [← HP.out]; exact num_never (by omega) HA.out
      by_cases hn1 : n < 10
      · go_wp2
        go_ret2
        exact ⟨by rw [HN.out]; rfl, hbel⟩
      · go_wp2
        go_ret2
        exact ⟨by rw [HN.out]; rfl, hbel⟩

end Go.Proofs.YtmgibkglbddlpaaDoor
