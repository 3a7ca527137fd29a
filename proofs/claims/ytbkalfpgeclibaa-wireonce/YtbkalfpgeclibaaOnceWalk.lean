/-
  The walk of the law WireOnce over this seat's translation: it returns true, and of what was there nothing has turned.
-/
import Derived.Test.YtbkalfpgeclibaaWorks
import Derived.Test.YtbkalfpgeclibaaUnhex
namespace Go.Proofs.Ytbkalfpgeclibaa
open Go.RowKit Go.BigFrame
attribute [local go_sem] size_bstr getElem_bstr toList_bstr

theorem below_step {w a b : World} (h : Below w.heap.size w a) (k : Below a.heap.size a b) : Below w.heap.size w b := h.trans (k.mono h.size)
theorem below_grown {w a b : World} {g : Nat} (h : Below w.heap.size w a) (k : a.grownBy b (some g)) (hg : w.heap.size ≤ g) : Below w.heap.size w b :=
  h.grown k h.size (fun j hj => by cases hj; exact hg)

set_option maxHeartbeats 4000000 in
set_option maxRecDepth 100000 in
theorem once_walk (L : List UInt8) (w : World) :
    Calls Try.prog 5 #[.string (bstr L)] w fun e w' => e = .returned (.bool true) ∧ Below w.heap.size w w' := by
  have hsl := fun w : World => run_cut (P := Try.prog) 9 L 1000 1000 rfl w Try.underlying9
  have hle : (L.take 1000).length ≤ 1000 := List.length_take_le _ _
  generalize L.take 1000 = l at *
  cases hn : (numOf l).2 with
  | zero =>
    go_enter Try.func5, Try.ntmps5
    go_wp2_with fail
    refine (New_any (bstr l) _).mono ?_
    rintro e w1 ⟨rfl, hr, hb⟩
    go_wp2_with fail
    refine (Number_no _ l _ hr (by omega) hn).mono ?_
    rintro e w2 ⟨rfl, rfl⟩
    clear hn
    go_wp2_with fail
    refine (Left_any _ l _ hr).mono ?_
    rintro e w3 ⟨rfl, rfl⟩
    clear hr
    go_wp2_with fail
    go_quiet (fail)
    replace hb := below_drewN hb nq

    go_wp2_with fail
    refine (Hex_any l _ (by omega)).mono ?_
    rintro e wa ⟨rfl, hba⟩
    replace hb := below_step hb hba
    clear hba
    go_wp2_with fail
    refine (Unhex_some (hexOf l) l _ (by rw [hexOf_length]; omega) (unhexOf_hexOf l)).mono ?_
    rintro e wb ⟨rfl, hbb⟩
    replace hb := below_step hb hbb
    clear hbb
    go_wp2_with fail
    cases ho : unhexOf l with
    | none =>
      refine (Unhex_none l _ (by omega) ho).mono ?_
      rintro e wc ⟨rfl, hbc⟩
      replace hb := below_step hb hbc
      clear hbc
      go_wp2_with fail
      refine (works_any _).mono ?_
      rintro e wd ⟨rfl, hbd⟩
      replace hb := below_step hb hbd
      clear hbd
      go_wp2
      go_ret
      exact ⟨rfl, hb⟩
    | some t =>
      refine (Unhex_some l t _ (by omega) ho).mono ?_
      rintro e wc ⟨rfl, hbc⟩
      replace hb := below_step hb hbc
      clear hbc
      have hht := hexOf_unhexOf l t ho
      have htl : t.length ≤ 1000 := by have := hexOf_length t; rw [hht] at this; omega
      have HH : Hid (hexOf t = l) := hht
      clear hht ho
      go_wp2_with fail
      refine (Hex_any t _ (by omega)).mono ?_
      rintro e wd ⟨rfl, hbd⟩
      rw [HH.out]
      replace hb := below_step hb hbd
      clear hbd
      go_wp2_with fail
      refine (works_any _).mono ?_
      rintro e we ⟨rfl, hbe⟩
      replace hb := below_step hb hbe
      clear hbe
      go_wp2
      go_ret
      exact ⟨rfl, hb⟩
  | succ n =>
    obtain ⟨v, hv⟩ : ∃ v, numOf l = (v, n + 1) := ⟨(numOf l).1, by rw [← hn]⟩
    obtain ⟨h1, h10, hnl, hv64, ht⟩ := numOf_back hv (by omega)
    have HV : Hid (numOf l = (v, n + 1)) := hv
    have hsub : (l.length : Int) - ((l.length : Int) - ((n : Int) + 1)) = (n : Int) + 1 := by omega
    have hdl : ((l.drop (n + 1)).length : Int) = (l.length : Int) - ((n : Int) + 1) := by rw [List.length_drop]; omega
    have hhd : ∀ w : World, (Instr.slice 9 (.string (bstr l)) none (some (.int .i64 ((n : Int) + 1))) none).run Try.prog w = .ok (.string (bstr (l.take (n + 1)))) w := by
      intro w
      exact run_head 9 l (n + 1) hnl w Try.underlying9
    have hput : ∀ W : World, Calls Try.prog 10 #[.string ⟨#[]⟩, .int .u64 v] W fun e w' => e = .returned (.string (bstr (l.take (n + 1)))) ∧ Below W.heap.size W w' := by
      intro W
      refine (PutNumber_any ⟨#[]⟩ v W hv64 (by decide)).mono ?_
      rintro e w' ⟨rfl, hb⟩
      exact ⟨by rw [empty_append, ht], hb⟩
    have HP := hput
    have qd1 : decide ((n : Int) + 1 < 1) = false := by rw [decide_eq_false_iff_not]; omega
    have qd2 : decide ((10 : Int) < (n : Int) + 1) = false := by rw [decide_eq_false_iff_not]; omega
    clear hn hv ht hput
    have hgz : w.heap.size ≤ w.heap.size := Nat.le_refl _
    go_enter Try.func5, Try.ntmps5
    go_wp2_with fail
    refine (New_any (bstr l) _).mono ?_
    rintro e w1 ⟨rfl, hr, hb⟩
    go_wp2_with fail
    refine (Number_yes _ l v (n + 1) _ hr (by omega) HV.out (by omega)).mono ?_
    rintro e w2 ⟨rfl, hr2, hg2⟩
    replace hb := below_grown hb hg2 hgz
    clear hr hg2
    go_wp2_with fail
    refine (Left_any _ _ _ hr2).mono ?_
    rintro e w3 ⟨rfl, rfl⟩
    rw [hdl]
    clear hr2 hdl
    go_wp2_with fail
    refine wp_region_quiet_below (by kernel_rfl) (by kernel_rfl) ?_
    repeat (go_big_quiet_step ((go_at_call 10; exact Calls.regrown_of (HP _))))
    refine wpQuiet_nil ?_
    intro _ hw'
    obtain ⟨⟨dq, osq⟩, hw''⟩ := hw'
    subst hw''
    replace hb := below_step hb (below_regrown _ dq osq)

    go_wp2_with fail
    refine (Hex_any l _ (by omega)).mono ?_
    rintro e wa ⟨rfl, hba⟩
    replace hb := below_step hb hba
    clear hba
    go_wp2_with fail
    refine (Unhex_some (hexOf l) l _ (by rw [hexOf_length]; omega) (unhexOf_hexOf l)).mono ?_
    rintro e wb ⟨rfl, hbb⟩
    replace hb := below_step hb hbb
    clear hbb
    go_wp2_with fail
    cases ho : unhexOf l with
    | none =>
      refine (Unhex_none l _ (by omega) ho).mono ?_
      rintro e wc ⟨rfl, hbc⟩
      replace hb := below_step hb hbc
      clear hbc
      go_wp2_with fail
      refine (works_any _).mono ?_
      rintro e wd ⟨rfl, hbd⟩
      replace hb := below_step hb hbd
      clear hbd
      go_wp2
      go_ret
      exact ⟨rfl, hb⟩
    | some t =>
      refine (Unhex_some l t _ (by omega) ho).mono ?_
      rintro e wc ⟨rfl, hbc⟩
      replace hb := below_step hb hbc
      clear hbc
      have hht := hexOf_unhexOf l t ho
      have htl : t.length ≤ 1000 := by have := hexOf_length t; rw [hht] at this; omega
      have HH : Hid (hexOf t = l) := hht
      clear hht ho
      go_wp2_with fail
      refine (Hex_any t _ (by omega)).mono ?_
      rintro e wd ⟨rfl, hbd⟩
      rw [HH.out]
      replace hb := below_step hb hbd
      clear hbd
      go_wp2_with fail
      refine (works_any _).mono ?_
      rintro e we ⟨rfl, hbe⟩
      replace hb := below_step hb hbe
      clear hbe
      go_wp2
      go_ret
      exact ⟨rfl, hb⟩

end Go.Proofs.Ytbkalfpgeclibaa
