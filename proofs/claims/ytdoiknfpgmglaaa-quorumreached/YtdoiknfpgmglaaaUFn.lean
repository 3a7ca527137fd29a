/-
  quorum: is it in a list, a majority's number; arrays compared.
-/
import Derived.Test.YtdoiknfpgmglaaaUMem
namespace Go.Proofs.Ytdoiknfpgmglaaa
open Go.RowKit Go.BigFrame

set_option maxHeartbeats 4000000 in
set_option maxRecDepth 100000 in
theorem Index_any (q : Option Addr) (cap : Nat) (l : List Int) (x : Int) (w : World) (h : IArg w q l) (hl : l.length ≤ 9223372036854775807) :
    Calls Try.prog 36 #[.slice q l.length cap, .int .i64 x] w fun e w' => (∃ r : Int, e = .returned (.int .i64 r) ∧ decide (0 ≤ r) = decide (x ∈ l)) ∧ w' = w := by
  go_enter Try.func36, Try.ntmps36
  go_wp2
  go_loopw [8] (fun s8 wr => ∃ i : Nat, s8 = .int .i64 (i : Int) ∧ i ≤ l.length ∧ Hid (x ∉ l.take i) ∧ wr = w) (fun s8 _ => l.length - (intOf s8).toNat)
  case atStart => exact ⟨0, rfl, Nat.zero_le _, (by simp : x ∉ l.take 0), rfl⟩
  case round =>
    obtain ⟨i, rfl, hil, hs, rfl⟩ := hrel
    by_cases hlt : i < l.length
    · have hi1 : (i : Int) < (l.length : Int) := by omega
      obtain ⟨b, off, rfl, hr⟩ := h (by omega)
      have c0 := hr i hlt
      have HT : Hid (l.take (i + 1) = l.take i ++ [l[i]]) := List.take_succ_eq_append_getElem hlt
      have HM : Hid (l[i] ∈ l) := List.getElem_mem hlt
      obtain ⟨y, hy⟩ : ∃ y, y = l[i] := ⟨_, rfl⟩
      rw [← hy] at c0 HT HM
      clear hy hr
      by_cases e : x = y
      · have e1 : (x == y) = true := beq_iff_eq.2 e
        have HE : Hid (x = y) := e
        clear e
        go_wp2
        go_ret
        exact ⟨⟨_, rfl, by rw [HE.out]; simp [HM.out]⟩, rfl⟩
      · have e1 : (x == y) = false := beq_eq_false_iff_ne.2 e
        have HS : Hid (x ∉ l.take (i + 1)) := by
          show _ ∉ _
          rw [HT.out]
          simp only [List.mem_append, List.mem_singleton, not_or]
          exact ⟨hs.out, e⟩
        clear e hs
        go_wp2
        go_roundw
        case rel => exact ⟨i + 1, by go_num, by omega, HS, trivial⟩
        case measure => simp [intOf]; omega
    · obtain rfl : i = l.length := by omega
      have hs1 := hs.out
      rw [List.take_length] at hs1
      have HS : Hid (x ∉ l) := hs1
      clear hs hs1
      go_wp2
      go_ret
      exact ⟨⟨_, rfl, by simp [HS.out]⟩, rfl⟩

set_option maxHeartbeats 1000000 in
theorem Contains_any (q : Option Addr) (cap : Nat) (l : List Int) (x : Int) (w : World) (h : IArg w q l) (hl : l.length ≤ 9223372036854775807) :
    Calls Try.prog 31 #[.slice q l.length cap, .int .i64 x] w fun e w' => e = .returned (.bool (decide (x ∈ l))) ∧ w' = w := by
  have hc := Index_any q cap l x w h hl
  generalize decide (x ∈ l) = ok at *
  go_enter Try.func31, Try.ntmps31
  go_wp2_with fail
  refine hc.mono ?_
  rintro e w1 ⟨⟨r, rfl, hr⟩, rfl⟩
  go_wp2
  go_ret
  exact ⟨by rw [← hr]; rfl, rfl⟩

set_option maxHeartbeats 1000000 in
theorem Has_any (q : Option Addr) (cap : Nat) (l : List Int) (x : Int) (w : World) (h : IArg w q l) (hl : l.length ≤ 9223372036854775807) :
    Calls Try.prog 12 #[.slice q l.length cap, .int .i64 x] w fun e w' => e = .returned (.bool (decide (x ∈ l))) ∧ w' = w := by
  have hc := Contains_any q cap l x w h hl
  generalize decide (x ∈ l) = ok at *
  go_enter Try.func12, Try.ntmps12
  go_wp2_with fail
  refine hc.mono ?_
  rintro e w1 ⟨rfl, rfl⟩
  go_wp2
  go_ret
  exact ⟨rfl, rfl⟩

theorem most_eq (l : List Int) : (l.length : Int) / 2 + 1 = (most l : Int) := by
  unfold most
  omega

set_option maxHeartbeats 1000000 in
theorem Most_any (q : Option Addr) (cap : Nat) (l : List Int) (w : World) (hl : l.length ≤ 9223372036854775807) :
    Calls Try.prog 14 #[.slice q l.length cap] w fun e w' => e = .returned (.int .i64 (most l : Int)) ∧ w' = w := by
  have HM : Hid _ := most_eq l
  go_enter Try.func14, Try.ntmps14
  go_wp2
  go_ret
  exact ⟨by rw [← HM.out]; rfl, rfl⟩

theorem Try.infoBool : (Try.prog.info? 4).map (fun i => (i.zero, i.size, i.bytes)) = some (some (.bool false), 1, 1) := by kernel_rfl
theorem nd_eql (a0 a1 a2 a3 a4 b0 b1 b2 b3 b4 : Bool) (w : World) : (binOp .eql 45 (.agg #[.bool a0, .bool a1, .bool a2, .bool a3, .bool a4]) (.agg #[.bool b0, .bool b1, .bool b2, .bool b3, .bool b4])).run Try.prog w = .ok (.bool (a0 == b0 && a1 == b1 && a2 == b2 && a3 == b3 && a4 == b4)) w := by
  have ht := Try.underlying45
  have u3 := Try.underlying4
  have ag3 := Try.isAgg4
  have sz3 := Try.sizeOf4
  obtain ⟨i, hi, _⟩ := info_parts Try.infoBool
  rw [run_eql_struct, show (10000 : Nat) = 9999 + 1 from rfl, run_equalIn_array w 9999 _ _ ht hi]
  rw [show List.range 5 = [0, 1, 2, 3, 4] from rfl]
  have hce : Try.prog.cellsOf 4 = 1 := by kernel_rfl
  simp only [Op.eqItems, hce]
  go_simp
  by_cases h0 : a0 = b0 <;> by_cases h1 : a1 = b1 <;> by_cases h2 : a2 = b2 <;> by_cases h3 : a3 = b3 <;> by_cases h4 : a4 = b4 <;> simp [h0, h1, h2, h3, h4]

end Go.Proofs.Ytdoiknfpgmglaaa
