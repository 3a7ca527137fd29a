/-
  quorum's laws: members of bits.
-/
import Derived.Test.YtdoiknfpgmglaaaULaw
import Derived.Test.YtdoiknfpgmglaaaURPt
namespace Go.Proofs.Ytdoiknfpgmglaaa
open Go.RowKit Go.BigFrame

theorem bit_and8 : ∀ x < 32, ∀ i < 5, (bits BinOp.and IntKind.u8 (((x : Nat) : Int) / 2 ^ (i : Nat)) 1 == 1) = (x : Nat).testBit i := by decide +kernel

set_option maxHeartbeats 8000000 in
set_option maxRecDepth 100000 in
theorem members_any (a : Nat) (w : World) (ha : a < 256) :
    Calls Try.prog 26 #[.int .u8 (a : Int)] w fun e w' => ∃ v, e = .returned v ∧ w'.ownsRow w.heap.size 3 1 v (lst (1 + a % 31)).length (icells (lst (1 + a % 31))) ∧ Below w.heap.size w w' := by
  obtain ⟨i0, hi0, hz0, hz1, hz2⟩ := info_parts Try.infoInt
  obtain ⟨n, hn⟩ : ∃ n, n = 1 + a % 31 := ⟨_, rfl⟩
  have hn32 : n < 32 := by omega
  rw [← hn]
  have HN0 : Hid _ := hn
  clear hn
  go_enter Try.func26, Try.ntmps26
  go_wp2
  have e1 : 1 + (a : Int) % 31 = (n : Int) := by have := HN0.out; omega
  rw [e1]
  clear e1
  go_loopw [3, 5] (fun s3 s5 wr => ∃ i : Nat, s5 = .int .i64 (i : Int) ∧ i ≤ 5 ∧ wr.ownsRow w.heap.size 3 1 s3 (lstI n i).length (icells (lstI n i)) ∧ Below w.heap.size w wr) (fun _ s5 _ => 5 - (intOf s5).toNat)
  case atStart => exact ⟨0, rfl, Nat.zero_le _, World.ownsRow_nil .., Below.refl _ _⟩
  case round =>
    obtain ⟨i, rfl, hi, hown, hbr⟩ := hrel
    by_cases hlt : i < 5
    · have hi1 : (i : Int) < 5 := by omega
      have hb := bit_and8 n hn32 i hlt
      cases hP : n.testBit i with
      | false =>
        rw [hP] at hb
        have HL : Hid _ := lstI_no (m := n) (i := i) hP
        clear hP
        go_wp2
        go_roundw
        case rel => exact ⟨i + 1, by go_num, by omega, by rw [HL.out]; exact hown, hbr⟩
        case measure => simp [intOf]; omega
      | true =>
        rw [hP] at hb
        have HL : Hid _ := lstI_yes (m := n) (i := i) hP
        have hlen := lstI_len n i
        have hz := hbr.size
        obtain ⟨k, hk⟩ : ∃ k, k = (lstI n i).length := ⟨_, rfl⟩
        rw [← hk] at hown hlen
        have HN : Hid _ := hk
        have y3 : Hid (k + 1 ≤ maxLen) := by show _ ≤ _; unfold maxLen; omega
        have y4 : Hid ((k + 1) * 8 ≤ 140737488355328) := by show _ ≤ _; omega
        have y5 : Hid (w.heap.size ≤ (wr.alloc (.cells #[.int .i64 (i : Int)] 3)).heap.size) := by show _ ≤ _; simp; omega
        clear hk hz hlen hP
        go_wp2_with (at_builtin; refine wpList_append_own _ rfl _ _ 22 rfl w.heap.size 3 i0 (.int .i64 0) 1 8 Try.underlying22 hi0 hz0 hz1 hz2 rfl (by decide) _ _ _ rfl (hown.alloc _) ⟨wr.heap.size, 0, none⟩ 1 1 [.int .i64 (i : Int)] rfl rfl (news_one _ _ _) (one_int _ _) y3.out y4.out y5.out ?_)
        intro v4 w4 hown4 hgr4 _
        have hbw4 : Below w.heap.size w w4 := (bel_alloc hbr (Nat.le_refl _) _).grown hgr4 (by have := hbr.size; simp; omega) (fun k hk => (hown.lt k hk).1)
        have hown5 : w4.ownsRow w.heap.size 3 1 v4 (lstI n (i + 1)).length (icells (lstI n (i + 1))) := by
          rw [HL.out, icells_append, List.length_append, ← HN.out]
          exact hown4
        clear hown hown4 hgr4
        go_wp2
        go_roundw
        case rel => exact ⟨i + 1, by go_num, by omega, hown5, hbw4⟩
        case measure => simp [intOf]; omega
    · obtain rfl : i = 5 := by omega
      rw [lstI_five] at hown
      have c1 : ¬ (5 : Int) < 5 := by omega
      go_wp2
      go_ret
      exact ⟨_, rfl, hown, hbr⟩

end Go.Proofs.Ytdoiknfpgmglaaa
