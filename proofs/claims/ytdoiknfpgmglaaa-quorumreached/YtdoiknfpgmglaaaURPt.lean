/-
  The document's answers for quorum: part.
-/
import Derived.Test.YtdoiknfpgmglaaaUMtM
import Derived.Test.YtdoiknfpgmglaaaURf2
namespace Go.Proofs.Ytdoiknfpgmglaaa
open Go.RowKit Go.BigFrame

theorem bit_and : ∀ x < 32, ∀ i < 5, (bits BinOp.and IntKind.i64 (((x : Nat) : Int) / 2 ^ (i : Nat)) 1 == 1) = (x : Nat).testBit i := by decide +kernel
theorem par_yes {l : List Int} {x i : Nat} (h : x.testBit i = true) (hi : i < l.length) : par l x (i + 1) = par l x i ++ [l[i]] := by
  have : l.getD i 0 = l[i] := by simp [hi]
  rw [par, if_pos h, this]
theorem par_no {l : List Int} {x i : Nat} (h : x.testBit i = false) : par l x (i + 1) = par l x i := by
  rw [par, h]
  simp

set_option maxHeartbeats 8000000 in
set_option maxRecDepth 100000 in
theorem RPart_any (q : Option Addr) (cap : Nat) (l : List Int) (x : Nat) (w : World) (h : IArg w q l) (hl : l.length ≤ 5) (hx : x < 32) :
    Calls Try.prog 32 #[.slice q l.length cap, .int .i64 (x : Int)] w fun e w' => ∃ v, e = .returned v ∧ w'.ownsRow w.heap.size 3 1 v (parL l x).length (icells (parL l x)) ∧ Below w.heap.size w w' := by
  obtain ⟨i0, hi0, hz0, hz1, hz2⟩ := info_parts Try.infoInt
  go_enter Try.func32, Try.ntmps32
  go_wp2
  go_loopw [5, 6] (fun s5 s6 wr => ∃ i : Nat, s6 = .int .i64 (i : Int) ∧ i ≤ l.length ∧ wr.ownsRow w.heap.size 3 1 s5 (par l x i).length (icells (par l x i)) ∧ Below w.heap.size w wr) (fun _ s6 _ => l.length - (intOf s6).toNat)
  case atStart => exact ⟨0, rfl, Nat.zero_le _, World.ownsRow_nil .., Below.refl _ _⟩
  case round =>
    obtain ⟨i, rfl, hil, hown, hbr⟩ := hrel
    by_cases hlt : i < l.length
    · have hi1 : (i : Int) < (l.length : Int) := by omega
      have hb := bit_and x hx i (by omega)
      cases hP : x.testBit i with
      | false =>
        rw [hP] at hb
        have HL : Hid _ := par_no (l := l) hP
        clear hP
        go_wp2
        go_roundw
        case rel => exact ⟨i + 1, by go_num, by omega, by rw [HL.out]; exact hown, hbr⟩
        case measure => simp [intOf]; omega
      | true =>
        rw [hP] at hb
        have HL : Hid _ := par_yes hP hlt
        obtain ⟨b, off, rfl, hr⟩ := h (by omega)
        have c0 := cell_below hbr (hr i hlt)
        obtain ⟨z, hz0'⟩ : ∃ z, z = l[i] := ⟨_, rfl⟩
        rw [← hz0'] at c0 HL
        have hlen := par_len l x i
        have hz := hbr.size
        obtain ⟨n, hn⟩ : ∃ n, n = (par l x i).length := ⟨_, rfl⟩
        rw [← hn] at hown hlen
        have HN : Hid _ := hn
        have y3 : Hid (n + 1 ≤ maxLen) := by show _ ≤ _; unfold maxLen; omega
        have y4 : Hid ((n + 1) * 8 ≤ 140737488355328) := by show _ ≤ _; omega
        have y5 : Hid (w.heap.size ≤ (wr.alloc (.cells #[.int .i64 z] 3)).heap.size) := by show _ ≤ _; simp; omega
        clear hn hz hlen hP hr hz0'
        go_wp2_with (at_builtin; refine wpList_append_own _ rfl _ _ 22 rfl w.heap.size 3 i0 (.int .i64 0) 1 8 Try.underlying22 hi0 hz0 hz1 hz2 rfl (by decide) _ _ _ rfl (hown.alloc _) ⟨wr.heap.size, 0, none⟩ 1 1 [.int .i64 z] rfl rfl (news_one _ _ _) (one_int _ _) y3.out y4.out y5.out ?_)
        intro v4 w4 hown4 hgr4 _
        have hbw4 : Below w.heap.size w w4 := (bel_alloc hbr (Nat.le_refl _) _).grown hgr4 (by have := hbr.size; simp; omega) (fun k hk => (hown.lt k hk).1)
        have hown5 : w4.ownsRow w.heap.size 3 1 v4 (par l x (i + 1)).length (icells (par l x (i + 1))) := by
          rw [HL.out, icells_append, List.length_append, ← HN.out]
          exact hown4
        clear hown hown4 hgr4
        go_wp2
        go_roundw
        case rel => exact ⟨i + 1, by go_num, by omega, hown5, hbw4⟩
        case measure => simp [intOf]; omega
    · obtain rfl : i = l.length := by omega
      have c1 : ¬ (l.length : Int) < (l.length : Int) := by omega
      go_wp2
      go_ret
      exact ⟨_, rfl, hown, hbr⟩

end Go.Proofs.Ytdoiknfpgmglaaa
