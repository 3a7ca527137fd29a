/-
  quorum: nodes as a rising list.
-/
import Derived.Test.YtdoiknfpgmglaabUMem
namespace Go.Proofs.Ytdoiknfpgmglaab
open Go.RowKit Go.BigFrame

theorem news_one (w : World) (v : Value) (t : TypeId) : ∀ j u, [v][j]? = some u → (w.alloc (.cells #[v] t)).cell? ((⟨w.heap.size, 0, none⟩ : Addr).add j) = some u := by
  intro j u hj
  rw [Addr.add_lit]
  match j, hj with
  | 0, hj =>
    cases hj
    exact (mcells (heap_alloc_new w _)).1 0
theorem one_int (k : IntKind) (x : Int) : ∀ u ∈ [Value.int k x], u.oneCell' = true := by intro u hu; simp at hu; subst hu; rfl
def lstI (m i : Nat) : List Int := ((List.range i).filter fun i => bt m i).map fun (i : Nat) => (i : Int)
theorem lstI_succ (m i : Nat) : lstI m (i + 1) = lstI m i ++ (if bt m i = true then [(i : Int)] else []) := by
  unfold lstI
  rw [List.range_succ, List.filter_append, List.map_append]
  congr 1
  by_cases e : bt m i = true <;> simp [e]
theorem lstI_yes {m i : Nat} (h : bt m i = true) : lstI m (i + 1) = lstI m i ++ [(i : Int)] := by rw [lstI_succ, if_pos h]
theorem lstI_no {m i : Nat} (h : bt m i = false) : lstI m (i + 1) = lstI m i := by rw [lstI_succ, h]; simp
theorem lstI_five (m : Nat) : lstI m 5 = lst m := rfl
theorem lstI_len (m i : Nat) : (lstI m i).length ≤ i := by
  unfold lstI
  rw [List.length_map]
  refine Nat.le_trans (List.length_filter_le ..) ?_
  simp

theorem nd_index (m i : Nat) (hi : i < 5) (w : World) : (Instr.index 37 (.agg #[.bool (bt m 0), .bool (bt m 1), .bool (bt m 2), .bool (bt m 3), .bool (bt m 4)]) (.int .i64 (i : Int))).run Try.prog w = .ok (.bool (bt m i)) w := by
  rcases (by omega : i = 0 ∨ i = 1 ∨ i = 2 ∨ i = 3 ∨ i = 4) with rfl | rfl | rfl | rfl | rfl <;> kernel_rfl

set_option maxHeartbeats 4000000 in
set_option maxRecDepth 100000 in
theorem list_any (m : Nat) (w : World) :
    Calls Try.prog 12 #[ndV m] w fun e w' => ∃ v, e = .returned v ∧ w'.ownsRow w.heap.size 3 1 v (lst m).length (icells (lst m)) ∧ Below w.heap.size w w' := by
  obtain ⟨i0, hi0, hz0, hz1, hz2⟩ := info_parts Try.infoInt
  unfold ndV
  go_enter Try.func12, Try.ntmps12
  go_wp2
  go_loopw [3, 7] (fun s3 s7 wr => ∃ i : Nat, s7 = .int .i64 (i : Int) ∧ i ≤ 5 ∧ wr.ownsRow w.heap.size 3 1 s3 (lstI m i).length (icells (lstI m i)) ∧ Below w.heap.size w wr) (fun _ s7 _ => 5 - (intOf s7).toNat)
  case atStart => exact ⟨0, rfl, Nat.zero_le _, World.ownsRow_nil .., bel_alloc (Below.refl _ _) (Nat.le_refl _) _⟩
  case round =>
    obtain ⟨i, rfl, hi, hown, hbr⟩ := hrel
    by_cases hlt : i < 5
    · have hi1 : (i : Int) < 5 := by omega
      have ix := fun w => nd_index m i hlt w
      by_cases hb : bt m i = true
      · have HL : Hid _ := lstI_yes hb
        rw [hb] at ix
        have hlen := lstI_len m i
        have hz := hbr.size
        obtain ⟨n, hn⟩ : ∃ n, n = (lstI m i).length := ⟨_, rfl⟩
        rw [← hn] at hown hlen
        have HN : Hid _ := hn
        have y3 : Hid (n + 1 ≤ maxLen) := by show _ ≤ _; unfold maxLen; omega
        have y4 : Hid ((n + 1) * 8 ≤ 140737488355328) := by show _ ≤ _; omega
        have y5 : Hid (w.heap.size ≤ (wr.alloc (.cells #[.int .i64 (i : Int)] 3)).heap.size) := by show _ ≤ _; simp; omega
        clear hn hz hlen hb
        go_wp2_with (at_builtin; refine wpList_append_own _ rfl _ _ 22 rfl w.heap.size 3 i0 (.int .i64 0) 1 8 Try.underlying22 hi0 hz0 hz1 hz2 rfl (by decide) _ _ _ rfl (hown.alloc _) ⟨wr.heap.size, 0, none⟩ 1 1 [.int .i64 (i : Int)] rfl rfl (news_one _ _ _) (one_int _ _) y3.out y4.out y5.out ?_)
        intro v4 w4 hown4 hgr4 _
        have hbw4 : Below w.heap.size w w4 := (bel_alloc hbr (Nat.le_refl _) _).grown hgr4 (by have := hbr.size; simp; omega) (fun k hk => (hown.lt k hk).1)
        have hown5 : w4.ownsRow w.heap.size 3 1 v4 (lstI m (i + 1)).length (icells (lstI m (i + 1))) := by
          rw [HL.out, icells_append, List.length_append, ← HN.out]
          exact hown4
        clear hown hown4 hgr4
        go_wp2
        go_roundw
        case rel => exact ⟨i + 1, by go_num, by omega, hown5, hbw4⟩
        case measure => simp [intOf]; omega
      · have hb : bt m i = false := by simpa using hb
        have HL : Hid _ := lstI_no hb
        rw [hb] at ix
        clear hb
        go_wp2
        go_roundw
        case rel => exact ⟨i + 1, by go_num, by omega, by rw [HL.out]; exact hown, hbr⟩
        case measure => simp [intOf]; omega
    · obtain rfl : i = 5 := by omega
      have c1 : ¬ (5 : Int) < 5 := by omega
      go_wp2
      go_ret
      rw [lstI_five] at hown
      exact ⟨_, rfl, hown, hbr⟩

end Go.Proofs.Ytdoiknfpgmglaab
