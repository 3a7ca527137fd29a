/-
  quorum: which nodes lists tell.
-/
import Derived.Test.YtdoiknfpgmglaabUMem
namespace Go.Proofs.Ytdoiknfpgmglaab
open Go.RowKit Go.BigFrame

theorem nd_new (w : World) (o : Obj) : NdB ((w.alloc o).alloc (.cells #[.bool false, .bool false, .bool false, .bool false, .bool false] 37)) (w.heap.size + 1) 0 := by
  have h := heap_alloc_new (w.alloc o) (.cells #[.bool false, .bool false, .bool false, .bool false, .bool false] 37)
  have e : (w.alloc o).heap.size = w.heap.size + 1 := by simp
  rw [e] at h
  exact h
theorem nd_new0 (w : World) : NdB (w.alloc (.cells #[.bool false, .bool false, .bool false, .bool false, .bool false] 37)) w.heap.size 0 := heap_alloc_new w _

set_option maxHeartbeats 4000000 in
set_option maxRecDepth 100000 in
theorem nodes_any (b cap : Nat) (ls : List LL) (w : World) (h : LLA w b ls) (hl : ls.length ≤ 2) :
    Calls Try.prog 11 #[.slice (some ⟨b, 0, none⟩) ls.length cap] w fun e w' => e = .returned (ndV (mkA 0 ls)) ∧ Below w.heap.size w w' := by
  go_enter Try.func11, Try.ntmps11
  go_wp2
  go_loopw [10] (fun s10 wr => ∃ i : Nat, s10 = .int .i64 (i : Int) ∧ i ≤ ls.length ∧ NdB wr (w.heap.size + 1) (mkA 0 (ls.take i)) ∧ NdB wr w.heap.size 0 ∧ Below w.heap.size w wr) (fun s10 _ => ls.length - (intOf s10).toNat)
  case atStart => exact ⟨0, rfl, Nat.zero_le _, nd_new w _, (nd_new0 w).alloc _, bel_alloc (bel_alloc (Below.refl _ _) (Nat.le_refl _) _) (Nat.le_refl _) _⟩
  case round =>
    obtain ⟨i, rfl, hil, hA, hB, hbr⟩ := hrel
    by_cases hlt : i < ls.length
    · have hi1 : (i : Int) < (ls.length : Int) := by omega
      obtain ⟨c00, hI, hll⟩ := h i hlt
      have c0 := cell_below hbr c00
      clear c00
      have HT : Hid _ := mkA_take 0 ls i hlt
      obtain ⟨x, hx⟩ : ∃ x, x = ls[i] := ⟨_, rfl⟩
      rw [← hx] at c0 hI hll HT
      clear hx
      obtain ⟨q, cq, l⟩ := x
      dsimp only at c0 hI hll HT
      generalize mkA 0 (List.take i ls) = m0 at *
      obtain ⟨wy, hwy⟩ : ∃ wy, wy = wr := ⟨_, rfl⟩
      go_wp2
      go_loopw [16] (fun s16 wx => ∃ j : Nat, s16 = .int .i64 (j : Int) ∧ j ≤ l.length ∧ NdB wx (w.heap.size + 1) (mk m0 (l.take j)) ∧ NdB wx w.heap.size 0 ∧ Below w.heap.size w wx) (fun s16 _ => l.length - (intOf s16).toNat)
      case atStart => exact ⟨0, rfl, Nat.zero_le _, hA, hB, hbr⟩
      case round =>
        obtain ⟨j, rfl, hjl, hA2, hB2, hbx⟩ := hrel
        clear hA hB
        by_cases hltj : j < l.length
        · have hj1 : (j : Int) < (l.length : Int) := by omega
          obtain ⟨bq, off, rfl, hr⟩ := hI (by omega)
          have c1 := cell_below hbx (hr j hltj)
          have HS : Hid _ := mk_take m0 l j hltj
          obtain ⟨x, hx⟩ : ∃ x, x = l[j] := ⟨_, rfl⟩
          rw [← hx] at c1 HS
          clear hx
          generalize mk m0 (List.take j l) = m2 at *
          by_cases hx5 : 0 ≤ x ∧ x < 5
          · obtain ⟨k, rfl⟩ : ∃ k : Nat, x = (k : Int) := ⟨x.toNat, by omega⟩
            have hk5 : k < 5 := by omega
            have hk6 : (k : Int) < 5 := by omega
            have c2 := hA2.at_ hk5
            have f2 := hA2.frz k
            have hA3 := hA2.set hk5
            have hB3 := hB2.other (b' := w.heap.size + 1) (o := k) (v := .bool true) (by omega)
            have hb3 : Below w.heap.size w (World.setCell _ ⟨w.heap.size + 1, k, none⟩ (.bool true)) := bel_set hbx (by omega)
            go_wp2
            go_roundw
            case rel => exact ⟨j + 1, by go_num, by omega, by rw [HS.out]; exact hA3, hB3, hb3⟩
            case measure => simp [intOf]; omega
          · have HN : Hid _ := setB_no (m := m2) hx5
            rw [HN.out] at HS
            by_cases h0 : 0 ≤ x
            · have h5 : ¬ x < 5 := by omega
              go_wp2
              go_roundw
              case rel => exact ⟨j + 1, by go_num, by omega, by rw [HS.out]; exact hA2, hB2, hbx⟩
              case measure => simp [intOf]; omega
            · go_wp2
              go_roundw
              case rel => exact ⟨j + 1, by go_num, by omega, by rw [HS.out]; exact hA2, hB2, hbx⟩
              case measure => simp [intOf]; omega
        · obtain rfl : j = l.length := by omega
          rw [List.take_length] at hA2
          go_wp2
          go_roundw
          case rel => exact ⟨i + 1, by go_num, by omega, by rw [HT.out]; exact hA2, hB2, hbx⟩
          case measure => simp [intOf]; omega
    · obtain rfl : i = ls.length := by omega
      rw [List.take_length] at hA
      obtain ⟨a0, a1, a2, a3, a4⟩ := hA.c
      obtain ⟨b0, b1, b2, b3, b4⟩ := hB.c
      have fz := hB.frz
      have hi1 : ¬ (ls.length : Int) < (ls.length : Int) := by omega
      go_wp2
      exact ret_nd rfl rfl (hB.five _) rfl ⟨rfl, bel_five hbr (Nat.le_refl _)⟩

end Go.Proofs.Ytdoiknfpgmglaab
