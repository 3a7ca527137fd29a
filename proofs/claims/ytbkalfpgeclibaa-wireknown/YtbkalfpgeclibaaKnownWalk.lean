/-
  The walk of the law WireKnown over this seat's translation: it returns true, and of what was there nothing has turned.
-/
import Derived.Test.YtbkalfpgeclibaaWorks
import Derived.Test.YtbkalfpgeclibaaUnhex
namespace Go.Proofs.Ytbkalfpgeclibaa
open Go.RowKit
attribute [local go_sem] size_bstr getElem_bstr toList_bstr

theorem k_step {w a b : World} (h : Below w.heap.size w a) (k : Below a.heap.size a b) : Below w.heap.size w b := h.trans (k.mono h.size)
theorem k_grown {w a b : World} {g : Nat} (h : Below w.heap.size w a) (k : a.grownBy b (some g)) (hg : w.heap.size ≤ g) : Below w.heap.size w b :=
  h.grown k h.size (fun j hj => by cases hj; exact hg)

theorem uvarint_0 : Lib.uvarint 0 = [0] := by rw [Lib.uvarint_small (by omega)]; decide
theorem uvarint_127 : Lib.uvarint 127 = [127] := by rw [Lib.uvarint_small (by omega)]; decide
theorem uvarint_128 : Lib.uvarint 128 = [128, 1] := by rw [Lib.uvarint_big (by omega), Lib.uvarint_small (by omega)]; decide
theorem uvarint_max : Lib.uvarint 18446744073709551615 = [255, 255, 255, 255, 255, 255, 255, 255, 255, 1] := by
  rw [Lib.uvarint_big (by omega), Lib.uvarint_big (by omega), Lib.uvarint_big (by omega), Lib.uvarint_big (by omega), Lib.uvarint_big (by omega), Lib.uvarint_big (by omega), Lib.uvarint_big (by omega), Lib.uvarint_big (by omega), Lib.uvarint_big (by omega), Lib.uvarint_small (by omega)]
  decide

theorem Put_0 (w : World) : Calls Try.prog 10 #[.string ⟨#[]⟩, .int .u64 0] w fun e w' => e = .returned (.string (bstr [0])) ∧ Below w.heap.size w w' := by
  have h := PutNumber_any ⟨#[]⟩ 0 w (by omega) (by decide)
  rw [empty_append, uvarint_0] at h
  exact h
theorem Put_127 (w : World) : Calls Try.prog 10 #[.string ⟨#[]⟩, .int .u64 127] w fun e w' => e = .returned (.string (bstr [127])) ∧ Below w.heap.size w w' := by
  have h := PutNumber_any ⟨#[]⟩ 127 w (by omega) (by decide)
  rw [empty_append, uvarint_127] at h
  exact h
theorem Put_128 (w : World) : Calls Try.prog 10 #[.string ⟨#[]⟩, .int .u64 128] w fun e w' => e = .returned (.string (bstr [128, 1])) ∧ Below w.heap.size w w' := by
  have h := PutNumber_any ⟨#[]⟩ 128 w (by omega) (by decide)
  rw [empty_append, uvarint_128] at h
  exact h
theorem Put_max (w : World) : Calls Try.prog 10 #[.string ⟨#[]⟩, .int .u64 18446744073709551615] w fun e w' => e = .returned (.string (bstr [255, 255, 255, 255, 255, 255, 255, 255, 255, 1])) ∧ Below w.heap.size w w' := by
  have h := PutNumber_any ⟨#[]⟩ 18446744073709551615 w (by omega) (by decide)
  rw [empty_append, uvarint_max, show ((18446744073709551615 : Nat) : Int) = 18446744073709551615 from rfl] at h
  exact h
theorem Put_x (w : World) : Calls Try.prog 12 #[.string ⟨#[120]⟩, .string ⟨#[]⟩] w fun e w' => e = .returned (.string (bstr [120, 0])) ∧ Below w.heap.size w w' := by
  have h := PutText_any ⟨#[120]⟩ ⟨#[]⟩ w (by decide) (by decide)
  have e : (⟨#[120]⟩ : ByteArray) ++ bstr (Lib.uvarint (ByteArray.size ⟨#[]⟩)) ++ ⟨#[]⟩ = bstr [120, 0] := by
    have h2 : ByteArray.size ⟨#[]⟩ = 0 := rfl
    rw [append_text, h2, uvarint_0]
    rfl
  rw [e] at h
  exact h

/-- The strings that are gone through. -/
def strs1 : Array Value := #[.string ⟨#[128, 0]⟩, .string ⟨#[128]⟩, .string ⟨#[]⟩, .string ⟨#[255, 255, 255, 255, 255, 255, 255, 255, 255, 2]⟩, .string ⟨#[255, 255, 255, 255, 255, 255, 255, 255, 255, 255, 1]⟩, .string ⟨#[129, 128, 0]⟩]
def strs2 : Array Value := #[.string ⟨#[2, 97, 98]⟩, .string ⟨#[2, 97, 98]⟩, .string ⟨#[3, 97]⟩, .string ⟨#[0]⟩]
theorem strs1_0 {w : World} {b : Nat} (h : w.heap[b]? = some (.cells strs1 9 (0, 0))) : w.cell? ⟨b, 0, none⟩ = some (.string ⟨#[128, 0]⟩) := by simp [World.cell?, h, strs1]
theorem strs1_1 {w : World} {b : Nat} (h : w.heap[b]? = some (.cells strs1 9 (0, 0))) : w.cell? ⟨b, 1, none⟩ = some (.string ⟨#[128]⟩) := by simp [World.cell?, h, strs1]
theorem strs1_2 {w : World} {b : Nat} (h : w.heap[b]? = some (.cells strs1 9 (0, 0))) : w.cell? ⟨b, 2, none⟩ = some (.string ⟨#[]⟩) := by simp [World.cell?, h, strs1]
theorem strs1_3 {w : World} {b : Nat} (h : w.heap[b]? = some (.cells strs1 9 (0, 0))) : w.cell? ⟨b, 3, none⟩ = some (.string ⟨#[255, 255, 255, 255, 255, 255, 255, 255, 255, 2]⟩) := by simp [World.cell?, h, strs1]
theorem strs1_4 {w : World} {b : Nat} (h : w.heap[b]? = some (.cells strs1 9 (0, 0))) : w.cell? ⟨b, 4, none⟩ = some (.string ⟨#[255, 255, 255, 255, 255, 255, 255, 255, 255, 255, 1]⟩) := by simp [World.cell?, h, strs1]
theorem strs1_5 {w : World} {b : Nat} (h : w.heap[b]? = some (.cells strs1 9 (0, 0))) : w.cell? ⟨b, 5, none⟩ = some (.string ⟨#[129, 128, 0]⟩) := by simp [World.cell?, h, strs1]
theorem strs2_0 {w : World} {b : Nat} (h : w.heap[b]? = some (.cells strs2 9 (0, 0))) : w.cell? ⟨b, 0, none⟩ = some (.string ⟨#[2, 97, 98]⟩) := by simp [World.cell?, h, strs2]
theorem strs2_1 {w : World} {b : Nat} (h : w.heap[b]? = some (.cells strs2 9 (0, 0))) : w.cell? ⟨b, 1, none⟩ = some (.string ⟨#[2, 97, 98]⟩) := by simp [World.cell?, h, strs2]
theorem strs2_2 {w : World} {b : Nat} (h : w.heap[b]? = some (.cells strs2 9 (0, 0))) : w.cell? ⟨b, 2, none⟩ = some (.string ⟨#[3, 97]⟩) := by simp [World.cell?, h, strs2]
theorem strs2_3 {w : World} {b : Nat} (h : w.heap[b]? = some (.cells strs2 9 (0, 0))) : w.cell? ⟨b, 3, none⟩ = some (.string ⟨#[0]⟩) := by simp [World.cell?, h, strs2]

set_option maxHeartbeats 8000000 in
set_option maxRecDepth 100000 in
theorem known_walk (w : World) :
    Calls Try.prog 6 #[] w fun e w' => e = .returned (.bool true) ∧ Below w.heap.size w w' := by
  go_enter Try.func6, Try.ntmps6
  go_wp2_with fail
  refine (Put_0 _).mono ?_
  rintro e w1 ⟨rfl, hq⟩
  have hb := hq
  clear hq
  go_wp2_with fail
  refine (Put_127 _).mono ?_
  rintro e w2 ⟨rfl, hq⟩
  replace hb := k_step hb hq
  clear hq
  go_wp2_with fail
  refine (Put_128 _).mono ?_
  rintro e w3 ⟨rfl, hq⟩
  replace hb := k_step hb hq
  clear hq
  go_wp2_with fail
  refine (Put_max _).mono ?_
  rintro e w4 ⟨rfl, hq⟩
  replace hb := k_step hb hq
  clear hq
  go_wp2_with fail
  refine (Put_x _).mono ?_
  rintro e w5 ⟨rfl, hq⟩
  replace hb := k_step hb hq
  clear hq
  go_wp2
  have hb6 : Below w.heap.size w (w5.alloc (.cells strs1 9)) := hb.alloc hb.size _
  have hg5 : w.heap.size ≤ w5.heap.size := hb.size
  clear hb
  go_loopw [49] (fun vi wr => ∃ k : Nat, vi = .int .i64 k ∧ k ≤ 6 ∧ wr.heap[w5.heap.size]? = some (.cells strs1 9 (0, 0)) ∧ Below w.heap.size w wr) (fun vi _ => 6 - (intOf vi).toNat)
  case atStart => exact ⟨0, rfl, by omega, heap_alloc_new w5 _, hb6⟩
  case round =>
    obtain ⟨k, rfl, hk, hblk, hb⟩ := hrel
    clear hb6
    have hlt5 := lt_of_block hblk
    by_cases hk6 : k < 6
    · have hks : k = 0 ∨ k = 1 ∨ k = 2 ∨ k = 3 ∨ k = 4 ∨ k = 5 := by omega
      rcases hks with rfl | rfl | rfl | rfl | rfl | rfl
      · have hc := strs1_0 hblk
        go_wp2_with fail
        refine (New_any ⟨#[128, 0]⟩ _).mono ?_
        rintro e wa ⟨rfl, hr, hq⟩
        have hb2 := k_step hb hq
        have hblk2 := (hq.block _ hlt5).trans hblk
        clear hq hb hblk
        go_wp2_with fail
        refine (Number_no _ [128, 0] _ hr (by decide) (by decide)).mono ?_
        rintro e wb ⟨rfl, rfl⟩
        go_wp2_with fail
        refine (Left_any _ [128, 0] _ hr).mono ?_
        rintro e wb ⟨rfl, rfl⟩
        go_wp2
        go_roundw
        case rel => exact ⟨1, rfl, by omega, hblk2, hb2⟩
        case measure => simp [intOf]
      · have hc := strs1_1 hblk
        go_wp2_with fail
        refine (New_any ⟨#[128]⟩ _).mono ?_
        rintro e wa ⟨rfl, hr, hq⟩
        have hb2 := k_step hb hq
        have hblk2 := (hq.block _ hlt5).trans hblk
        clear hq hb hblk
        go_wp2_with fail
        refine (Number_no _ [128] _ hr (by decide) (by decide)).mono ?_
        rintro e wb ⟨rfl, rfl⟩
        go_wp2_with fail
        refine (Left_any _ [128] _ hr).mono ?_
        rintro e wb ⟨rfl, rfl⟩
        go_wp2
        go_roundw
        case rel => exact ⟨2, rfl, by omega, hblk2, hb2⟩
        case measure => simp [intOf]
      · have hc := strs1_2 hblk
        go_wp2_with fail
        refine (New_any ⟨#[]⟩ _).mono ?_
        rintro e wa ⟨rfl, hr, hq⟩
        have hb2 := k_step hb hq
        have hblk2 := (hq.block _ hlt5).trans hblk
        clear hq hb hblk
        go_wp2_with fail
        refine (Number_no _ [] _ hr (by decide) (by decide)).mono ?_
        rintro e wb ⟨rfl, rfl⟩
        go_wp2_with fail
        refine (Left_any _ [] _ hr).mono ?_
        rintro e wb ⟨rfl, rfl⟩
        go_wp2
        go_roundw
        case rel => exact ⟨3, rfl, by omega, hblk2, hb2⟩
        case measure => simp [intOf]
      · have hc := strs1_3 hblk
        go_wp2_with fail
        refine (New_any ⟨#[255, 255, 255, 255, 255, 255, 255, 255, 255, 2]⟩ _).mono ?_
        rintro e wa ⟨rfl, hr, hq⟩
        have hb2 := k_step hb hq
        have hblk2 := (hq.block _ hlt5).trans hblk
        clear hq hb hblk
        go_wp2_with fail
        refine (Number_no _ [255, 255, 255, 255, 255, 255, 255, 255, 255, 2] _ hr (by decide) (by decide)).mono ?_
        rintro e wb ⟨rfl, rfl⟩
        go_wp2_with fail
        refine (Left_any _ [255, 255, 255, 255, 255, 255, 255, 255, 255, 2] _ hr).mono ?_
        rintro e wb ⟨rfl, rfl⟩
        go_wp2
        go_roundw
        case rel => exact ⟨4, rfl, by omega, hblk2, hb2⟩
        case measure => simp [intOf]
      · have hc := strs1_4 hblk
        go_wp2_with fail
        refine (New_any ⟨#[255, 255, 255, 255, 255, 255, 255, 255, 255, 255, 1]⟩ _).mono ?_
        rintro e wa ⟨rfl, hr, hq⟩
        have hb2 := k_step hb hq
        have hblk2 := (hq.block _ hlt5).trans hblk
        clear hq hb hblk
        go_wp2_with fail
        refine (Number_no _ [255, 255, 255, 255, 255, 255, 255, 255, 255, 255, 1] _ hr (by decide) (by decide)).mono ?_
        rintro e wb ⟨rfl, rfl⟩
        go_wp2_with fail
        refine (Left_any _ [255, 255, 255, 255, 255, 255, 255, 255, 255, 255, 1] _ hr).mono ?_
        rintro e wb ⟨rfl, rfl⟩
        go_wp2
        go_roundw
        case rel => exact ⟨5, rfl, by omega, hblk2, hb2⟩
        case measure => simp [intOf]
      · have hc := strs1_5 hblk
        go_wp2_with fail
        refine (New_any ⟨#[129, 128, 0]⟩ _).mono ?_
        rintro e wa ⟨rfl, hr, hq⟩
        have hb2 := k_step hb hq
        have hblk2 := (hq.block _ hlt5).trans hblk
        clear hq hb hblk
        go_wp2_with fail
        refine (Number_no _ [129, 128, 0] _ hr (by decide) (by decide)).mono ?_
        rintro e wb ⟨rfl, rfl⟩
        go_wp2_with fail
        refine (Left_any _ [129, 128, 0] _ hr).mono ?_
        rintro e wb ⟨rfl, rfl⟩
        go_wp2
        go_roundw
        case rel => exact ⟨6, rfl, by omega, hblk2, hb2⟩
        case measure => simp [intOf]
    · have hk6' : k = 6 := by omega
      subst hk6'
      clear hblk hlt5
      obtain ⟨wy, hwy⟩ : ∃ wy, wy = wr := ⟨_, rfl⟩
      subst hwy
      go_wp2
      have hb7 : Below w.heap.size w (wy.alloc (.cells strs2 9)) := hb.alloc hb.size _
      have hgy : w.heap.size ≤ wy.heap.size := hb.size
      clear hb
      go_loopw [73] (fun vi wr => ∃ k : Nat, vi = .int .i64 k ∧ k ≤ 4 ∧ wr.heap[wy.heap.size]? = some (.cells strs2 9 (0, 0)) ∧ Below w.heap.size w wr) (fun vi _ => 4 - (intOf vi).toNat)
      case atStart => exact ⟨0, rfl, by omega, heap_alloc_new wy _, hb7⟩
      case round =>
        obtain ⟨k, rfl, hk, hblk, hb⟩ := hrel
        clear hb7
        have hlty := lt_of_block hblk
        by_cases hk4 : k < 4
        · have hks : k = 0 ∨ k = 1 ∨ k = 2 ∨ k = 3 := by omega
          rcases hks with rfl | rfl | rfl | rfl
          · have hc := strs2_0 hblk
            go_wp2_with fail
            refine (New_any ⟨#[2, 97, 98]⟩ _).mono ?_
            rintro e wa ⟨rfl, hr, hq⟩
            have hb2 := k_step hb hq
            have hblk2 := (hq.block _ hlty).trans hblk
            have hlty2 := lt_of_block hblk2
            have hge := hb.size
            have hlr := hr.lt
            clear hq hb hblk
            go_wp2_with fail
            have hr2 := hr.below ((Below.refl wa.heap.size wa).alloc (Nat.le_refl _) (.cells #[.int .i64 2, .int .i64 1, .int .i64 5, .int .i64 (-1)] 3)) hlr
            have hb3 := hb2.alloc hb2.size (.cells #[.int .i64 2, .int .i64 1, .int .i64 5, .int .i64 (-1)] 3)
            have hblk3 := (Below.heap_alloc wa (.cells #[.int .i64 2, .int .i64 1, .int .i64 5, .int .i64 (-1)] 3) _ hlty2).trans hblk2
            have hlr2 := hr2.lt
            clear hr hb2 hblk2
            refine (Text_yes _ [2, 97, 98] 2 1 2 _ hr2 (by decide) (by decide) (by decide) (by decide) (by decide) (by decide)).mono ?_
            rintro e wb ⟨rfl, hr3, hg3⟩
            have hb4 := k_grown hb3 hg3 hge
            have hblk4 := (hg3.block _ (by simp; omega) (by simp; omega)).trans hblk3
            clear hr2 hb3 hg3 hblk3
            go_wp2
            go_roundw
            case rel => first | exact ⟨1, rfl, by omega, hblk4, hb4⟩ | ((repeat apply Exists.intro); exact ⟨⟨1, rfl, by omega, hblk4, hb4⟩, rfl⟩)
            case measure => simp [intOf]
          · have hc := strs2_1 hblk
            go_wp2_with fail
            refine (New_any ⟨#[2, 97, 98]⟩ _).mono ?_
            rintro e wa ⟨rfl, hr, hq⟩
            have hb2 := k_step hb hq
            have hblk2 := (hq.block _ hlty).trans hblk
            have hlty2 := lt_of_block hblk2
            have hge := hb.size
            have hlr := hr.lt
            clear hq hb hblk
            go_wp2_with fail
            have hr2 := hr.below ((Below.refl wa.heap.size wa).alloc (Nat.le_refl _) (.cells #[.int .i64 2, .int .i64 1, .int .i64 5, .int .i64 (-1)] 3)) hlr
            have hb3 := hb2.alloc hb2.size (.cells #[.int .i64 2, .int .i64 1, .int .i64 5, .int .i64 (-1)] 3)
            have hblk3 := (Below.heap_alloc wa (.cells #[.int .i64 2, .int .i64 1, .int .i64 5, .int .i64 (-1)] 3) _ hlty2).trans hblk2
            have hlr2 := hr2.lt
            clear hr hb2 hblk2
            refine (Text_no _ [2, 97, 98] 2 1 1 _ hr2 (by decide) (by decide) (by decide) (by decide) (by decide)).mono ?_
            rintro e wb ⟨rfl, rfl⟩
            go_wp2_with fail
            refine (Left_any _ [2, 97, 98] _ hr2).mono ?_
            rintro e wb ⟨rfl, rfl⟩
            go_wp2
            go_roundw
            case rel => first | exact ⟨2, rfl, by omega, hblk3, hb3⟩ | ((repeat apply Exists.intro); exact ⟨⟨2, rfl, by omega, hblk3, hb3⟩, rfl⟩)
            case measure => simp [intOf]
          · have hc := strs2_2 hblk
            go_wp2_with fail
            refine (New_any ⟨#[3, 97]⟩ _).mono ?_
            rintro e wa ⟨rfl, hr, hq⟩
            have hb2 := k_step hb hq
            have hblk2 := (hq.block _ hlty).trans hblk
            have hlty2 := lt_of_block hblk2
            have hge := hb.size
            have hlr := hr.lt
            clear hq hb hblk
            go_wp2_with fail
            have hr2 := hr.below ((Below.refl wa.heap.size wa).alloc (Nat.le_refl _) (.cells #[.int .i64 2, .int .i64 1, .int .i64 5, .int .i64 (-1)] 3)) hlr
            have hb3 := hb2.alloc hb2.size (.cells #[.int .i64 2, .int .i64 1, .int .i64 5, .int .i64 (-1)] 3)
            have hblk3 := (Below.heap_alloc wa (.cells #[.int .i64 2, .int .i64 1, .int .i64 5, .int .i64 (-1)] 3) _ hlty2).trans hblk2
            have hlr2 := hr2.lt
            clear hr hb2 hblk2
            refine (Text_no _ [3, 97] 3 1 5 _ hr2 (by decide) (by decide) (by decide) (by decide) (by decide)).mono ?_
            rintro e wb ⟨rfl, rfl⟩
            go_wp2_with fail
            refine (Left_any _ [3, 97] _ hr2).mono ?_
            rintro e wb ⟨rfl, rfl⟩
            go_wp2
            go_roundw
            case rel => first | exact ⟨3, rfl, by omega, hblk3, hb3⟩ | ((repeat apply Exists.intro); exact ⟨⟨3, rfl, by omega, hblk3, hb3⟩, rfl⟩)
            case measure => simp [intOf]
          · have hc := strs2_3 hblk
            go_wp2_with fail
            refine (New_any ⟨#[0]⟩ _).mono ?_
            rintro e wa ⟨rfl, hr, hq⟩
            have hb2 := k_step hb hq
            have hblk2 := (hq.block _ hlty).trans hblk
            have hlty2 := lt_of_block hblk2
            have hge := hb.size
            have hlr := hr.lt
            clear hq hb hblk
            go_wp2_with fail
            have hr2 := hr.below ((Below.refl wa.heap.size wa).alloc (Nat.le_refl _) (.cells #[.int .i64 2, .int .i64 1, .int .i64 5, .int .i64 (-1)] 3)) hlr
            have hb3 := hb2.alloc hb2.size (.cells #[.int .i64 2, .int .i64 1, .int .i64 5, .int .i64 (-1)] 3)
            have hblk3 := (Below.heap_alloc wa (.cells #[.int .i64 2, .int .i64 1, .int .i64 5, .int .i64 (-1)] 3) _ hlty2).trans hblk2
            have hlr2 := hr2.lt
            clear hr hb2 hblk2
            refine (Text_no _ [0] 0 1 (-1) _ hr2 (by decide) (by decide) (by decide) (by decide) (by decide)).mono ?_
            rintro e wb ⟨rfl, rfl⟩
            go_wp2_with fail
            refine (Left_any _ [0] _ hr2).mono ?_
            rintro e wb ⟨rfl, rfl⟩
            go_wp2
            go_roundw
            case rel => first | exact ⟨4, rfl, by omega, hblk3, hb3⟩ | ((repeat apply Exists.intro); exact ⟨⟨4, rfl, by omega, hblk3, hb3⟩, rfl⟩)
            case measure => simp [intOf]
        · have hk4' : k = 4 := by omega
          subst hk4'
          clear hblk hlty
          obtain ⟨wz, hwz⟩ : ∃ wz, wz = wr := ⟨_, rfl⟩
          subst hwz
          have hgz : w.heap.size ≤ wz.heap.size := hb.size
          go_wp2_with fail
          refine (New_any ⟨#[]⟩ _).mono ?_
          rintro e wa ⟨rfl, hr, hq⟩
          replace hb := k_step hb hq
          clear hq
          go_wp2_with fail
          refine (Take_yes _ [] 0 _ hr (by decide) (by decide)).mono ?_
          rintro e wb ⟨rfl, hr2, hg2⟩
          replace hb := k_grown hb hg2 hgz
          clear hr hg2
          go_wp2_with fail
          refine (Take_no _ [] (-1) _ hr2 (by decide)).mono ?_
          rintro e wc ⟨rfl, rfl⟩
          go_wp2_with fail
          refine (Byte_none _ _ hr2).mono ?_
          rintro e wc ⟨rfl, rfl⟩
          clear hr2
          go_wp2_with fail
          refine (Unhex_none [48] _ (by decide) (by decide)).mono ?_
          rintro e wd ⟨rfl, hq⟩
          replace hb := k_step hb hq
          clear hq
          go_wp2_with fail
          refine (Unhex_none [48, 70] _ (by decide) (by decide)).mono ?_
          rintro e wf ⟨rfl, hq⟩
          replace hb := k_step hb hq
          clear hq
          go_wp2_with fail
          refine (Unhex_some [] [] _ (by decide) (by decide)).mono ?_
          rintro e wg ⟨rfl, hq⟩
          replace hb := k_step hb hq
          clear hq
          go_wp2_with fail
          refine (Number_nil _).mono ?_
          rintro e wh ⟨rfl, rfl⟩
          go_wp2_with fail
          refine (Take_nil 0 _).mono ?_
          rintro e wh ⟨rfl, rfl⟩
          go_wp2_with fail
          refine (Hex_any [0, 254] _ (by decide)).mono ?_
          rintro e wi ⟨rfl, hq⟩
          rw [show hexOf [0, 254] = [48, 48, 102, 101] from by decide]
          replace hb := k_step hb hq
          clear hq
          go_wp2_with fail
          refine (Left_nil _).mono ?_
          rintro e wj ⟨rfl, rfl⟩
          go_wp2_with fail
          refine (works_any _).mono ?_
          rintro e wk ⟨rfl, hq⟩
          replace hb := k_step hb hq
          clear hq
          go_wp2
          go_ret
          exact ⟨rfl, hb⟩

end Go.Proofs.Ytbkalfpgeclibaa
