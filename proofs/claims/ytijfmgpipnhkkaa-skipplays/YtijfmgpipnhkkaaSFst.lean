/-
  The contracts of New and first.
-/
import Derived.Test.YtijfmgpipnhkkaaSAh
namespace Go.Proofs.Ytijfmgpipnhkkaa
open Go.RowKit Go.BigFrame Go.Sort
attribute [local go_sem] size_bstr toList_bstr ls_def

set_option maxHeartbeats 2000000 in
set_option maxRecDepth 100000 in
/-- skip.New: an empty list. -/
theorem New_any (w : World) : Calls Try.prog 4 #[] w fun e w' => e = .returned (.pointer (some ⟨w.heap.size + 1, 0, none⟩)) ∧ Ls w' (w.heap.size + 1) w.heap.size [] (.slice none 0 0) [] ∧ Below w.heap.size w w' := by
  have hB : Below w.heap.size w ((w.alloc (.cells (tw17 zC (fun _ => none)) 54)).alloc (.cells (ls14 w.heap.size (fun _ => 0) (.slice none 0 0)) 58)) := ((Below.refl _ _).alloc (Nat.le_refl _) _).alloc (by simp) _
  go_enter Try.func4, Try.ntmps4
  go_wp2
  go_ret
  refine ⟨rfl, ⟨?_, ⟨fun A t B e => ?_, by simp⟩, List.Pairwise.nil, by simp, by simp, Or.inl ⟨rfl, rfl⟩⟩, hB⟩
  · have := heap_alloc_new (w.alloc (.cells (tw17 zC (fun _ => none)) 54)) (.cells (ls14 w.heap.size (fun _ => 0) (.slice none 0 0)) 58)
    rw [show (w.alloc (.cells (tw17 zC (fun _ => none)) 54)).heap.size = w.heap.size + 1 by simp] at this
    exact this
  · have e2 : A = [] ∧ t = hdT w.heap.size ∧ B = [] := by
      cases A with
      | nil => simp at e; exact ⟨rfl, e.1.symm, e.2⟩
      | cons a A => simp at e
    obtain ⟨rfl, rfl, rfl⟩ := e2
    have h1 : TwAt (w.alloc (.cells (tw17 zC (fun _ => none)) 54)) w.heap.size zC (fun _ => none) := heap_alloc_new _ _
    have h2 : TwAt ((w.alloc (.cells (tw17 zC (fun _ => none)) 54)).alloc (.cells (ls14 w.heap.size (fun _ => 0) (.slice none 0 0)) 58)) w.heap.size zC (fun _ => none) := (Below.heap_alloc _ _ _ (by simp)).trans h1
    exact h2.congr fun n _ => by unfold lnk; split <;> rfl

/-- A place, as a cell ahead of all cells of that place. -/
abbrev plC (row col : List UInt8) : Cl := ⟨row, col, 1099511627776, false, []⟩

set_option maxHeartbeats 2000000 in
set_option maxRecDepth 100000 in
/-- first: the first tower that is not ahead of the place. -/
theorem first_any (l hd : Nat) (A B : List Tw) (row col : List UInt8) (w : World) (hl : w.cell? ⟨l, 0, none⟩ = some (.pointer (some ⟨hd, 0, none⟩))) (hC : Chn w (hdT hd :: (A ++ B))) (hA : ∀ t ∈ A, ccl t.c (plC row col) < 0) (hB : ∀ t ∈ B, 0 ≤ ccl t.c (plC row col)) :
    Calls Try.prog 24 #[.pointer (some ⟨l, 0, none⟩), .string (bstr row), .string (bstr col)] w fun e w' => e = .returned (pt (nxt 0 B)) ∧ Below w.heap.size w w' := by
  have hB0 : Below w.heap.size w (w.alloc (.cells #[.string (bstr row), .string (bstr col), .int .u64 1099511627776, .bool false, .string ⟨#[]⟩] 34)) := (Below.refl _ _).alloc (Nat.le_refl _) _
  have hl0 := (hB0.cell (p := ⟨l, 0, none⟩) (block_lt_of_cell hl)).trans hl
  have hC0 : Chn (w.alloc (.cells #[.string (bstr row), .string (bstr col), .int .u64 1099511627776, .bool false, .string ⟨#[]⟩] 34)) (hdT hd :: (A ++ B)) := hC.kept fun t ht => hB0.block _ (hC.lt ht)
  have hah := ahead_any l hd A B (plC row col) _ hl0 hC0 hA hB
  go_enter Try.func24, Try.ntmps24
  go_wp2_with fail
  refine hah.mono ?_
  rintro e w1 ⟨f, rfl, hf, hb1⟩
  obtain ⟨t, hL, hft⟩ := hf 0 (by omega)
  have hC1 : Chn w1 ((hdT hd :: A) ++ B) := hC0.kept fun t ht => hb1.block _ (hC0.lt ht)
  obtain ⟨g, hT, hg⟩ := hC1.last hL
  have hn := hT.next (n := 0) (by omega)
  rw [hg] at hn
  simp only [Nat.add_zero] at hn
  have hbel := below2 hB0 hb1
  simp only [a12]
  clear hah hl0 hC0 hC1 hf hb1
  generalize f 0 = b0 at *
  have hix : ∀ (x0 x1 x2 x3 x4 x5 x6 x7 x8 x9 x10 x11 : Value) (w : World), (Instr.index 52 (.agg #[x0, x1, x2, x3, x4, x5, x6, x7, x8, x9, x10, x11]) (.int .i64 0)).run Try.prog w = .ok x0 w := fun _ _ _ _ _ _ _ _ _ _ _ _ _ => by simp [Instr.index, go_sem]
  rcases hp : nxt 0 B with _ | p
  all_goals (rw [hp] at hn; have HP : Hid _ := hp; clear hp; simp only [pt_none, pt_some] at hn; go_wp2; go_ret; exact ⟨by rw [HP.out]; rfl, hbel⟩)

end Go.Proofs.Ytijfmgpipnhkkaa
