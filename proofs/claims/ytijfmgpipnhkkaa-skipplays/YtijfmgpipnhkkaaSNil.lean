/-
  Lists that are none: a nil list, and one that no call made.
-/
import Derived.Test.YtijfmgpipnhkkaaSGet
import Derived.Test.YtijfmgpipnhkkaaSFrm1
namespace Go.Proofs.Ytijfmgpipnhkkaa
open Go.RowKit Go.BigFrame Go.Sort
attribute [local go_sem] size_bstr toList_bstr ls_def

/-- The pointer p leads to no list: none, or one whose head is none. -/
def NoL (w : World) (p : Option Addr) : Prop := p = none ∨ ∃ l, p = some ⟨l, 0, none⟩ ∧ w.cell? ⟨l, 0, none⟩ = some (.pointer none)
theorem NoL.below {w w' : World} {p : Option Addr} (h : NoL w p) (hb : Below w.heap.size w w') : NoL w' p := by
  rcases h with h | ⟨l, h1, h2⟩
  · exact Or.inl h
  · exact Or.inr ⟨l, h1, (hb.cell (p := ⟨l, 0, none⟩) (block_lt_of_cell h2)).trans h2⟩

set_option maxHeartbeats 1000000 in
theorem none_yes (p : Option Addr) (w : World) (h : NoL w p) :
    Calls Try.prog 18 #[.pointer p] w fun e w' => e = .returned (.bool true) ∧ w' = w := by
  rcases h with rfl | ⟨l, rfl, h2⟩
  · go_enter Try.func18, Try.ntmps18
    go_wp2
    go_ret
    exact ⟨rfl, rfl⟩
  · go_enter Try.func18, Try.ntmps18
    go_wp2
    go_ret
    exact ⟨rfl, rfl⟩

set_option maxHeartbeats 1000000 in
theorem Len_none (p : Option Addr) (w : World) (h : NoL w p) :
    Calls Try.prog 9 #[.pointer p] w fun e w' => e = .returned (.int .i64 0) ∧ w' = w := by
  have hno := none_yes p w h
  go_enter Try.func9, Try.ntmps9
  go_wp2_with fail
  refine hno.mono ?_
  rintro e w' ⟨rfl, rfl⟩
  go_wp2
  go_ret
  exact ⟨rfl, rfl⟩

set_option maxHeartbeats 1000000 in
theorem Heights_none (p : Option Addr) (w : World) (h : NoL w p) :
    Calls Try.prog 13 #[.pointer p] w fun e w' => e = .returned (.slice none 0 0) ∧ w' = w := by
  have hno := none_yes p w h
  go_enter Try.func13, Try.ntmps13
  go_wp2_with fail
  refine hno.mono ?_
  rintro e w' ⟨rfl, rfl⟩
  go_wp2
  go_ret
  exact ⟨rfl, rfl⟩

set_option maxHeartbeats 2000000 in
set_option maxRecDepth 100000 in
theorem Put_none (p : Option Addr) (c : Cl) (h : Int) (w : World) (hp : NoL w p) :
    Calls Try.prog 6 #[.pointer p, clV c, .int .i64 h] w fun e w' => e = .returned (.int .i64 1) ∧ Below w.heap.size w w' := by
  have hB0 : Below w.heap.size w (w.alloc (.cells #[.string (bstr c.row), .string (bstr c.col), .int .u64 c.ver, .bool c.gone, .string (bstr c.val)] 34)) := (Below.refl _ _).alloc (Nat.le_refl _) _
  have hno := none_yes p _ (hp.below hB0)
  go_enter Try.func6, Try.ntmps6
  go_wp2_with fail
  refine hno.mono ?_
  rintro e w' ⟨rfl, rfl⟩
  go_wp2
  go_ret
  exact ⟨rfl, hB0⟩

set_option maxHeartbeats 2000000 in
set_option maxRecDepth 100000 in
theorem Get_none (p : Option Addr) (row col : List UInt8) (w : World) (hp : NoL w p) :
    Calls Try.prog 7 #[.pointer p, .string (bstr row), .string (bstr col)] w fun e w' => e = .returned (.tuple #[clV zC, .bool false]) ∧ Below w.heap.size w w' := by
  have hb0 : Below w.heap.size w (w.alloc (.cells #[.string ⟨#[]⟩, .string ⟨#[]⟩, .int .u64 0, .bool false, .string ⟨#[]⟩] 34)) := (Below.refl _ _).alloc (Nat.le_refl _) _
  have hz0 : (w.alloc (.cells #[.string ⟨#[]⟩, .string ⟨#[]⟩, .int .u64 0, .bool false, .string ⟨#[]⟩] 34)).heap[w.heap.size]? = some (.cells #[.string ⟨#[]⟩, .string ⟨#[]⟩, .int .u64 0, .bool false, .string ⟨#[]⟩] 34 (0, 0)) := heap_alloc_new _ _
  have hno := none_yes p _ (hp.below hb0)
  generalize hw0 : w.alloc (.cells #[.string ⟨#[]⟩, .string ⟨#[]⟩, .int .u64 0, .bool false, .string ⟨#[]⟩] 34) = w0 at *
  go_enter Try.func7, Try.ntmps7
  go_wp2_with fail
  refine hno.mono ?_
  rintro e w0' ⟨rfl, rfl⟩
  obtain ⟨r0, r1, r2, r3, r4, g0, g1, g2, g3, g4⟩ := zero_cells hz0
  clear hno hw0
  go_wp2
  generalize hW : ((((World.setCell _ ⟨w.heap.size, 0, none⟩ _).setCell ⟨w.heap.size, 1, none⟩ _).setCell ⟨w.heap.size, 2, none⟩ _).setCell ⟨w.heap.size, 3, none⟩ _).setCell ⟨w.heap.size, 4, none⟩ _ = W'
  obtain ⟨x0, x1, x2, x3, x4⟩ := set5_reads r0 r1 r2 r3 r4 hW
  refine bodyPost_ret (v := .tuple #[clV zC, .bool false]) (by simp [results, Try.results7, go_sem, x0, x1, x2, x3, x4]; rfl) rfl ⟨rfl, ?_⟩
  rw [← hW]
  exact below_set5 _ _ _ _ _ hb0 (Nat.le_refl _)

set_option maxHeartbeats 4000000 in
set_option maxRecDepth 100000 in
/-- Get, where no cell of that place is there. -/
theorem Get_no (l hd : Nat) (A B : List Tw) (v : Value) (xs : List Value) (row col : List UInt8) (w : World) (h : Ls w l hd (A ++ B) v xs) (hA : ∀ t ∈ A, ccl t.c (plC row col) < 0) (hB : ∀ t ∈ B, 0 ≤ ccl t.c (plC row col)) (hno2 : ∀ u B', B = u :: B' → ¬ (u.c.row = row ∧ u.c.col = col)) :
    Calls Try.prog 7 #[.pointer (some ⟨l, 0, none⟩), .string (bstr row), .string (bstr col)] w fun e w' => e = .returned (.tuple #[clV zC, .bool false]) ∧ Below w.heap.size w w' := by
  have hb0 : Below w.heap.size w (w.alloc (.cells #[.string ⟨#[]⟩, .string ⟨#[]⟩, .int .u64 0, .bool false, .string ⟨#[]⟩] 34)) := (Below.refl _ _).alloc (Nat.le_refl _) _
  have hz0 : (w.alloc (.cells #[.string ⟨#[]⟩, .string ⟨#[]⟩, .int .u64 0, .bool false, .string ⟨#[]⟩] 34)).heap[w.heap.size]? = some (.cells #[.string ⟨#[]⟩, .string ⟨#[]⟩, .int .u64 0, .bool false, .string ⟨#[]⟩] 34 (0, 0)) := heap_alloc_new _ _
  have hL0 := h.below hb0
  generalize hw0 : w.alloc (.cells #[.string ⟨#[]⟩, .string ⟨#[]⟩, .int .u64 0, .bool false, .string ⟨#[]⟩] 34) = w0 at *
  have hno := none_ok l hd w0 hL0.blk.head
  have hfi := first_any l hd A B row col w0 hL0.blk.head hL0.ch hA hB
  have fin : ∀ {W W' : World}, Below w.heap.size w W → W.heap[w.heap.size]? = some (.cells #[.string ⟨#[]⟩, .string ⟨#[]⟩, .int .u64 0, .bool false, .string ⟨#[]⟩] 34 (0, 0)) → ((((W.setCell ⟨w.heap.size, 0, none⟩ (.string ⟨#[]⟩)).setCell ⟨w.heap.size, 1, none⟩ (.string ⟨#[]⟩)).setCell ⟨w.heap.size, 2, none⟩ (.int .u64 0)).setCell ⟨w.heap.size, 3, none⟩ (.bool false)).setCell ⟨w.heap.size, 4, none⟩ (.string ⟨#[]⟩) = W' → (W'.cell? ⟨w.heap.size, 0, none⟩ = some (.string ⟨#[]⟩) ∧ W'.cell? ⟨w.heap.size, 1, none⟩ = some (.string ⟨#[]⟩) ∧ W'.cell? ⟨w.heap.size, 2, none⟩ = some (.int .u64 0) ∧ W'.cell? ⟨w.heap.size, 3, none⟩ = some (.bool false) ∧ W'.cell? ⟨w.heap.size, 4, none⟩ = some (.string ⟨#[]⟩)) ∧ Below w.heap.size w W' := fun hb hz hW => by
    obtain ⟨r0, r1, r2, r3, r4, _⟩ := zero_cells hz
    refine ⟨set5_reads r0 r1 r2 r3 r4 hW, ?_⟩
    rw [← hW]
    exact below_set5 _ _ _ _ _ hb (Nat.le_refl _)
  rcases B with _ | ⟨u, B⟩
  · rw [nxt_nil, pt_none] at hfi
    go_enter Try.func7, Try.ntmps7
    go_wp2_with fail
    refine hno.mono ?_
    rintro e w0' ⟨rfl, rfl⟩
    go_wp2_with fail
    refine hfi.mono ?_
    rintro e w1 ⟨rfl, hb1⟩
    have hz1 := (hb1.block _ (blk_lt hz0)).trans hz0
    have hbel := below2 hb0 hb1
    obtain ⟨r0, r1, r2, r3, r4, g0, g1, g2, g3, g4⟩ := zero_cells hz1
    clear hno hfi hw0 hz0 hL0
    go_wp2
    generalize hW : ((((World.setCell _ ⟨w.heap.size, 0, none⟩ _).setCell ⟨w.heap.size, 1, none⟩ _).setCell ⟨w.heap.size, 2, none⟩ _).setCell ⟨w.heap.size, 3, none⟩ _).setCell ⟨w.heap.size, 4, none⟩ _ = W'
    obtain ⟨⟨x0, x1, x2, x3, x4⟩, hB4⟩ := fin hbel hz1 hW
    exact bodyPost_ret (v := .tuple #[clV zC, .bool false]) (by simp [results, Try.results7, go_sem, x0, x1, x2, x3, x4]; rfl) rfl ⟨rfl, hB4⟩
  · have hu0 : 0 < u.h := (h.hgt u (by simp)).1
    rw [nxt_cons_yes hu0, pt_some] at hfi
    have hnu := hno2 u B rfl
    go_enter Try.func7, Try.ntmps7
    go_wp2_with fail
    refine hno.mono ?_
    rintro e w0' ⟨rfl, rfl⟩
    go_wp2_with fail
    refine hfi.mono ?_
    rintro e w1 ⟨rfl, hb1⟩
    have hL1 := hL0.below hb1
    obtain ⟨d0, d1, d2, d3, d4⟩ := (hL1.ch.at_ (hdT hd :: A) u B rfl).cells
    have hz1 := (hb1.block _ (blk_lt hz0)).trans hz0
    have hbel := below2 hb0 hb1
    obtain ⟨r0, r1, r2, r3, r4, g0, g1, g2, g3, g4⟩ := zero_cells hz1
    clear hno hfi hw0 hz0 hL0
    by_cases hr : u.c.row = row
    · have hc : (u.c.col == col) = false := by simpa using fun e => hnu ⟨hr, e⟩
      have hrb : (u.c.row == row) = true := by simpa using hr
      clear hr
      go_wp2
      generalize hW : ((((World.setCell _ ⟨w.heap.size, 0, none⟩ _).setCell ⟨w.heap.size, 1, none⟩ _).setCell ⟨w.heap.size, 2, none⟩ _).setCell ⟨w.heap.size, 3, none⟩ _).setCell ⟨w.heap.size, 4, none⟩ _ = W'
      obtain ⟨⟨x0, x1, x2, x3, x4⟩, hB4⟩ := fin hbel hz1 hW
      exact bodyPost_ret (v := .tuple #[clV zC, .bool false]) (by simp [results, Try.results7, go_sem, x0, x1, x2, x3, x4]; rfl) rfl ⟨rfl, hB4⟩
    · have hrb : (u.c.row == row) = false := by simpa using hr
      clear hr
      go_wp2
      generalize hW : ((((World.setCell _ ⟨w.heap.size, 0, none⟩ _).setCell ⟨w.heap.size, 1, none⟩ _).setCell ⟨w.heap.size, 2, none⟩ _).setCell ⟨w.heap.size, 3, none⟩ _).setCell ⟨w.heap.size, 4, none⟩ _ = W'
      obtain ⟨⟨x0, x1, x2, x3, x4⟩, hB4⟩ := fin hbel hz1 hW
      exact bodyPost_ret (v := .tuple #[clV zC, .bool false]) (by simp [results, Try.results7, go_sem, x0, x1, x2, x3, x4]; rfl) rfl ⟨rfl, hB4⟩

end Go.Proofs.Ytijfmgpipnhkkaa
