/-
  The contract of Heights; what a Put makes of cells and heights; going through a list that is none.
-/
import Derived.Test.YtijfmgpipnhkkaaSNil
namespace Go.Proofs.Ytijfmgpipnhkkaa
open Go.RowKit Go.BigFrame Go.Sort
attribute [local go_sem] Oper.semAt_some
attribute [local go_sem] size_bstr toList_bstr ls_def

/-- How many cells have a height above each index. -/
def hts (T : List Tw) : List Int := (List.range 12).map fun n => (cnt n T : Int)
theorem hts_length (T : List Tw) : (hts T).length = 12 := by simp [hts]

set_option maxHeartbeats 2000000 in
set_option maxRecDepth 100000 in
theorem Heights_any (l hd : Nat) (T : List Tw) (v : Value) (xs : List Value) (w : World) (h : Ls w l hd T v xs) :
    Calls Try.prog 13 #[.pointer (some ⟨l, 0, none⟩)] w fun e w' => ∃ r, e = .returned r ∧ w'.ownsRow w.heap.size 3 1 r 12 ((hts T).map (Value.int .i64)) ∧ Below w.heap.size w w' := by
  have hno := none_ok l hd w h.blk.head
  have hcl := Try.slices_Clone_int l 1 12 12 (hts T) w (by simp [hts]) (by decide) (fun j hj => by
    have hj' : j < 12 := by simpa [hts] using hj
    rw [h.blk.above hj']
    simp [hts, List.getElem?_range hj'])
  go_enter Try.func13, Try.ntmps13
  go_wp2_with fail
  refine hno.mono ?_
  rintro e w' ⟨rfl, rfl⟩
  go_wp2_with fail
  refine hcl.mono ?_
  rintro e w1 ⟨r, rfl, hr, _, hb⟩
  rw [List.take_of_length_le (by simp [hts])] at hr
  obtain ⟨q, cap, rfl⟩ : ∃ q cap, r = .slice q 12 cap := by
    rcases hr.2 with ⟨_, e0⟩ | ⟨g, cap, cur, e, _⟩
    · cases e0
    · exact ⟨_, _, e⟩
  go_wp2
  go_ret
  exact ⟨_, rfl, hr, hb⟩

/-- What a Put makes of cells and their heights. -/
def putH (c : Cl) (h : Nat) : List (Cl × Nat) → List (Cl × Nat)
  | [] => [(c, h)]
  | x :: L => if ccl x.1 c < 0 then x :: putH c h L else if ccl x.1 c = 0 then (c, x.2) :: L else (c, h) :: x :: L
def chT (T : List Tw) : List (Cl × Nat) := T.map fun t => (t.c, t.h)
theorem putH_skip {c : Cl} {h : Nat} {A L : List (Cl × Nat)} (hA : ∀ x ∈ A, ccl x.1 c < 0) : putH c h (A ++ L) = A ++ putH c h L := by
  induction A with
  | nil => rfl
  | cons x A ih =>
    rw [List.cons_append, putH, if_pos (hA x (by simp)), ih (fun y hy => hA y (by simp [hy])), List.cons_append]
theorem PutT.both {c : Cl} {h n0 : Nat} {T T' : List Tw} (k : PutT c h n0 T T') : chT T' = putH c h (chT T) := by
  rcases k with ⟨A, t, B, rfl, rfl, h0, hA, hB⟩ | ⟨A, B, b, rfl, rfl, _, hA, hB⟩
  · have hA' : ∀ x ∈ chT A, ccl x.1 c < 0 := fun x hx => by
      obtain ⟨y, hy, rfl⟩ := List.mem_map.1 hx
      exact hA y hy
    simp only [chT, List.map_append, List.map_cons] at hA' ⊢
    rw [putH_skip hA', putH, if_neg (by rw [h0]; omega), if_pos h0]
  · have hA' : ∀ x ∈ chT A, ccl x.1 c < 0 := fun x hx => by
      obtain ⟨y, hy, rfl⟩ := List.mem_map.1 hx
      exact hA y hy
    simp only [chT, List.map_append, List.map_cons] at hA' ⊢
    rw [putH_skip hA']
    cases B with
    | nil => rfl
    | cons x B =>
      have := hB x (by simp)
      rw [List.map_cons, putH, if_neg (show ¬ ccl x.c c < 0 by omega), if_neg (show ¬ ccl x.c c = 0 by omega)]
theorem hts_ch (T : List Tw) : hts T = (List.range 12).map fun n => (((chT T).countP fun x => decide (n < x.2) : Nat) : Int) := by
  unfold hts chT cnt
  refine List.map_congr_left fun n _ => ?_
  rw [List.countP_map]
  rfl
set_option maxHeartbeats 4000000 in
set_option maxRecDepth 100000 in
/-- An iterator of a list that is none tells nothing. -/
theorem from1_none (p : Option Addr) (b lr : Nat) (row col : List UInt8) (w : World) (hbx : Bx w b p row col) (hp : NoL w p) :
    Calls Try.prog 37 #[.func (.yield lr) #[] #[], .pointer (some ⟨b, 0, none⟩), .pointer (some ⟨b + 1, 0, none⟩), .pointer (some ⟨b + 1 + 1, 0, none⟩)] w fun e W => (∃ u, e = .returned u) ∧ Below w.heap.size w W := by
  have hb0 : Below w.heap.size w (w.alloc (.cells #[.func (.yield lr) #[] #[]] 69)) := (Below.refl _ _).alloc (Nat.le_refl _) _
  have hbx0 := hbx.step hb0
  have hno := none_yes p _ (hp.below hb0)
  generalize hw0 : w.alloc (.cells #[.func (.yield lr) #[] #[]] 69) = w0 at *
  obtain ⟨x0, x1, x2, _, _⟩ := hbx0.cells
  refine calls_marks Try.func37 rfl ?_
  simp only [Try.ntmps37, List.size_toArray, List.length_cons, List.length_nil, Nat.reduceAdd, Nat.reduceSub, Array.replicate_succ, Array.replicate_zero, List.push_toArray, List.append_toArray, List.nil_append, List.cons_append]
  gi_wp2_with (refine ⟨trivial, ?_⟩; gi_at_call 18; refine (callsIn_wide.2 hno).mono ?_; rintro e w0 ⟨rfl, rfl⟩)
  exact ⟨_, results_none rfl _ _ _, ⟨_, rfl⟩, hb0⟩
theorem chT_fst (T : List Tw) : (chT T).map (fun x => x.1) = T.map (fun t => t.c) := by simp [chT]

end Go.Proofs.Ytijfmgpipnhkkaa
