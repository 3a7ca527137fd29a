/-
  Rows of ranges in memory; keys.inOrder's closure, and slices.SortFunc over such a row.
-/
import Derived.Test.YtalkhkndelpdfaaKGapMath
import Derived.Test.YtalkhkndelpdfaaKCmp
import Derived.Test.YtalkhkndelpdfaaSortX
import Derived.Laws.AppendOwn
namespace Go.Proofs.Ytalkhkndelpdfaa
open Go.RowKit Go.Sort Go.Shelf
attribute [local go_sem] size_bstr toList_bstr ls_def

theorem ct_lt' {a b : List UInt8} (h : ls a b = true) : ct a b = -1 := by unfold ct; rw [if_pos h]
theorem ct_gt' {a b : List UInt8} (h : ls b a = true) : ct a b = 1 := by unfold ct; rw [if_neg (by rw [ls_asymm h]; simp), if_pos h]

/-- A range's two cells. -/
def encR (r : Rg) : List Value := [.string (bstr r.1), .string (bstr r.2)]
def rcells (rs : List Rg) : List Value := rs.flatMap encR
theorem rcells_length (rs : List Rg) : (rcells rs).length = rs.length * 2 := by
  induction rs with
  | nil => rfl
  | cons r rs ih => rw [rcells, List.flatMap_cons, List.length_append]; rw [rcells] at ih; rw [ih]; simp [encR]; omega
theorem rcells_append (a b : List Rg) : rcells (a ++ b) = rcells a ++ rcells b := by simp [rcells]
theorem rcells_get (rs : List Rg) (i : Nat) (hi : i < rs.length) : (rcells rs)[i * 2]? = some (.string (bstr (rs[i]).1)) ∧ (rcells rs)[i * 2 + 1]? = some (.string (bstr (rs[i]).2)) := by
  induction rs generalizing i with
  | nil => simp at hi
  | cons r rs ih =>
    cases i with
    | zero => exact ⟨rfl, rfl⟩
    | succ i =>
      have e1 : (i + 1) * 2 = i * 2 + 1 + 1 := by omega
      have e2 : (i + 1) * 2 + 1 = i * 2 + 1 + 1 + 1 := by omega
      rw [e1]
      exact ih i (by simpa using hi)

/-- A row of ranges lies in a block. -/
def RowAt (W : World) (b off : Nat) (rs : List Rg) : Prop := ∀ i (hi : i < rs.length), W.cell? ⟨b, off + i * 2, none⟩ = some (.string (bstr (rs[i]).1)) ∧ W.cell? ⟨b, off + i * 2 + 1, none⟩ = some (.string (bstr (rs[i]).2))
theorem RowAt.step {W W' : World} {b off : Nat} {rs : List Rg} {B : Nat} (h : RowAt W b off rs) (hb : Below B W W') (hB : b < B) : RowAt W' b off rs := by
  intro i hi
  rw [hb.cell (p := ⟨b, _, none⟩) hB, hb.cell (p := ⟨b, _, none⟩) hB]
  exact h i hi
theorem RowAt.drop {W : World} {b off : Nat} {rs : List Rg} (h : RowAt W b off rs) (k : Nat) : RowAt W b (off + k * 2) (rs.drop k) := by
  intro i hi
  have hi' : k + i < rs.length := by rw [List.length_drop] at hi; omega
  have := h (k + i) hi'
  rw [List.getElem_drop]
  have e1 : off + k * 2 + i * 2 = off + (k + i) * 2 := by omega
  have e2 : off + k * 2 + i * 2 + 1 = off + (k + i) * 2 + 1 := by omega
  rw [e2, e1]
  exact this

/-- A row that the call owns. -/
theorem own_row {w : World} {B e : Nat} {v : Value} {rs : List Rg} (h : w.ownsRow B e 2 v rs.length (rcells rs)) (hne : rs ≠ []) :
    ∃ g cap, v = .slice (some ⟨g, 0, none⟩) rs.length cap ∧ B ≤ g ∧ g < w.heap.size ∧ rs.length ≤ cap ∧ cap ≤ maxLen ∧ RowAt w g 0 rs ∧ ∀ o, w.frozen? ⟨g, o, none⟩ = false := by
  rcases h.2 with ⟨_, h0⟩ | ⟨g, cap, cur, hv, hbg, hg, hnc, hcm, hcs, htake⟩
  · exact absurd (List.eq_nil_of_length_eq_zero h0) hne
  · have hlt : g < w.heap.size := by
      by_cases hl : g < w.heap.size
      · exact hl
      · rw [Array.getElem?_eq_none (Nat.le_of_not_lt hl)] at hg
        exact absurd hg (by simp)
    have hcells : ∀ j u, (rcells rs)[j]? = some u → w.cell? ((⟨g, 0, none⟩ : Addr).add j) = some u := h.cells (g := g) (by rw [hv]; rfl)
    refine ⟨g, cap, hv, hbg, hlt, hnc, hcm, fun i hi => ?_, fun o => ?_⟩
    · obtain ⟨h1, h2⟩ := rcells_get rs i hi
      have a := hcells _ _ h1
      have b := hcells _ _ h2
      simp only [Addr.add_lit, Nat.zero_add] at a b
      rw [Nat.zero_add]
      exact ⟨a, b⟩
    · simp [World.frozen?, hg]

theorem holdsR {w : World} {g : Nat} {rs : List Rg} (h : RowAt w g 0 rs) (hf : ∀ o, w.frozen? ⟨g, o, none⟩ = false) : HoldsK encR 2 w g 0 rs.toArray := by
  intro j hj
  refine ⟨?_, hf _⟩
  have hj' : j < rs.length * 2 := by simpa using hj
  have hi : j / 2 < rs.length := by omega
  rw [id, get_flatK encR 2 rs.toArray j (by simpa using hj')]
  have e : rs.toArray[j / 2]! = rs[j / 2] := by simp [hi]
  rw [e]
  obtain ⟨h1, h2⟩ := h (j / 2) hi
  rcases Nat.mod_two_eq_zero_or_one j with hm | hm
  · rw [hm, show 0 + j = 0 + j / 2 * 2 by omega]
    exact h1
  · rw [hm, show 0 + j = 0 + j / 2 * 2 + 1 by omega]
    exact h2
theorem rowOf {w : World} {g : Nat} {d : Array Rg} (h : HoldsK encR 2 w g 0 d) : RowAt w g 0 d.toList := by
  intro i hi
  have hi' : i < d.size := by simpa using hi
  have a := (h (i * 2) (by simp; omega)).1
  have b := (h (i * 2 + 1) (by simp; omega)).1
  rw [id, get_flatK encR 2 d _ (by omega)] at a b
  rw [show i * 2 / 2 = i by omega, show i * 2 % 2 = 0 by omega] at a
  rw [show (i * 2 + 1) / 2 = i by omega, show (i * 2 + 1) % 2 = 1 by omega] at b
  have e : d[i]! = d.toList[i] := by simp [hi']
  rw [e] at a b
  exact ⟨a, b⟩

theorem sortWorld_below {w : World} {g n : Nat} {d : Array Rg} {os : Array Obj} {B : Nat} (hB : B ≤ g) (hg : g < w.heap.size) : Below B w (sortWorldK encR 2 w g 0 n d os) := by
  refine ⟨rfl, rfl, rfl, ?_, ?_⟩
  · simp [sortWorldK, putRowK, putRow, mapBlock, grow]
  · intro k hk
    have hne : g ≠ k := by omega
    have hs : k < w.heap.size := by omega
    simp only [sortWorldK, putRowK, putRow, mapBlock, grow, heap_ahead]
    rw [Array.getElem?_append_left (by simpa using hs), Array.getElem?_modify, if_neg hne]

theorem ltOf_ct (x y : Rg) : ltOf (fun a b : Rg => ct a.1 b.1) x y = ls x.1 y.1 := by
  show decide (ct x.1 y.1 < 0) = ls x.1 y.1
  rcases ls_tri x.1 y.1 with h | h | h
  · rw [ct_lt' h, h]; rfl
  · rw [h]; unfold ct; rw [ls_irrefl]; rfl
  · rw [ct_gt' h, ls_asymm h]; rfl
theorem swoR : SWO (ltOf fun a b : Rg => ct a.1 b.1) where
  irrefl x := by rw [ltOf_ct]; exact ls_irrefl _
  trans x y z h1 h2 := by rw [ltOf_ct] at *; exact ls_trans h1 h2
  ntrans x y z h1 h2 := by rw [ltOf_ct] at *; exact not_ls_trans h2 h1

set_option maxHeartbeats 1000000 in
/-- inOrder's closure: it compares two Lows; two blocks are laid. -/
theorem lessR (x y : Rg) (W : World) : Calls Try.prog 22 #[.agg #[.string (bstr x.1), .string (bstr x.2)], .agg #[.string (bstr y.1), .string (bstr y.2)]] W fun e w' => e = .returned (.int .i64 (ct x.1 y.1)) ∧ ∃ q os', w' = grow (W.drewN q) os' := by
  have hcon := fun W' => Compare_any x.1 y.1 W'
  generalize ct x.1 y.1 = r at hcon ⊢
  go_enter Try.func22, Try.ntmps22
  go_wp2_with (go_at_call 18; refine (hcon _).mono ?_; rintro e w' ⟨rfl, rfl⟩)
  go_ret
  exact ⟨rfl, 0, _, by rw [alloc_eq_grow, alloc_eq_grow, grow_grow]; rfl⟩

/-- slices.SortFunc over a row of ranges. -/
theorem Sort_any (B g cap : Nat) (rs : List Rg) (w : World) (h : RowAt w g 0 rs) (hf : ∀ o, w.frozen? ⟨g, o, none⟩ = false) (hg : g < w.heap.size) (hB : B ≤ g) (hsz : rs.length < 4611686018427387904) :
    Calls Try.prog 21 #[.slice (some ⟨g, 0, none⟩) rs.length cap, .func (.func 22) #[] #[]] w fun e w' =>
      e = .returned (.tuple #[]) ∧ ∃ ss : List Rg, ss.Perm rs ∧ (∀ i j (hj : j < ss.length) (hi : i < j), ls (ss[j]).1 (ss[i]'(by omega)).1 = false) ∧ RowAt w' g 0 ss ∧ Below B w w' := by
  have eg : ∀ args w, (callFunc 22 args).run Try.prog w = .ok (.enter 22 args) w := enters_of Try.func22 (by kernel_rfl) rfl
  have hH := holdsR h hf
  have hcon := AnyQ.slices_SortFunc Try.sortLaid 2 Try.isAgg26 Try.sizeOf26 encR (fun _ => rfl) (fun x v hv => by simp [encR] at hv; rcases hv with rfl | rfl <;> rfl) (fun a b => ct a.1 b.1) swoR 22 #[] g 0 cap rs.toArray w eg (fun _ _ _ _ x y => lessR x y _) hH hg (by simpa using hsz)
  rw [List.size_toArray] at hcon
  refine Calls.mono hcon ?_
  rintro e w' ⟨rfl, d', n, os, ⟨hs, _, hp⟩, hso, rfl⟩
  have hs' : d'.size = rs.length := by simpa using hs
  refine ⟨rfl, d'.toList, ?_, ?_, ?_, sortWorld_below hB hg⟩
  · rw [← hs', Array.extract_size] at hp
    have e2 : rs.toArray.extract 0 d'.size = rs.toArray := by rw [hs']; simp
    rw [e2] at hp
    simpa using hp
  · intro i j hj hi
    have hj' : j < d'.size := by simpa using hj
    have := hso i j (Nat.zero_le _) hi (by rw [← hs']; exact hj')
    rw [ltOf_ct] at this
    have e1 : d'[j]! = d'.toList[j] := by simp [hj']
    have e2 : d'[i]! = d'.toList[i]'(by omega) := by simp [Nat.lt_trans hi hj']
    rw [e1, e2] at this
    exact this
  · exact rowOf (holdsK_sortWorldK encR 2 w g 0 n rs.toArray d' os hg hH hs)

set_option maxHeartbeats 2000000 in
theorem Ins_none (p : Option Addr) (cap : Nat) (fv : Value) (w : World) :
    Calls Try.prog 29 #[.slice p 0 cap, .int .i64 0, .int .i64 0, fv] w fun e w' => e = .returned (.tuple #[]) ∧ w' = w := by
  go_enter Try.func29, Try.ntmps29
  go_wp2
  refine wp_loop_rounds 1 ?_
  rw [rounds_succ]
  go_wp2
  go_end0
  exact ⟨rfl, rfl⟩
set_option maxHeartbeats 2000000 in
theorem Pdq_none (p : Option Addr) (cap : Nat) (lim : Int) (fv : Value) (w : World) :
    Calls Try.prog 26 #[.slice p 0 cap, .int .i64 0, .int .i64 0, .int .i64 lim, fv] w fun e w' => e = .returned (.tuple #[]) ∧ w' = w := by
  go_enter Try.func26, Try.ntmps26
  go_wp2
  refine wp_loop_rounds 1 ?_
  rw [rounds_succ]
  go_wp2_with (go_at_call 29; refine (Ins_none p cap fv _).mono ?_; rintro e w' ⟨rfl, rfl⟩)
  (try simp only [Exit.inBlock, Exit.then])
  refine bodyPost_ret (results_none rfl _ _ _) rfl ?_
  exact ⟨rfl, rfl⟩
set_option maxHeartbeats 2000000 in
theorem Sort_none (p : Option Addr) (cap : Nat) (fv : Value) (w : World) :
    Calls Try.prog 21 #[.slice p 0 cap, fv] w fun e w' => e = .returned (.tuple #[]) ∧ w' = w := by
  have hl : ∀ W, Calls Try.prog 27 #[.int .u64 0] W fun e w' => e = .returned (.int .i64 0) ∧ w' = W := fun W => Try.bits_Len 0 W (by omega) (by omega)
  go_enter Try.func21, Try.ntmps21
  go_wp2_with (first | (go_at_call 27; refine (hl _).mono ?_; rintro e w' ⟨rfl, rfl⟩) | (go_at_call 26; refine (Pdq_none p cap _ fv _).mono ?_; rintro e w' ⟨rfl, rfl⟩))
  go_end0
  exact ⟨rfl, rfl⟩

end Go.Proofs.Ytalkhkndelpdfaa
