/-
  slices.SortFunc over the indices of a list of cells: they stand in order behind it.
-/
import Derived.Test.YtnpjbdbhjbccbaaCIdx
import Derived.Test.YtnpjbdbhjbccbaaSortI
import Derived.Test.YtnpjbdbhjbccbaaShelf
namespace Go.Proofs.Ytnpjbdbhjbccbaa
open Go.RowKit Go.BigFrame Go.Sort Go.Shelf
attribute [local go_sem] size_bstr toList_bstr ls_def

theorem cf_tri (a b c : Int) : Tri (Lib.compareInt a b) (Lib.compareInt b c) (Lib.compareInt a c) := by
  unfold Tri Lib.compareInt
  (repeat' split) <;> omega
theorem cii_tri (cs : List Cl) (x y z : Nat) (hx : x < cs.length) (hy : y < cs.length) (hz : z < cs.length) : Tri (ci cs x y hx hy) (ci cs y z hy hz) (ci cs x z hx hz) :=
  lex_tri (ccl_tri _ _ _) (cf_tri _ _ _)
theorem cii_self (cs : List Cl) (x : Nat) (hx : x < cs.length) : ci cs x x hx hx = 0 := by
  unfold ci
  rw [if_pos (ccl_self _)]
  unfold Lib.compareInt
  simp
theorem cii_zero {cs : List Cl} {x y : Nat} {hx : x < cs.length} {hy : y < cs.length} (h : ci cs x y hx hy = 0) : x = y := by
  unfold ci at h
  split at h
  · unfold Lib.compareInt at h
    (repeat' split at h) <;> omega
  · rename_i hn
    exact absurd h hn
theorem cii_lt {cs : List Cl} {x y : Nat} {hx : x < cs.length} {hy : y < cs.length} (h : ci cs x y hx hy < 0) : LtI cs x y := by
  refine ⟨cs[x], cs[y], List.getElem?_eq_getElem hx, List.getElem?_eq_getElem hy, ?_⟩
  unfold ci at h
  split at h
  · rename_i he
    refine Or.inr ⟨he, ?_⟩
    unfold Lib.compareInt at h
    (repeat' split at h) <;> omega
  · exact Or.inl h
/-- Two indices held against one another. -/
def cfI (cs : List Cl) (x y : Fin cs.length) : Int := ci cs x.1 y.1 x.2 y.2
def encI (n : Nat) (x : Fin n) : Value := .int .i64 (x.1 : Int)
theorem swoI (cs : List Cl) : SWO (ltOf (cfI cs)) where
  irrefl x := by show decide (ci cs x.1 x.1 x.2 x.2 < 0) = false; rw [cii_self]; rfl
  trans x y z h1 h2 := decide_eq_true ((cii_tri cs x.1 y.1 z.1 x.2 y.2 z.2).2.1 (of_decide_eq_true h1) (Int.le_of_lt (of_decide_eq_true h2)))
  ntrans x y z h1 h2 := decide_eq_false fun hh => by
    have k1 : ¬ ci cs x.1 y.1 x.2 y.2 < 0 := of_decide_eq_false h1
    have k2 : ¬ ci cs y.1 z.1 y.2 z.2 < 0 := of_decide_eq_false h2
    have k3 : ci cs x.1 z.1 x.2 z.2 < 0 := hh
    have := (cii_tri cs x.1 y.1 z.1 x.2 y.2 z.2).2.2.2.1 (by omega) (by omega)
    omega
theorem ext_all {α : Type} (d : Array α) {n : Nat} (h : d.size = n) : d.extract 0 n = d := by
  subst h
  exact Array.extract_size

/-- A row of indices lies in a block. -/
def IRow (W : World) (g : Nat) (is : List Nat) : Prop := ∀ i (hi : i < is.length), W.cell? ⟨g, i, none⟩ = some (.int .i64 (is[i] : Int))
theorem IRow.step {W W' : World} {g : Nat} {is : List Nat} {B : Nat} (h : IRow W g is) (hb : Below B W W') (hB : g < B) : IRow W' g is := fun i hi => by
  rw [hb.cell (p := ⟨g, i, none⟩) hB]
  exact h i hi
theorem sortWorldI_below {α : Type} [Inhabited α] {enc : α → Value} {w : World} {g n : Nat} {d : Array α} {os : Array Obj} {B : Nat} (hB : B ≤ g) (hg : g < w.heap.size) : RowKit.Below B w (sortWorld enc w g 0 n d os) := by
  refine ⟨rfl, rfl, rfl, ?_, ?_⟩
  · simp [sortWorld, putRow, mapBlock, grow]
  · intro k hk
    have hne : g ≠ k := by omega
    have hs : k < w.heap.size := by omega
    simp only [sortWorld, putRow, mapBlock, grow, heap_ahead]
    rw [Array.getElem?_append_left (by simpa using hs), Array.getElem?_modify, if_neg hne]

/-- slices.SortFunc over the indices. -/
theorem SortI_any (g cap nb nf nl b off lcap : Nat) (cs : List Cl) (w : World) (h0 : 0 < cs.length) (h : IRow w g (List.range cs.length)) (hf : ∀ o, o < cs.length → w.frozen? ⟨g, o, none⟩ = false) (hg : g < w.heap.size) (hsz : cs.length < 4611686018427387904)
    (hnb : nb < g) (hnf : nf < g) (hnl : nl < g) (hb : b < g) (hby : w.cell? ⟨nb, 0, none⟩ = some (.slice (some ⟨nf, 0, none⟩) 2 2))
    (hf0 : w.cell? ⟨nf, 0, none⟩ = some (.func (.func 63) #[] #[.pointer (some ⟨nl, 0, none⟩)])) (hf1 : w.cell? ⟨nf, 1, none⟩ = some (.func (.func 64) #[] #[]))
    (hl : w.cell? ⟨nl, 0, none⟩ = some (.slice (some ⟨b, off, none⟩) cs.length lcap)) (hR : CRow w b off cs) :
    Calls Try.prog 72 #[.slice (some ⟨g, 0, none⟩) cs.length cap, .func (.func 73) #[] #[.pointer (some ⟨nb, 0, none⟩)]] w fun e w' =>
      e = .returned (.tuple #[]) ∧ ∃ is : List Nat, is.length = cs.length ∧ is.Pairwise (LtI cs) ∧ (∀ i, i ∈ is ↔ i < cs.length) ∧ IRow w' g is ∧ RowKit.Below g w w' := by
  haveI : Inhabited (Fin cs.length) := ⟨⟨0, h0⟩⟩
  have eg : ∀ args w, (callFunc 73 args).run Try.prog w = .ok (.enter 73 args) w := enters_of Try.func73 (by kernel_rfl) rfl
  have hds : (Array.ofFn (fun i : Fin cs.length => i)).size = cs.length := Array.size_ofFn
  have hH : Holds (encI cs.length) w g 0 (Array.ofFn (fun i : Fin cs.length => i)) := by
    intro j hj
    have hj' : j < cs.length := by simpa using hj
    refine ⟨?_, by rw [Nat.zero_add]; exact hf j hj'⟩
    have e : (Array.ofFn (fun i : Fin cs.length => i))[j]! = ⟨j, hj'⟩ := by simp [hj']
    rw [Nat.zero_add, e]
    have := h j (by simpa using hj')
    rw [List.getElem_range] at this
    exact this
  have hcmp : CmpLays1 Try.prog 73 #[.pointer (some ⟨nb, 0, none⟩)] (encI cs.length) (cfI cs) g 0 (Array.ofFn (fun i : Fin cs.length => i)).size w := by
    intro m os dk _ x y
    have hbl : RowKit.Below g w (sortWorld (encI cs.length) w g 0 m dk os) := sortWorldI_below (Nat.le_refl _) hg
    refine cmpI_any nb nf nl b off lcap cs x.1 y.1 x.2 y.2 _ ?_ ?_ ?_ ?_ (hR.step hbl hb)
    · rw [hbl.cell (p := ⟨nb, 0, none⟩) hnb]; exact hby
    · rw [hbl.cell (p := ⟨nf, 0, none⟩) hnf]; exact hf0
    · rw [hbl.cell (p := ⟨nf, 1, none⟩) hnf]; exact hf1
    · rw [hbl.cell (p := ⟨nl, 0, none⟩) hnl]; exact hl
  have hcon := Any.slices_SortFunc Try.sortLaid (encI cs.length) (fun _ => rfl) (cfI cs) (swoI cs) 73 #[.pointer (some ⟨nb, 0, none⟩)] g 0 cap (Array.ofFn (fun i : Fin cs.length => i)) w eg hcmp hH hg (by rw [hds]; exact hsz)
  rw [hds] at hcon
  refine Calls.mono hcon ?_
  rintro e w' ⟨rfl, d', n, os, ⟨hs, _, hp⟩, hso, rfl⟩
  have hs' : d'.size = cs.length := by rw [hs, hds]
  have hp' : d'.toList.Perm (List.ofFn (fun i : Fin cs.length => i)) := by
    rw [ext_all d' hs', ext_all _ hds] at hp
    simpa using hp
  have hnd : d'.toList.Nodup := by
    refine hp'.nodup_iff.2 ?_
    rw [List.nodup_iff_pairwise_ne, List.pairwise_iff_getElem]
    intro i j hi hj hij
    rw [List.getElem_ofFn, List.getElem_ofFn]
    intro e
    have := congrArg Fin.val e
    simp at this
    omega
  refine ⟨rfl, d'.toList.map Fin.val, by simp [hs'], ?_, ?_, ?_, sortWorldI_below (Nat.le_refl _) hg⟩
  · rw [List.pairwise_map, List.pairwise_iff_getElem]
    intro i j hi hj hij
    have hj' : j < d'.size := by simpa using hj
    have hi' : i < d'.size := by simpa using hi
    have h1 := hso i j (Nat.zero_le _) hij (by rw [← hs']; exact hj')
    have e1 : d'[j]! = d'.toList[j] := by simp [hj']
    have e2 : d'[i]! = d'.toList[i] := by simp [hi']
    rw [e1, e2] at h1
    have hne : d'.toList[i] ≠ d'.toList[j] := List.pairwise_iff_getElem.1 (List.nodup_iff_pairwise_ne.1 hnd) i j hi hj hij
    generalize d'.toList[i] = x at *
    generalize d'.toList[j] = y at *
    have h2 : ¬ ci cs y.1 x.1 y.2 x.2 < 0 := of_decide_eq_false h1
    have h3 := cii_tri cs x.1 y.1 x.1 x.2 y.2 x.2
    rw [cii_self] at h3
    by_cases hz : ci cs x.1 y.1 x.2 y.2 = 0
    · exact absurd (Fin.ext (cii_zero hz)) hne
    · by_cases hp : 0 < ci cs x.1 y.1 x.2 y.2
      · have := h3.2.2.2.2.1 hp (by omega)
        omega
      · exact cii_lt (hx := x.2) (hy := y.2) (by omega)
  · intro i
    constructor
    · intro hi
      obtain ⟨x, _, rfl⟩ := List.mem_map.1 hi
      exact x.2
    · intro hi
      refine List.mem_map.2 ⟨⟨i, hi⟩, hp'.mem_iff.2 ?_, rfl⟩
      exact (List.mem_ofFn).2 ⟨⟨i, hi⟩, rfl⟩
  · have := holds_sortWorld (encI cs.length) w g 0 n _ d' os hg hH hs
    intro i hi
    have hi' : i < d'.size := by simpa using hi
    have h1 := (this i hi').1
    rw [Nat.zero_add] at h1
    rw [h1, List.getElem_map]
    have e2 : d'[i]! = d'.toList[i]'(by simpa using hi') := by simp [hi']
    rw [e2]
    rfl

set_option maxHeartbeats 2000000 in
theorem InsI_none (p : Option Addr) (cap : Nat) (fv : Value) (w : World) :
    Calls Try.prog 78 #[.slice p 0 cap, .int .i64 0, .int .i64 0, fv] w fun e w' => e = .returned (.tuple #[]) ∧ w' = w := by
  go_enter Try.func78, Try.ntmps78
  go_wp2
  refine wp_loop_rounds 1 ?_
  rw [rounds_succ]
  go_wp2
  go_end0
  exact ⟨rfl, rfl⟩
set_option maxHeartbeats 2000000 in
theorem PdqI_none (p : Option Addr) (cap : Nat) (lim : Int) (fv : Value) (w : World) :
    Calls Try.prog 76 #[.slice p 0 cap, .int .i64 0, .int .i64 0, .int .i64 lim, fv] w fun e w' => e = .returned (.tuple #[]) ∧ w' = w := by
  go_enter Try.func76, Try.ntmps76
  go_wp2
  refine wp_loop_rounds 1 ?_
  rw [rounds_succ]
  go_wp2_with (go_at_call 78; refine (InsI_none p cap fv _).mono ?_; rintro e w' ⟨rfl, rfl⟩)
  (try simp only [Exit.inBlock, Exit.then])
  refine bodyPost_ret (results_none rfl _ _ _) rfl ?_
  exact ⟨rfl, rfl⟩
set_option maxHeartbeats 2000000 in
theorem SortI_none (p : Option Addr) (cap : Nat) (fv : Value) (w : World) :
    Calls Try.prog 72 #[.slice p 0 cap, fv] w fun e w' => e = .returned (.tuple #[]) ∧ w' = w := by
  have hl : ∀ W, Calls Try.prog 77 #[.int .u64 0] W fun e w' => e = .returned (.int .i64 0) ∧ w' = W := fun W => Try.bits_Len 0 W (by omega) (by omega)
  go_enter Try.func72, Try.ntmps72
  go_wp2_with (first | (go_at_call 77; refine (hl _).mono ?_; rintro e w' ⟨rfl, rfl⟩) | (go_at_call 76; refine (PdqI_none p cap _ fv _).mono ?_; rintro e w' ⟨rfl, rfl⟩))
  go_end0
  exact ⟨rfl, rfl⟩

end Go.Proofs.Ytnpjbdbhjbccbaa
