/-
  quorum: numbers put in falling order.
-/
import Derived.Test.YtdoiknfpgmglaabUMem
import Derived.Test.YtdoiknfpgmglaabUSort
namespace Go.Proofs.Ytdoiknfpgmglaab
open Go.RowKit Go.BigFrame Go.Sort Go.Shelf

set_option maxHeartbeats 1000000 in
theorem isNaNU_any (x : Int) (w : World) : Calls Try.prog 19 #[.int .u64 x] w fun e w' => e = .returned (.bool false) ∧ w' = w := by
  go_enter Try.func19, Try.ntmps19
  go_wp2
  go_ret
  exact ⟨by simp, rfl⟩

set_option maxHeartbeats 1000000 in
theorem CompareU_any (x y : Int) (w : World) : Calls Try.prog 16 #[.int .u64 x, .int .u64 y] w fun e w' => e = .returned (.int .i64 (Lib.compareInt x y)) ∧ w' = w := by
  go_enter Try.func16, Try.ntmps16
  go_wp2_with (go_at_call 19; refine (isNaNU_any _ _).mono ?_; rintro e w' ⟨rfl, hw⟩; rw [hw])
  all_goals (go_ret; refine ⟨?_, rfl⟩; unfold Lib.compareInt; (repeat' split) <;> first | rfl | (exfalso; omega))

set_option maxHeartbeats 1000000 in
theorem com1_any (x y : Int) (w : World) : Calls Try.prog 15 #[.int .u64 x, .int .u64 y] w fun e w' => e = .returned (.int .i64 (Lib.compareInt y x)) ∧ w' = w := by
  go_enter Try.func15, Try.ntmps15
  go_wp2_with (go_at_call 16; refine (CompareU_any _ _ _).mono ?_; rintro e w' ⟨rfl, hw⟩; rw [hw])
  go_ret
  exact ⟨rfl, rfl⟩

def cfU (x y : Nat) : Int := Lib.compareInt (y : Int) (x : Int)
def encU (x : Nat) : Value := .int .u64 (x : Int)
theorem cfU_lt {x y : Nat} : cfU x y < 0 ↔ y < x := by
  unfold cfU Lib.compareInt
  (repeat' split) <;> omega
theorem swoU : SWO (ltOf cfU) where
  irrefl x := decide_eq_false fun h => by have := cfU_lt.1 h; omega
  trans x y z h1 h2 := decide_eq_true (cfU_lt.2 (by have := cfU_lt.1 (of_decide_eq_true h1); have := cfU_lt.1 (of_decide_eq_true h2); omega))
  ntrans x y z h1 h2 := decide_eq_false fun h => by
    have k1 : ¬ y < x := fun e => of_decide_eq_false h1 (cfU_lt.2 e)
    have k2 : ¬ z < y := fun e => of_decide_eq_false h2 (cfU_lt.2 e)
    have := cfU_lt.1 h
    omega
theorem ext_all {α : Type} (d : Array α) {n : Nat} (h : d.size = n) : d.extract 0 n = d := by
  subst h
  exact Array.extract_size
theorem sortWorldU_below {α : Type} [Inhabited α] {enc : α → Value} {w : World} {g n : Nat} {d : Array α} {os : Array Obj} {B : Nat} (hB : B ≤ g) (hg : g < w.heap.size) : RowKit.Below B w (sortWorld enc w g 0 n d os) := by
  refine ⟨rfl, rfl, rfl, ?_, ?_⟩
  · simp [sortWorld, putRow, mapBlock, grow]
  · intro k hk
    have hne : g ≠ k := by omega
    have hs : k < w.heap.size := by omega
    simp only [sortWorld, putRow, mapBlock, grow, heap_ahead]
    rw [Array.getElem?_append_left (by simpa using hs), Array.getElem?_modify, if_neg hne]

/-- slices.SortFunc over numbers. -/
theorem SortU_any (g cap : Nat) (P : List Nat) (w : World) (h : ∀ i (hi : i < P.length), w.cell? ⟨g, i, none⟩ = some (.int .u64 (P[i] : Int))) (hf : ∀ o, w.frozen? ⟨g, o, none⟩ = false) (hg : g < w.heap.size) (hsz : P.length < 4611686018427387904) :
    Calls Try.prog 14 #[.slice (some ⟨g, 0, none⟩) P.length cap, .func (.func 15) #[] #[]] w fun e w' =>
      e = .returned (.tuple #[]) ∧ ∃ S : List Nat, S.Perm P ∧ S.Pairwise (fun a b => b ≤ a) ∧ (∀ i (hi : i < S.length), w'.cell? ⟨g, i, none⟩ = some (.int .u64 (S[i] : Int))) ∧ RowKit.Below g w w' := by
  have eg : ∀ args w, (callFunc 15 args).run Try.prog w = .ok (.enter 15 args) w := enters_of Try.func15 (by kernel_rfl) rfl
  have hH : Holds encU w g 0 P.toArray := by
    intro j hj
    have hj' : j < P.length := by simpa using hj
    refine ⟨?_, by rw [Nat.zero_add]; exact hf j⟩
    have e : P.toArray[j]! = P[j] := by simp [hj']
    rw [Nat.zero_add, e]
    exact h j hj'
  have hcmp : CmpLays1 Try.prog 15 #[] encU cfU g 0 P.toArray.size w := by
    intro m os dk _ x y
    refine (com1_any x y _).mono ?_
    rintro e w' ⟨rfl, rfl⟩
    exact ⟨rfl, 0, #[], by simp [grow, World.drewN]⟩
  have hcon := Any.slices_SortFunc Try.sortLaid encU (fun _ => rfl) cfU swoU 15 #[] g 0 cap P.toArray w eg hcmp hH hg (by simpa using hsz)
  have hsz2 : P.toArray.size = P.length := by simp
  rw [hsz2] at hcon
  refine Calls.mono hcon ?_
  rintro e w' ⟨rfl, d', n, os, ⟨hs, _, hp⟩, hso, rfl⟩
  have hs' : d'.size = P.length := by rw [hs, hsz2]
  have hp' : d'.toList.Perm P := by
    rw [ext_all d' hs', ext_all _ hsz2] at hp
    simpa using hp
  refine ⟨rfl, d'.toList, hp', ?_, ?_, sortWorldU_below (Nat.le_refl _) hg⟩
  · rw [List.pairwise_iff_getElem]
    intro i j hi hj hij
    have hj' : j < d'.size := by simpa using hj
    have hi' : i < d'.size := by simpa using hi
    have h1 := hso i j (Nat.zero_le _) hij (by rw [← hs']; exact hj')
    have e1 : d'[j]! = d'.toList[j] := by simp [hj']
    have e2 : d'[i]! = d'.toList[i] := by simp [hi']
    rw [e1, e2] at h1
    have h2 : ¬ cfU d'.toList[j] d'.toList[i] < 0 := of_decide_eq_false h1
    have : ¬ d'.toList[i] < d'.toList[j] := fun e => h2 (cfU_lt.2 e)
    omega
  · have := holds_sortWorld encU w g 0 n _ d' os hg hH (by rw [hs', hsz2])
    intro i hi
    have hi' : i < d'.size := by simpa using hi
    have h1 := (this i hi').1
    rw [Nat.zero_add] at h1
    rw [h1]
    have e2 : d'[i]! = d'.toList[i]'(by simpa using hi') := by simp [hi']
    rw [e2]
    rfl

end Go.Proofs.Ytdoiknfpgmglaab
