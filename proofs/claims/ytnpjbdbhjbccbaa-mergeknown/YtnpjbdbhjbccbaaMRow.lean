/-
  merge: rising, Newest: rows sifted.
-/
import Derived.Test.YtnpjbdbhjbccbaaGMsi
namespace Go.Proofs.Ytnpjbdbhjbccbaa
open Go.RowKit Go.BigFrame Go.Sort
attribute [local go_sem] size_bstr toList_bstr ls_def

def upF (l c : Cl) : Bool := decide (ccl l c < 0)
def newF (l c : Cl) : Bool := !plc l c
theorem up_bare (l c : Cl) : upF (bare l) c = upF l c := rfl
theorem new_bare (l c : Cl) : newF (bare l) c = newF l c := rfl

set_option maxHeartbeats 1000000 in
theorem rising1_any (l c : Cl) (w : World) : Calls Try.prog 53 #[clV l, clV c] w fun e w' => e = .returned (.bool (upF l c)) ∧ Below w.heap.size w w' := by
  have hcon := fun W => Cmp_any l.row l.col l.ver l.gone l.val c.row c.col c.ver c.gone c.val W
  generalize hcv : cc l.row l.col l.ver c.row c.col c.ver = cv at *
  have hcv' : upF l c = decide (cv < 0) := by unfold upF ccl; rw [hcv]
  rw [hcv']
  clear hcv hcv'
  go_enter Try.func53, Try.ntmps53
  go_wp2_with fail
  refine (hcon _).mono ?_
  rintro e w1 ⟨rfl, hb1⟩
  go_wp2
  all_goals go_ret
  all_goals exact ⟨rfl, below2 (((Below.refl _ _).alloc (Nat.le_refl _) _).alloc (by simp) _) hb1⟩

set_option maxHeartbeats 1000000 in
theorem mnewest1_any (l c : Cl) (w : World) : Calls Try.prog 41 #[clV l, clV c] w fun e w' => e = .returned (.bool (newF l c)) ∧ Below w.heap.size w w' := by
  obtain ⟨r, k, v, g, x⟩ := l
  obtain ⟨r', k', v', g', x'⟩ := c
  by_cases h1 : r = r' <;> by_cases h2 : k = k'
  all_goals (
    go_enter Try.func41, Try.ntmps41
    go_wp2
    all_goals go_ret
    all_goals refine ⟨?_, ((Below.refl _ _).alloc (Nat.le_refl _) _).alloc (by simp) _⟩
    all_goals simp_all [newF, plc])

theorem rising_fol : Fol 53 upF := ⟨enters_of Try.func53 (by kernel_rfl) rfl, rising1_any, up_bare⟩
theorem newest_fol : Fol 41 newF := ⟨enters_of Try.func41 (by kernel_rfl) rfl, mnewest1_any, new_bare⟩
theorem sift_eg : ∀ args w, (callFunc 60 args).run Try.prog w = .ok (.enter 60 args) w := enters_of Try.func60 (by kernel_rfl) rfl

/-- A row that is sifted tells. -/
theorem sift_tlr {g : Nat} {caps : Array Value} {F : Nat → Prop} {cs : List Cl} {J : Nat → World → Prop} (hT : Tlr g caps F cs J) {g2 : Nat} {f : Cl → Cl → Bool} (hF : Fol g2 f) {b pg pe : Nat} (hP : SiftP b pg pe) (hd : ∀ i, F i → i < b ∨ b + 5 ≤ i) :
    Tlr 60 (siftC b pg pe) (SiftF F b) (siftL f none cs) (SiftJ g caps F cs J g2 f b pg pe) where
  eg := sift_eg
  fits c hc := hT.fits c (siftL_mem f cs none c hc)
  lt n w h i hi := by
    obtain ⟨m, lo, en, _, hJ, hS⟩ := h.out
    rcases hi with hi | hi
    · exact hT.lt m w hJ i hi
    · have := hS.lt hP
      omega
  kept n w w' h hk := by
    obtain ⟨m, lo, en, hR, hJ, hS⟩ := h.out
    exact ⟨m, lo, en, hR, hT.kept m w w' hJ (fun i hi => hk i (Or.inl hi)), hS.kept hP (fun i h1 h2 => hk i (Or.inr ⟨h1, h2⟩))⟩
  step n w h := sift1_step hT hF hP hd n w h

set_option maxHeartbeats 1000000 in
theorem sift1_nil {g2 : Nat} {b pg pe : Nat} (hP : SiftP b pg pe) (w : World) (h : SiftAt w b pg pe .nilFunc g2 none true) :
    Calls Try.prog 60 (siftC b pg pe) w fun e w' => e = .returned (.tuple #[clV zC, .bool false]) ∧ SiftAt w' b pg pe .nilFunc g2 none true ∧ Below w.heap.size w w' := by
  have e0 := (mcells h.e).1 0
  have hl := blk_lt h.e
  have hb := h.lt hP
  unfold siftC
  go_enter Try.func60, Try.ntmps60
  go_wp2
  refine wp_loop_rounds 1 ?_
  rw [rounds_succ]
  go_wp2
  refine ret_cell Try.results60 (c := zC) (v := .bool false) rfl rfl (At5.new w zC _ rfl) rfl ?_
  exact ⟨rfl, h.kept hP (fun i _ hi => heap_alloc_old _ _ (by omega)), (Below.refl _ _).alloc (Nat.le_refl _) _⟩
theorem sift_none {g2 : Nat} {b pg pe : Nat} (hP : SiftP b pg pe) : Tlr 60 (siftC b pg pe) (SiftF (fun _ => False) b) [] (fun _ w => SiftAt w b pg pe .nilFunc g2 none true) where
  eg := sift_eg
  fits c hc := absurd hc (by simp)
  lt n w h i hi := by
    rcases hi with hi | hi
    · exact hi.elim
    · have := h.lt hP
      omega
  kept n w w' h hk := h.kept hP (fun i h1 h2 => hk i (Or.inr ⟨h1, h2⟩))
  step n w h := (sift1_nil hP w h).mono fun e w' ⟨h1, h2, h3⟩ => ⟨by rw [ansV_no (Nat.zero_le _)]; exact h1, h2, Kp.of_below _ h3⟩

/-- A value that is a row: nil, or a function that tells. -/
def RowV (v : Value) (F : Nat → Prop) (cs : List Cl) (J : Nat → World → Prop) : Prop := (v = .nilFunc ∧ cs = [] ∧ ∀ i, ¬ F i) ∨ ∃ g caps, v = .func (.func g) #[] caps ∧ Tlr g caps F cs J
/-- What a sift of a row is. -/
def SiftQ (v : Value) (F : Nat → Prop) (cs : List Cl) (J : Nat → World → Prop) (f : Cl → Cl → Bool) (w : World) (e : Ending) (w' : World) : Prop :=
  ∃ caps' F' J', e = .returned (.func (.func 60) #[] caps') ∧ Tlr 60 caps' F' (siftL f none cs) J' ∧ J' 0 w' ∧ (∀ i, F' i → F i ∨ w.heap.size ≤ i) ∧ Below w.heap.size w w' ∧ ∀ n W, J' n W → siftL f none cs = cs → v ≠ .nilFunc → ∃ m, m ≤ n ∧ J m W
theorem sift_rv {v : Value} {F : Nat → Prop} {cs : List Cl} {J : Nat → World → Prop} (h : RowV v F cs J) {g2 : Nat} {f : Cl → Cl → Bool} (hF : Fol g2 f) (w : World) (hJ : J 0 w) :
    Calls Try.prog 40 #[v, .func (.func g2) #[] #[]] w (SiftQ v F cs J f w) := by
  rcases h with ⟨rfl, rfl, hn⟩ | ⟨g, caps, rfl, hT⟩
  · refine (sift_nil g2 w).mono ?_
    rintro e w' ⟨pg, pe, hP, rfl, hS, hb⟩
    refine ⟨_, _, _, rfl, sift_none hP, hS, ?_, hb, fun n W _ _ h => absurd rfl h⟩
    intro i hi
    rcases hi with hi | hi
    · exact hi.elim
    · exact Or.inr hi.1
  · refine (sift_row g caps g2 w).mono ?_
    rintro e w' ⟨pg, pe, hP, rfl, hS, hb⟩
    refine ⟨_, _, _, rfl, sift_tlr hT hF hP (fun i hi => Or.inl (hT.lt 0 w hJ i hi)), ⟨0, none, false, SR.start f cs, hT.below hJ hb, hS⟩, ?_, hb, ?_⟩
    · intro i hi
      rcases hi with hi | hi
      · exact Or.inl hi
      · exact Or.inr hi.1
    · intro n W hW he _
      obtain ⟨m, lo, en, hR, hJm, _⟩ := hW.out
      exact ⟨m, hR.few he, hJm⟩

set_option maxHeartbeats 1000000 in
theorem rising_rv {v : Value} {F : Nat → Prop} {cs : List Cl} {J : Nat → World → Prop} (h : RowV v F cs J) (w : World) (hJ : J 0 w) :
    Calls Try.prog 30 #[v] w (SiftQ v F cs J upF w) := by
  go_enter Try.func30, Try.ntmps30
  go_wp2_with fail
  refine (sift_rv h rising_fol _ hJ).mono ?_
  rintro e w1 ⟨caps', F', J', rfl, hq⟩
  go_wp2
  go_ret
  exact ⟨caps', F', J', rfl, hq⟩
set_option maxHeartbeats 1000000 in
theorem newest_rv {v : Value} {F : Nat → Prop} {cs : List Cl} {J : Nat → World → Prop} (h : RowV v F cs J) (w : World) (hJ : J 0 w) :
    Calls Try.prog 15 #[v] w (SiftQ v F cs J newF w) := by
  go_enter Try.func15, Try.ntmps15
  go_wp2_with fail
  refine (sift_rv h newest_fol _ hJ).mono ?_
  rintro e w1 ⟨caps', F', J', rfl, hq⟩
  go_wp2
  go_ret
  exact ⟨caps', F', J', rfl, hq⟩

end Go.Proofs.Ytnpjbdbhjbccbaa
