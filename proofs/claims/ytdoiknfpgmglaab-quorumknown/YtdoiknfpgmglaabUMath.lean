/-
  quorum: groups of members as small numbers, whose bits are the nodes.
-/
import Derived.Test.YtdoiknfpgmglaabAid
namespace Go.Proofs.Ytdoiknfpgmglaab
open Go.RowKit

/-- A node put into a group; all of a list; a group as a rising list. -/
def setB (m : Nat) (x : Int) : Nat := if 0 ≤ x ∧ x < 5 then m ||| 2 ^ x.toNat else m
def mk (m : Nat) (l : List Int) : Nat := l.foldl setB m
def lst (m : Nat) : List Int := ((List.range 5).filter fun i => m.testBit i).map fun (i : Nat) => (i : Int)
def pop (m : Nat) : Nat := ((List.range 5).filter fun i => m.testBit i).length
def chk (l : List Int) : Bool := decide (mk 0 l ≠ 0) && decide (lst (mk 0 l) = l)
def most (l : List Int) : Nat := l.length / 2 + 1
def mayL (l : List Int) : Prop := l ≠ [] ∧ (∀ j (_ : j < l.length), 0 ≤ l[j] ∧ l[j] < 5) ∧ ∀ j (_ : j + 1 < l.length), l[j] < l[j + 1]

theorem setB_lt {m : Nat} {x : Int} (h : m < 32) : setB m x < 32 := by
  unfold setB
  split
  · refine Nat.or_lt_two_pow (n := 5) h ?_
    rename_i hx
    obtain ⟨k, rfl⟩ : ∃ k : Nat, x = (k : Int) := ⟨x.toNat, by omega⟩
    rw [Int.toNat_natCast]
    exact Nat.pow_lt_pow_right (by decide) (by omega)
  · exact h
theorem mk_lt {m : Nat} (l : List Int) (h : m < 32) : mk m l < 32 := by
  induction l generalizing m with
  | nil => exact h
  | cons x l ih => exact ih (setB_lt h)
theorem setB_bit (m i : Nat) (x : Int) (hi : i < 5) : (setB m x).testBit i = (m.testBit i || decide ((i : Int) = x)) := by
  unfold setB
  split
  · rename_i hx
    obtain ⟨k, rfl⟩ : ∃ k : Nat, x = (k : Int) := ⟨x.toNat, by omega⟩
    rw [Int.toNat_natCast, Nat.testBit_or, Nat.testBit_two_pow]
    congr 1
    by_cases e : k = i
    · subst e; simp
    · have : ¬ (i : Int) = (k : Int) := by omega
      simp [e, this]
  · rename_i hx
    have : ¬ (i : Int) = x := by omega
    simp [this]
theorem mk_bit (m i : Nat) (l : List Int) (hi : i < 5) : (mk m l).testBit i = (m.testBit i || decide ((i : Int) ∈ l)) := by
  induction l generalizing m with
  | nil => simp [mk]
  | cons x l ih =>
    show (mk (setB m x) l).testBit i = _
    rw [ih, setB_bit _ _ _ hi, Bool.or_assoc]
    congr 1
    by_cases e : (i : Int) = x <;> simp [e]
theorem mk_snoc (m : Nat) (l : List Int) (x : Int) : mk m (l ++ [x]) = setB (mk m l) x := by simp [mk]
theorem mk_lst : ∀ m < 32, mk 0 (lst m) = m := by decide +kernel
theorem lst_len : ∀ m < 32, (lst m).length = pop m := by intro m _; simp [lst, pop]
theorem chk_lst : ∀ m < 32, 0 < m → chk (lst m) = true := by decide +kernel
theorem pop_pos : ∀ m < 32, 0 < m → 0 < pop m ∧ pop m ≤ 5 := by decide +kernel
theorem chk_ml {l : List Int} (h : chk l = true) : ∃ m, 0 < m ∧ m < 32 ∧ l = lst m := by
  unfold chk at h
  simp only [Bool.and_eq_true, decide_eq_true_eq] at h
  exact ⟨mk 0 l, by omega, mk_lt l (by decide), h.2.symm⟩
theorem lst_inj : ∀ m < 32, ∀ n < 32, lst m = lst n → m = n := by decide +kernel
theorem mem_lst {m i : Nat} : (i : Int) ∈ lst m ↔ i < 5 ∧ m.testBit i = true := by
  unfold lst
  simp only [List.mem_map, List.mem_filter, List.mem_range]
  constructor
  · rintro ⟨k, hk, e⟩
    obtain rfl : k = i := by omega
    exact hk
  · intro h
    exact ⟨i, h, rfl⟩
theorem lst_may : ∀ m < 32, 0 < m → (lst m).all (fun x => decide (0 ≤ x ∧ x < 5)) = true := by decide +kernel
theorem rise_eq : ∀ (n k : Nat) (l : List Int), (∀ x ∈ l, (k : Int) ≤ x ∧ x < ((k + n : Nat) : Int)) → l.Pairwise (· < ·) → l = ((List.range' k n).filter fun (i : Nat) => decide ((i : Int) ∈ l)).map fun (i : Nat) => (i : Int)
  | 0, k, l, h, _ => by
    cases l with
    | nil => rfl
    | cons x l => have := h x List.mem_cons_self; omega
  | n + 1, k, l, h, hp => by
    rw [List.range'_succ]
    by_cases hk : (k : Int) ∈ l
    · obtain ⟨x, t, rfl⟩ : ∃ x t, l = x :: t := by
        cases l with
        | nil => simp at hk
        | cons x t => exact ⟨x, t, rfl⟩
      rw [List.pairwise_cons] at hp
      have hx : x = (k : Int) := by
        rcases List.mem_cons.1 hk with e | e
        · exact e.symm
        · have h1 := hp.1 _ e
          have h2 := (h x List.mem_cons_self).1
          omega
      subst hx
      have ih := rise_eq n (k + 1) t (fun y hy => ⟨by have := hp.1 y hy; omega, by have := (h y (List.mem_cons_of_mem _ hy)).2; omega⟩) hp.2
      rw [List.filter_cons]
      simp only [hk, decide_true, if_true, List.map_cons]
      congr 1
      rw [ih]
      congr 1
      apply List.filter_congr
      intro i hi
      have : k + 1 ≤ i := (List.mem_range'_1.1 hi).1
      have hne : ¬ (i : Int) = (k : Int) := by omega
      rw [← ih]
      simp [hne]
    · have ih := rise_eq n (k + 1) l (fun y hy => ⟨by
        have h1 := (h y hy).1
        have : y ≠ (k : Int) := fun e => hk (e ▸ hy)
        omega, by have := (h y hy).2; omega⟩) hp
      rw [List.filter_cons]
      simp only [hk, decide_false, Bool.false_eq_true, if_false]
      exact ih
theorem step_rise {l : List Int} (h : ∀ j (_ : j + 1 < l.length), l[j] < l[j + 1]) : l.Pairwise (· < ·) := by
  rw [List.pairwise_iff_getElem]
  intro i j hi hj hij
  obtain ⟨d, rfl⟩ : ∃ d, j = i + d + 1 := ⟨j - i - 1, by omega⟩
  clear hij
  induction d with
  | zero => exact h i hj
  | succ d ih => exact Int.lt_trans (ih (by omega)) (h (i + d + 1) hj)
theorem may_chk {l : List Int} (h : mayL l) : chk l = true := by
  obtain ⟨h0, h1, h2⟩ := h
  have hm : ∀ x ∈ l, 0 ≤ x ∧ x < 5 := fun x hx => by
    obtain ⟨j, hj, rfl⟩ := List.mem_iff_getElem.1 hx
    exact h1 j hj
  have h3 := rise_eq 5 0 l (fun x hx => by have := hm x hx; omega) (step_rise h2)
  have h4 : lst (mk 0 l) = l := by
    conv => rhs; rw [h3]
    unfold lst
    rw [← List.range_eq_range']
    congr 1
    apply List.filter_congr
    intro i hi
    rw [mk_bit 0 i l (List.mem_range.1 hi)]
    simp
  have h5 : mk 0 l ≠ 0 := by
    intro e
    rw [e] at h4
    exact h0 h4.symm
  unfold chk
  simp [h4, h5]
theorem lst_may2 : ∀ m < 32, 0 < m → mayL (lst m) := by
  intro m hm h0
  have h1 : ∀ m < 32, (lst m).Pairwise (· < ·) := by decide +kernel
  have h2 := h1 m hm
  refine ⟨?_, ?_, fun j hj => List.pairwise_iff_getElem.1 h2 j (j + 1) (by omega) hj (by omega)⟩
  · intro e
    have := (pop_pos m hm h0).1
    rw [← lst_len m hm, e] at this
    simp at this
  · intro j hj
    have h3 := lst_may m hm h0
    rw [List.all_eq_true] at h3
    simpa using h3 _ (List.getElem_mem hj)
theorem chk_may {l : List Int} (h : chk l = true) : mayL l := by
  obtain ⟨m, h0, h1, rfl⟩ := chk_ml h
  exact lst_may2 m h1 h0
theorem chk_len {l : List Int} (h : chk l = true) : 0 < l.length ∧ l.length ≤ 5 := by
  obtain ⟨m, h0, h1, rfl⟩ := chk_ml h
  rw [lst_len m h1]
  exact pop_pos m h1 h0

/-- Does a list win? -/
def cntY (l y : List Int) : Nat := (l.filter fun x => decide (x ∈ y)).length
def win (l y : List Int) : Bool := chk l && decide (most l ≤ cntY l y)
theorem cntY_le (l y : List Int) : cntY l y ≤ l.length := List.length_filter_le ..
theorem cntY_take (l y : List Int) (i : Nat) (h : i < l.length) : cntY (l.take (i + 1)) y = cntY (l.take i) y + (if l[i] ∈ y then 1 else 0) := by
  unfold cntY
  rw [List.take_add_one, List.getElem?_eq_getElem h, List.filter_append, List.length_append]
  congr 1
  by_cases e : l[i] ∈ y <;> simp [e]
theorem said_iff {l y : List Int} (h : chk l = true) (i : Nat) (hi : i < l.length) : (mk 0 y).testBit l[i].toNat = decide (l[i] ∈ y) := by
  have h1 := (chk_may h).2.1 i hi
  obtain ⟨k, hk⟩ : ∃ k : Nat, l[i] = (k : Int) := ⟨l[i].toNat, by omega⟩
  rw [hk, Int.toNat_natCast, mk_bit 0 k y (by omega)]
  simp

/-- What a majority has reached: enough are as far, not enough further. -/
def IsCom (n : Nat) (P : List Nat) (c : Nat) : Prop := n ≤ P.countP (fun x => decide (c ≤ x)) ∧ P.countP (fun x => decide (c < x)) < n
theorem IsCom.eq {n : Nat} {P : List Nat} {c d : Nat} (h : IsCom n P c) (k : IsCom n P d) : c = d := by
  have one : ∀ {c d : Nat}, IsCom n P c → IsCom n P d → ¬ c < d := by
    intro c d h k hlt
    have h1 : P.countP (fun x => decide (d ≤ x)) ≤ P.countP (fun x => decide (c < x)) := List.countP_mono_left (fun x _ hx => by simp at hx ⊢; omega)
    have := h.2
    have := k.1
    omega
  have := one h k
  have := one k h
  omega
theorem IsCom.perm {n : Nat} {P Q : List Nat} {c : Nat} (h : IsCom n P c) (hp : P.Perm Q) : IsCom n Q c := by
  unfold IsCom at *
  rw [← hp.countP_eq, ← hp.countP_eq]
  exact h
theorem com_sorted {n : Nat} {S : List Nat} (hs : S.Pairwise (fun a b => b ≤ a)) (h0 : 0 < n) (h : n - 1 < S.length) : IsCom n S S[n - 1] := by
  have hg := List.pairwise_iff_getElem.1 hs
  constructor
  · have h1 : (S.take n).countP (fun x => decide (S[n - 1] ≤ x)) = (S.take n).length := by
      rw [List.countP_eq_length]
      intro a ha
      obtain ⟨j, hj, rfl⟩ := List.mem_iff_getElem.1 ha
      rw [List.length_take] at hj
      rw [List.getElem_take]
      rcases Nat.lt_or_ge j (n - 1) with e | e
      · simpa using hg j (n - 1) (by omega) h e
      · obtain rfl : j = n - 1 := by omega
        simp
    have h2 := (List.take_sublist n S).countP_le (p := fun x => decide (S[n - 1] ≤ x))
    rw [h1, List.length_take] at h2
    omega
  · have h1 : (S.drop (n - 1)).countP (fun x => decide (S[n - 1] < x)) = 0 := by
      rw [List.countP_eq_zero]
      intro a ha
      obtain ⟨j, hj, rfl⟩ := List.mem_iff_getElem.1 ha
      rw [List.length_drop] at hj
      rw [List.getElem_drop]
      rcases Nat.eq_zero_or_pos j with rfl | e
      · simp
      · have := hg (n - 1) (n - 1 + j) h (by omega) (by omega)
        simp
        omega
    have h2 : S.countP (fun x => decide (S[n - 1] < x)) = (S.take (n - 1)).countP (fun x => decide (S[n - 1] < x)) + (S.drop (n - 1)).countP (fun x => decide (S[n - 1] < x)) := by
      rw [← List.countP_append, List.take_append_drop]
    have h3 := List.countP_le_length (p := fun x => decide (S[n - 1] < x)) (l := S.take (n - 1))
    rw [List.length_take] at h3
    omega
/-- The matches that count, zeros behind them. -/
def pad (n : Nat) (ms : List Nat) : List Nat := ms.take n ++ List.replicate (n - ms.length) 0
theorem pad_len (n : Nat) (ms : List Nat) : (pad n ms).length = n := by
  simp [pad]
  omega
theorem pad_full {n : Nat} {ms : List Nat} (h : ms.length = n) : pad n ms = ms := by
  subst h
  simp [pad]
theorem min_of : ∀ (L : List Nat) (b : Nat), 0 < L.countP (fun x => decide (b < x)) → ∃ v ∈ L, b < v ∧ ∀ u ∈ L, b < u → v ≤ u
  | [], b, h => by simp at h
  | x :: L, b, h => by
    by_cases hL : 0 < L.countP (fun x => decide (b < x))
    · obtain ⟨v, hv, hb, hm⟩ := min_of L b hL
      by_cases hx : b < x ∧ x < v
      · refine ⟨x, List.mem_cons_self, hx.1, fun u hu hbu => ?_⟩
        rcases List.mem_cons.1 hu with rfl | hu
        · exact Nat.le_refl _
        · have := hm u hu hbu
          omega
      · refine ⟨v, List.mem_cons_of_mem _ hv, hb, fun u hu hbu => ?_⟩
        rcases List.mem_cons.1 hu with rfl | hu
        · omega
        · exact hm u hu hbu
    · have h0 : ∀ u ∈ L, ¬ b < u := by
        have : L.countP (fun x => decide (b < x)) = 0 := by omega
        rw [List.countP_eq_zero] at this
        intro u hu
        simpa using this u hu
      have hx : b < x := by
        rw [List.countP_cons] at h
        by_cases e : b < x
        · exact e
        · simp [e] at h
          obtain ⟨a, ha, hb⟩ := h
          exact absurd hb (h0 a ha)
      refine ⟨x, List.mem_cons_self, hx, fun u hu hbu => ?_⟩
      rcases List.mem_cons.1 hu with rfl | hu
      · exact Nat.le_refl _
      · exact absurd hbu (h0 u hu)
def cntR (n : Nat) (ms : List Nat) (v : Nat) : Nat := (ms.take n).countP (fun x => decide (v ≤ x))
theorem com_best {N n : Nat} {ms : List Nat} {best : Nat} (hn : n ≤ N) (h0 : 0 < n) (h1 : best = 0 ∨ n ≤ cntR N ms best) (h2 : ∀ v ∈ ms.take N, n ≤ cntR N ms v → v ≤ best) : IsCom n (pad N ms) best := by
  constructor
  · rcases h1 with rfl | h1
    · have : (pad N ms).countP (fun x => decide (0 ≤ x)) = (pad N ms).length := by rw [List.countP_eq_length]; intro a _; simp
      rw [this, pad_len]
      exact hn
    · unfold pad
      rw [List.countP_append]
      unfold cntR at h1
      omega
  · rcases Nat.lt_or_ge ((pad N ms).countP (fun x => decide (best < x))) n with h | h
    · exact h
    · exfalso
      have hz : (List.replicate (N - ms.length) 0).countP (fun x => decide (best < x)) = 0 := by
        rw [List.countP_eq_zero]
        intro a ha
        have := List.eq_of_mem_replicate ha
        subst this
        simp
      unfold pad at h
      rw [List.countP_append, hz] at h
      obtain ⟨v, hv, hb, hm⟩ := min_of (ms.take N) best (by omega)
      have h3 : (ms.take N).countP (fun x => decide (best < x)) ≤ cntR N ms v := List.countP_mono_left (fun x hx e => by
        simp at e ⊢
        exact hm x hx e)
      have := h2 v hv (by omega)
      omega

end Go.Proofs.Ytdoiknfpgmglaab
