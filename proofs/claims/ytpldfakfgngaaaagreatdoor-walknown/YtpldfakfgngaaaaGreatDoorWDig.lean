/-
  Numbers as sixteen digits and back; the order of such names is the order of the numbers; lists in order with the same members are the same.
-/
import Derived.Test.YtpldfakfgngaaaaGreatDoorXMath
namespace Go.Proofs.YtpldfakfgngaaaaGreatDoor

/-- The last k digits of a number. -/
def dgs : Nat → Nat → List UInt8
  | 0, _ => []
  | k + 1, n => dgs k (n / 10) ++ [UInt8.ofNat (48 + n % 10)]
def isD (c : UInt8) : Bool := 48 ≤ c.toNat && c.toNat ≤ 57
def numL (l : List UInt8) : Nat := l.foldl (fun a c => 10 * a + (c.toNat - 48)) 0

theorem dgs_length : ∀ (k n : Nat), (dgs k n).length = k
  | 0, _ => rfl
  | k + 1, n => by rw [dgs, List.length_append, dgs_length k]; rfl
theorem dig_nat (n : Nat) : (UInt8.ofNat (48 + n % 10)).toNat = 48 + n % 10 := by
  have : n % 10 < 10 := Nat.mod_lt _ (by decide)
  rw [UInt8.toNat_ofNat']
  omega
theorem dgs_all : ∀ (k n : Nat), ∀ c ∈ dgs k n, isD c = true
  | 0, _ => by simp [dgs]
  | k + 1, n => by
    intro c hc
    rw [dgs, List.mem_append] at hc
    rcases hc with hc | hc
    · exact dgs_all k _ c hc
    · rw [List.mem_singleton] at hc
      subst hc
      have : n % 10 < 10 := Nat.mod_lt _ (by decide)
      simp only [isD, dig_nat, Bool.and_eq_true, decide_eq_true_eq]
      omega
theorem numL_snoc (l : List UInt8) (c : UInt8) : numL (l ++ [c]) = 10 * numL l + (c.toNat - 48) := by simp [numL]
theorem numL_dgs : ∀ (k n : Nat), n < 10 ^ k → numL (dgs k n) = n
  | 0, n, h => by
    have : n = 0 := by simpa using h
    subst this; rfl
  | k + 1, n, h => by
    rw [dgs, numL_snoc, numL_dgs k (n / 10) (by rw [Nat.pow_succ] at h; omega), dig_nat]
    omega
theorem isD_bounds {c : UInt8} (h : isD c = true) : 48 ≤ c.toNat ∧ c.toNat ≤ 57 := by simpa [isD] using h
theorem snoc_ind {α : Type} {p : List α → Prop} (h0 : p []) (h1 : ∀ l x, p l → p (l ++ [x])) (l : List α) : p l := by
  rw [← List.reverse_reverse l]
  induction l.reverse with
  | nil => exact h0
  | cons x r ih => rw [List.reverse_cons]; exact h1 _ _ ih
theorem dgs_numL (l : List UInt8) : (∀ c ∈ l, isD c = true) → dgs l.length (numL l) = l := by
  induction l using snoc_ind with
  | h0 => intro _; rfl
  | h1 l c ih =>
    intro h
    have hc := isD_bounds (h c (by simp))
    rw [numL_snoc, List.length_append, List.length_singleton, dgs]
    have e1 : (10 * numL l + (c.toNat - 48)) / 10 = numL l := by omega
    have e2 : (10 * numL l + (c.toNat - 48)) % 10 = c.toNat - 48 := by omega
    have e3 : 48 + (c.toNat - 48) = c.toNat := by omega
    rw [e1, e2, e3, ih (fun x hx => h x (by simp [hx]))]
    simp
theorem numL_lt (l : List UInt8) : (∀ c ∈ l, isD c = true) → numL l < 10 ^ l.length := by
  induction l using snoc_ind with
  | h0 => intro _; decide
  | h1 l c ih =>
    intro h
    have hc := isD_bounds (h c (by simp))
    have := ih (fun x hx => h x (by simp [hx]))
    rw [numL_snoc, List.length_append, List.length_singleton, Nat.pow_succ]
    omega
theorem app_lt_left : ∀ (p a b : List UInt8), (p ++ a < p ++ b) ↔ a < b
  | [], _, _ => Iff.rfl
  | x :: p, a, b => by
    rw [List.cons_append, List.cons_append, List.cons_lt_cons_iff, app_lt_left p]
    simp
theorem app_lt_right : ∀ (a b c d : List UInt8), a.length = b.length → (a ++ c < b ++ d ↔ a < b ∨ (a = b ∧ c < d))
  | [], [], c, d, _ => by simp
  | x :: a, y :: b, c, d, h => by
    have h' : a.length = b.length := by simpa using h
    rw [List.cons_append, List.cons_append, List.cons_lt_cons_iff, List.cons_lt_cons_iff, app_lt_right a b c d h']
    simp only [List.cons.injEq]
    constructor
    · rintro (k | ⟨rfl, k | ⟨rfl, k⟩⟩)
      · exact Or.inl (Or.inl k)
      · exact Or.inl (Or.inr ⟨rfl, k⟩)
      · exact Or.inr ⟨⟨rfl, rfl⟩, k⟩
    · rintro ((k | ⟨rfl, k⟩) | ⟨⟨rfl, rfl⟩, k⟩)
      · exact Or.inl k
      · exact Or.inr ⟨rfl, Or.inl k⟩
      · exact Or.inr ⟨rfl, Or.inr ⟨rfl, k⟩⟩
  | [], _ :: _, _, _, h => by simp at h
  | _ :: _, [], _, _, h => by simp at h
theorem dig_lt (a b : Nat) : (UInt8.ofNat (48 + a % 10) < UInt8.ofNat (48 + b % 10)) ↔ a % 10 < b % 10 := by
  rw [UInt8.lt_iff_toNat_lt, dig_nat, dig_nat]
  omega
theorem dgs_inj {k a b : Nat} (ha : a < 10 ^ k) (hb : b < 10 ^ k) (h : dgs k a = dgs k b) : a = b := by
  rw [← numL_dgs k a ha, h, numL_dgs k b hb]
theorem dgs_lt : ∀ (k a b : Nat), a < 10 ^ k → b < 10 ^ k → (dgs k a < dgs k b ↔ a < b)
  | 0, a, b, ha, hb => by
    have e1 : a = 0 := by simpa using ha
    have e2 : b = 0 := by simpa using hb
    subst e1; subst e2
    simp [dgs]
  | k + 1, a, b, ha, hb => by
    have ha' : a / 10 < 10 ^ k := by rw [Nat.pow_succ] at ha; omega
    have hb' : b / 10 < 10 ^ k := by rw [Nat.pow_succ] at hb; omega
    rw [dgs, dgs, app_lt_right _ _ _ _ (by rw [dgs_length, dgs_length]), dgs_lt k _ _ ha' hb', List.cons_lt_cons_iff, dig_lt]
    simp only [List.not_lt_nil, and_false, or_false]
    constructor
    · rintro (h | ⟨h, h2⟩)
      · omega
      · have := dgs_inj ha' hb' h
        omega
    · intro h
      by_cases e : a / 10 < b / 10
      · exact Or.inl e
      · have e' : a / 10 = b / 10 := by omega
        exact Or.inr ⟨by rw [e'], by omega⟩

/-- A file's name. -/
def nm (p : List UInt8) (n : Nat) : List UInt8 := p ++ dgs 16 n
theorem nm_length (p : List UInt8) (n : Nat) : (nm p n).length = p.length + 16 := by rw [nm, List.length_append, dgs_length]
theorem nm_lt (p : List UInt8) {a b : Nat} (ha : a ≤ 1000000000000000) (hb : b ≤ 1000000000000000) : nm p a < nm p b ↔ a < b := by
  rw [nm, nm, app_lt_left, dgs_lt 16 a b (by omega) (by omega)]
theorem nm_inj (p : List UInt8) {a b : Nat} (ha : a ≤ 1000000000000000) (hb : b ≤ 1000000000000000) (h : nm p a = nm p b) : a = b := by
  refine dgs_inj (k := 16) (by omega) (by omega) (List.append_cancel_left h)
/-- The number that sixteen digits tell, from 1 to 10^15. -/
def nof (t : List UInt8) : Option Nat := if t.length = 16 ∧ t.all isD = true ∧ 1 ≤ numL t ∧ numL t ≤ 1000000000000000 then some (numL t) else none
theorem nof_dgs {n : Nat} (h1 : 1 ≤ n) (h2 : n ≤ 1000000000000000) : nof (dgs 16 n) = some n := by
  have e : numL (dgs 16 n) = n := numL_dgs 16 n (by omega)
  unfold nof
  rw [if_pos ⟨dgs_length _ _, List.all_eq_true.2 (dgs_all 16 n), by rw [e]; exact h1, by rw [e]; exact h2⟩, e]
theorem nof_some {t : List UInt8} {n : Nat} (h : nof t = some n) : t = dgs 16 n ∧ 1 ≤ n ∧ n ≤ 1000000000000000 := by
  unfold nof at h
  split at h
  · rename_i hc
    cases h
    refine ⟨?_, hc.2.2⟩
    have := dgs_numL t (fun c hc' => List.all_eq_true.1 hc.2.1 c hc')
    rw [hc.1] at this
    exact this.symm
  · cases h
theorem nof_none_iff {t : List UInt8} : nof t = none ↔ ¬ (t.length = 16 ∧ t.all isD = true ∧ 1 ≤ numL t ∧ numL t ≤ 1000000000000000) := by
  unfold nof
  split
  · rename_i h; simp [h]
  · rename_i h; exact ⟨fun _ => h, fun _ => rfl⟩

/-- Lists of numbers in order with the same members are the same. -/
theorem ord_ext : ∀ {A B : List Nat}, A.Pairwise (· < ·) → B.Pairwise (· < ·) → (∀ x, x ∈ A ↔ x ∈ B) → A = B
  | [], [], _, _, _ => rfl
  | [], b :: B, _, _, h => by have := (h b).2 (by simp); simp at this
  | a :: A, [], _, _, h => by have := (h a).1 (by simp); simp at this
  | a :: A, b :: B, hA, hB, h => by
    obtain ⟨a1, a2⟩ := List.pairwise_cons.1 hA
    obtain ⟨b1, b2⟩ := List.pairwise_cons.1 hB
    have e : a = b := by
      have h1 := (h a).1 (by simp)
      have h2 := (h b).2 (by simp)
      rcases List.mem_cons.1 h1 with e | h1
      · exact e
      · rcases List.mem_cons.1 h2 with e | h2
        · exact e.symm
        · have := a1 b h2
          have := b1 a h1
          omega
    subst e
    rw [ord_ext a2 b2 (fun x => ?_)]
    constructor
    · intro hx
      rcases List.mem_cons.1 ((h x).1 (by simp [hx])) with e | hx2
      · subst e
        have := a1 x hx
        omega
      · exact hx2
    · intro hx
      rcases List.mem_cons.1 ((h x).2 (by simp [hx])) with e | hx2
      · subst e
        have := b1 x hx
        omega
      · exact hx2

end Go.Proofs.YtpldfakfgngaaaaGreatDoor
