/-
  quorum: majorities gone through one by one: when all of them meet.
-/
import Derived.Test.YtdoiknfpgmglaaaUMt
namespace Go.Proofs.Ytdoiknfpgmglaaa
open Go.RowKit Go.BigFrame

/-- The members whose bits are set, up to the i-th. -/
def par (l : List Int) (x : Nat) : Nat → List Int
  | 0 => []
  | i + 1 => par l x i ++ (if x.testBit i then [l.getD i 0] else [])
theorem par_len (l : List Int) (x i : Nat) : (par l x i).length ≤ i := by
  induction i with
  | zero => simp [par]
  | succ i ih =>
    unfold par
    rw [List.length_append]
    split <;> simp <;> omega
def parL (l : List Int) (x : Nat) : List Int := par l x l.length
def com (p q : List Int) : Bool := p.any fun a => decide (a ∈ q)
def mtB (a b : List Int) (x y : Nat) : Bool := decide (most a ≤ (parL a x).length) && decide (most b ≤ (parL b y).length) && !com (parL a x) (parL b y)
def MtAll (a b : List Int) (x : Nat) : Prop := ∀ x' < x, ∀ y' < 2 ^ b.length, mtB a b x' y' = false

def pick (m x : Nat) : Nat := mk 0 (parL (lst m) x)
theorem pk1 : ∀ m < 32, ∀ x < 32, parL (lst m) x = lst (pick m x) ∧ pick m x &&& m = pick m x ∧ pick m x < 32 := by decide +kernel
theorem pk2 : ∀ p < 32, ∀ q < 32, com (lst p) (lst q) = decide (p &&& q ≠ 0) := by decide +kernel
theorem pk3 : ∀ m < 32, ∀ n < 32, mk (mk 0 (lst m)) (lst n) = m ||| n := by decide +kernel
theorem pk4 : ∀ p < 32, ∀ q < 32, p &&& q = 0 → (lst p).length + (lst q).length = (lst (p ||| q)).length := by decide +kernel
theorem pk5 : ∀ s < 32, ∀ t < 32, s &&& t = s → (lst s).length ≤ (lst t).length := by decide +kernel
theorem pk6 : ∀ m < 32, ∀ p < 32, p &&& m = p → ∃ x < 2 ^ (lst m).length, parL (lst m) x = lst p := by decide +kernel
def apart (m n p q : Nat) : Bool := decide (p &&& q = 0) && decide (p &&& m = p) && decide (q &&& n = q) && decide (most (lst m) ≤ (lst p).length) && decide (most (lst n) ≤ (lst q).length)
theorem pk7b : ∀ m < 32, ∀ n < 32, 0 < m → 0 < n → most (lst m) + most (lst n) ≤ (lst (m ||| n)).length → ((List.range 32).any fun p => (List.range 32).any fun q => apart m n p q) = true := by decide +kernel
theorem pk7 : ∀ m < 32, ∀ n < 32, 0 < m → 0 < n → most (lst m) + most (lst n) ≤ (lst (m ||| n)).length → ∃ p < 32, ∃ q < 32, p &&& q = 0 ∧ p &&& m = p ∧ q &&& n = q ∧ most (lst m) ≤ (lst p).length ∧ most (lst n) ≤ (lst q).length := by
  intro m hm n hn m0 n0 h
  have h1 := pk7b m hm n hn m0 n0 h
  simp only [List.any_eq_true, List.mem_range, apart, Bool.and_eq_true, decide_eq_true_eq] at h1
  obtain ⟨p, hp, q, hq, h2⟩ := h1
  exact ⟨p, hp, q, hq, h2.1.1.1.1, h2.1.1.1.2, h2.1.1.2, h2.1.2, h2.2⟩
theorem or_sub {p q m n : Nat} (hp : p &&& m = p) (hq : q &&& n = q) : (p ||| q) &&& (m ||| n) = p ||| q := by
  apply Nat.eq_of_testBit_eq
  intro i
  have h1 := congrArg (fun z => z.testBit i) hp
  have h2 := congrArg (fun z => z.testBit i) hq
  simp only [Nat.testBit_and, Nat.testBit_or] at h1 h2 ⊢
  revert h1 h2
  cases p.testBit i <;> cases q.testBit i <;> cases m.testBit i <;> cases n.testBit i <;> simp
theorem or_lt {p q : Nat} (hp : p < 32) (hq : q < 32) : p ||| q < 32 := Nat.or_lt_two_pow (n := 5) hp hq
/-- Two groups of which enough meet whatever is chosen. -/
theorem meet_sound {m n p q : Nat} (hm : m < 32) (hn : n < 32) (hp : p < 32) (hq : q < 32) (sp : p &&& m = p) (sq : q &&& n = q) (h1 : most (lst m) ≤ (lst p).length) (h2 : most (lst n) ≤ (lst q).length) (h : (lst (m ||| n)).length < most (lst m) + most (lst n)) : p &&& q ≠ 0 := by
  intro e
  have h3 := pk4 p hp q hq e
  have h4 := pk5 (p ||| q) (or_lt hp hq) (m ||| n) (or_lt hm hn) (or_sub sp sq)
  omega
theorem pow_le (m : Nat) {x : Nat} (hx : x < 2 ^ (lst m).length) : x < 32 := by
  have h1 := (show (lst m).length ≤ 5 from by unfold lst; rw [List.length_map]; exact Nat.le_trans (List.length_filter_le ..) (by simp))
  have := Nat.pow_le_pow_right (n := 2) (by decide) h1
  omega
theorem meet_all {a b : List Int} (ha : chk a = true) (hb : chk b = true) : meet a b = true ↔ MtAll a b (2 ^ a.length) := by
  obtain ⟨m, m0, m1, rfl⟩ := chk_ml ha
  obtain ⟨n, n0, n1, rfl⟩ := chk_ml hb
  unfold meet MtAll
  rw [ha, hb, pk3 m m1 n n1]
  simp only [Bool.true_and, decide_eq_true_eq]
  constructor
  · intro h x hx y hy
    obtain ⟨x1, x2, x3⟩ := pk1 m m1 x (pow_le m hx)
    obtain ⟨y1, y2, y3⟩ := pk1 n n1 y (pow_le n hy)
    unfold mtB
    rw [x1, y1, pk2 _ x3 _ y3]
    by_cases h1 : most (lst m) ≤ (lst (pick m x)).length
    · by_cases h2 : most (lst n) ≤ (lst (pick n y)).length
      · have h3 := meet_sound m1 n1 x3 y3 x2 y2 h1 h2 h
        simp [h3]
      · simp [h2]
    · simp [h1]
  · intro h
    rcases Nat.lt_or_ge (lst (m ||| n)).length (most (lst m) + most (lst n)) with e | e
    · exact e
    · exfalso
      obtain ⟨p, p1, q, q1, e2, p2, q2, p3, q3⟩ := pk7 m m1 n n1 m0 n0 e
      obtain ⟨x, hx, ex⟩ := pk6 m m1 p p1 p2
      obtain ⟨y, hy, ey⟩ := pk6 n n1 q q1 q2
      have h3 := h x hx y hy
      unfold mtB at h3
      rw [ex, ey, pk2 p p1 q q1] at h3
      simp [p3, q3, e2] at h3

end Go.Proofs.Ytdoiknfpgmglaaa
