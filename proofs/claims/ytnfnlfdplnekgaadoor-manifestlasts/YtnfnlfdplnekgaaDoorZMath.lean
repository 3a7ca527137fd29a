/-
  Filters as lists of bytes: hashes, the places of a key, bits that are set, what a filter of keys is.
-/
import Derived.Test.YtnfnlfdplnekgaaDoorAid
namespace Go.Proofs.YtnfnlfdplnekgaaDoor.Bl

/-- A step of a hash. -/
def hst (h : Nat) (b : UInt8) : Nat := ((h ^^^ b.toNat) * 1099511628211) % 18446744073709551616
/-- The hash of bytes, from a number on. -/
def hsh (f : Nat) (l : List UInt8) : Nat := l.foldl hst f
theorem hst_lt (h : Nat) (b : UInt8) : hst h b < 18446744073709551616 := Nat.mod_lt _ (by decide)
theorem hsh_lt {f : Nat} (hf : f < 18446744073709551616) (l : List UInt8) : hsh f l < 18446744073709551616 := by
  unfold hsh
  induction l generalizing f with
  | nil => exact hf
  | cons b l ih => exact ih (hst_lt f b)
theorem hsh_succ (f : Nat) {l : List UInt8} {i : Nat} (h : i < l.length) : hsh f (l.take (i + 1)) = hst (hsh f (l.take i)) l[i] := by
  unfold hsh
  rw [List.take_succ_eq_append_getElem h, List.foldl_append, List.foldl_cons, List.foldl_nil]
abbrev hA (s : List UInt8) : Nat := hsh 14695981039346656037 s
abbrev hB (s : List UInt8) : Nat := hsh 9521554427338878180 s
theorem hA_lt (s : List UInt8) : hA s < 18446744073709551616 := hsh_lt (by decide) s
theorem hB_lt (s : List UInt8) : hB s < 18446744073709551616 := hsh_lt (by decide) s

/-- What is added up to the i-th place. -/
def pll (s : List UInt8) (i : Nat) : Nat := (hA s + i * hB s) % 18446744073709551616
theorem pll_lt (s : List UInt8) (i : Nat) : pll s i < 18446744073709551616 := Nat.mod_lt _ (by decide)
theorem pll_zero (s : List UInt8) : pll s 0 = hA s := by
  unfold pll
  rw [Nat.zero_mul, Nat.add_zero, Nat.mod_eq_of_lt (hA_lt s)]
theorem pll_succ (s : List UInt8) (i : Nat) : pll s (i + 1) = (pll s i + hB s) % 18446744073709551616 := by
  unfold pll
  rw [Nat.add_mul, Nat.one_mul, ← Nat.add_assoc, Nat.mod_add_mod]
/-- The i-th place of a key among m bits. -/
def plc (s : List UInt8) (m i : Nat) : Nat := pll s i % m
theorem plc_lt (s : List UInt8) {m : Nat} (hm : 0 < m) (i : Nat) : plc s m i < m := Nat.mod_lt _ hm
def plcs (s : List UInt8) (k m : Nat) : List Nat := (List.range k).map (plc s m)
theorem plcs_length (s : List UInt8) (k m : Nat) : (plcs s k m).length = k := by simp [plcs]
theorem plcs_lt {s : List UInt8} {k m p : Nat} (hm : 0 < m) (h : p ∈ plcs s k m) : p < m := by
  unfold plcs at h
  obtain ⟨i, _, rfl⟩ := List.mem_map.1 h
  exact plc_lt s hm i
theorem plcs_get {s : List UInt8} {k m i : Nat} (h : i < k) : (plcs s k m)[i]'(by rw [plcs_length]; exact h) = plc s m i := by simp [plcs]
theorem plcs_succ (s : List UInt8) (k m : Nat) : plcs s (k + 1) m = plcs s k m ++ [plc s m k] := by
  simp [plcs, List.range_succ]
theorem plcs_take {s : List UInt8} {k m i : Nat} (h : i ≤ k) : (plcs s k m).take i = plcs s i m := by
  unfold plcs
  rw [← List.map_take, List.take_range, Nat.min_eq_left h]

/-- The byte that is worth a bit. -/
def bitV (p : Nat) : UInt8 := UInt8.ofNat (2 ^ (p % 8))
theorem bitV_nat (p : Nat) : (bitV p).toNat = 2 ^ (p % 8) := by
  have h : p % 8 < 8 := Nat.mod_lt _ (by decide)
  unfold bitV
  generalize p % 8 = r at *
  have : ∀ r, r < 8 → (UInt8.ofNat (2 ^ r)).toNat = 2 ^ r := by decide
  exact this r h
/-- A bit is set. -/
def orB (L : List UInt8) (p : Nat) : List UInt8 := L.modify (p / 8) (fun b => b ||| bitV p)
def orL (L : List UInt8) (ps : List Nat) : List UInt8 := ps.foldl orB L
def hasB (L : List UInt8) (p : Nat) : Bool := (L.getD (p / 8) 0).toNat.testBit (p % 8)
theorem orB_length (L : List UInt8) (p : Nat) : (orB L p).length = L.length := by simp [orB]
theorem orL_length (L : List UInt8) (ps : List Nat) : (orL L ps).length = L.length := by
  unfold orL
  induction ps generalizing L with
  | nil => rfl
  | cons p ps ih => rw [List.foldl_cons, ih, orB_length]
theorem orL_append (L : List UInt8) (a b : List Nat) : orL L (a ++ b) = orL (orL L a) b := by simp [orL]
theorem orL_one (L : List UInt8) (p : Nat) : orL L [p] = orB L p := rfl
theorem hasB_orB {L : List UInt8} {p : Nat} (h : p < 8 * L.length) (q : Nat) : hasB (orB L p) q = (hasB L q || decide (q = p)) := by
  have hp : p / 8 < L.length := by omega
  unfold hasB orB
  rw [List.getD_eq_getElem?_getD, List.getD_eq_getElem?_getD, List.getElem?_modify]
  by_cases e : p / 8 = q / 8
  · rw [← e, List.getElem?_eq_getElem hp]
    simp only [if_true, Option.map_eq_map, Option.map_some, Option.getD_some, UInt8.toNat_or, bitV_nat, Nat.testBit_or]
    congr 1
    rw [Nat.testBit_two_pow]
    by_cases e2 : p % 8 = q % 8
    · have : q = p := by omega
      simp [this]
    · have : ¬ q = p := by omega
      simp [this, e2]
  · have : ¬ q = p := fun e2 => e (by rw [e2])
    simp [this, e]
theorem hasB_orL {L : List UInt8} {ps : List Nat} (h : ∀ p ∈ ps, p < 8 * L.length) (q : Nat) : hasB (orL L ps) q = (hasB L q || decide (q ∈ ps)) := by
  unfold orL
  induction ps generalizing L with
  | nil => simp
  | cons p ps ih =>
    rw [List.foldl_cons, ih (fun x hx => by rw [orB_length]; exact h x (List.mem_cons_of_mem _ hx)), hasB_orB (h p List.mem_cons_self)]
    by_cases e : q = p <;> by_cases e2 : q ∈ ps <;> simp [e, e2]
    all_goals (subst e; simp_all)
theorem hasB_zero (n q : Nat) : hasB (List.replicate n 0) q = false := by
  unfold hasB
  rw [List.getD_eq_getElem?_getD, List.getElem?_replicate]
  split <;> simp
theorem byte_ext {a b : UInt8} (h : ∀ i, i < 8 → a.toNat.testBit i = b.toNat.testBit i) : a = b := by
  apply UInt8.toNat_inj.1
  apply Nat.eq_of_testBit_eq
  intro i
  by_cases hi : i < 8
  · exact h i hi
  · have ha := a.toNat_lt
    have hb := b.toNat_lt
    have hp : (2 : Nat) ^ 8 ≤ 2 ^ i := Nat.pow_le_pow_right (by decide) (by omega)
    rw [Nat.testBit_lt_two_pow (by omega), Nat.testBit_lt_two_pow (by omega)]
theorem hasB_at {L : List UInt8} {i j : Nat} (h : i < L.length) (hj : j < 8) : hasB L (8 * i + j) = L[i].toNat.testBit j := by
  unfold hasB
  have e1 : (8 * i + j) / 8 = i := by omega
  have e2 : (8 * i + j) % 8 = j := by omega
  rw [e1, e2, List.getD_eq_getElem?_getD, List.getElem?_eq_getElem h]
  rfl
theorem bits_ext {L M : List UInt8} (hl : L.length = M.length) (h : ∀ q, hasB L q = hasB M q) : L = M := by
  apply List.ext_getElem hl
  intro i h1 h2
  apply byte_ext
  intro j hj
  rw [← hasB_at h1 hj, ← hasB_at h2 hj]
  exact h _
theorem bits_sub {L M : List UInt8} (h : ∀ q, hasB L q = true → hasB M q = true) {i : Nat} (h1 : i < L.length) (h2 : i < M.length) : L[i].toNat &&& (255 - M[i].toNat) = 0 := by
  apply Nat.eq_of_testBit_eq
  intro j
  rw [Nat.testBit_and, Nat.zero_testBit]
  by_cases hj : j < 8
  · have e : (255 - M[i].toNat).testBit j = !(M[i].toNat.testBit j) := by
      have hm := M[i].toNat_lt
      have e : (255 - M[i].toNat) = 2 ^ 8 - (M[i].toNat + 1) := by omega
      rw [e, Nat.testBit_two_pow_sub_succ (by omega)]
      simp [hj]
    rw [e, ← hasB_at h1 hj, ← hasB_at h2 hj]
    have := h (8 * i + j)
    cases h3 : hasB L (8 * i + j) with
    | false => rfl
    | true => rw [this h3]; rfl
  · have ha := L[i].toNat_lt
    have hp : (2 : Nat) ^ 8 ≤ 2 ^ j := Nat.pow_le_pow_right (by decide) (by omega)
    rw [Nat.testBit_lt_two_pow (by omega)]
    rfl

/-- How many places a key has; how many bytes stand behind. -/
def kk (b : Nat) : Nat := min (max (b * 69 / 100) 1) 8
def szz (b n : Nat) : Nat := max ((b * n + 7) / 8) 8
theorem kk_pos (b : Nat) : 1 ≤ kk b := by unfold kk; omega
theorem kk_le (b : Nat) : kk b ≤ 8 := by unfold kk; omega
theorem szz_pos (b n : Nat) : 8 ≤ szz b n := by unfold szz; omega
theorem szz_le {b n : Nat} (hb : b ≤ 32) (hn : n ≤ 32768) : szz b n ≤ 131072 := by
  have : b * n ≤ 32 * 32768 := Nat.mul_le_mul hb hn
  unfold szz; omega
/-- The places of all keys. -/
def allP (ks : List (List UInt8)) (k m : Nat) : List Nat := ks.flatMap fun s => plcs s k m
theorem allP_succ {ks : List (List UInt8)} {i : Nat} (h : i < ks.length) (k m : Nat) : allP (ks.take (i + 1)) k m = allP (ks.take i) k m ++ plcs ks[i] k m := by
  unfold allP
  rw [List.take_succ_eq_append_getElem h, List.flatMap_append]
  simp
theorem allP_lt {ks : List (List UInt8)} {k m p : Nat} (hm : 0 < m) (h : p ∈ allP ks k m) : p < m := by
  unfold allP at h
  obtain ⟨s, _, hp⟩ := List.mem_flatMap.1 h
  exact plcs_lt hm hp
/-- What stands behind k. -/
def bodF (ks : List (List UInt8)) (k z : Nat) : List UInt8 := orL (List.replicate z 0) (allP ks k (8 * z))
/-- A filter of keys. -/
def mkF (ks : List (List UInt8)) (b : Nat) : List UInt8 := UInt8.ofNat (kk b) :: bodF ks (kk b) (szz b ks.length)
theorem bodF_length (ks : List (List UInt8)) (k z : Nat) : (bodF ks k z).length = z := by unfold bodF; rw [orL_length, List.length_replicate]
theorem mkF_length (ks : List (List UInt8)) (b : Nat) : (mkF ks b).length = 1 + szz b ks.length := by unfold mkF; rw [List.length_cons, bodF_length]; omega
theorem kk_nat (b : Nat) : (UInt8.ofNat (kk b)).toNat = kk b := by
  have := kk_le b
  generalize kk b = r at *
  have h : ∀ r, r ≤ 8 → (UInt8.ofNat r).toNat = r := by decide
  exact h r this
theorem hasB_bodF (ks : List (List UInt8)) {k z : Nat} (hz : 0 < z) (q : Nat) : hasB (bodF ks k z) q = decide (q ∈ allP ks k (8 * z)) := by
  unfold bodF
  rw [hasB_orL (fun p hp => by rw [List.length_replicate]; exact allP_lt (by omega) hp), hasB_zero, Bool.false_or]

/-- Is it a filter? -/
def isF (f : List UInt8) : Bool := decide (9 ≤ f.length) && decide (f.length ≤ 131073) && decide (1 ≤ (f.getD 0 0).toNat) && decide ((f.getD 0 0).toNat ≤ 8)
/-- Whether a filter has a key. -/
def hasF (f s : List UInt8) : Bool := !isF f || (plcs s (f.getD 0 0).toNat (8 * (f.length - 1))).all fun p => hasB f.tail p
theorem isF_mk {ks : List (List UInt8)} {b : Nat} (hb : b ≤ 32) (hn : ks.length ≤ 32768) : isF (mkF ks b) = true := by
  unfold isF
  rw [mkF_length]
  have h1 := szz_pos b ks.length
  have h2 := szz_le hb hn
  have h3 : ((mkF ks b).getD 0 0).toNat = kk b := kk_nat b
  rw [h3]
  have := kk_pos b
  have := kk_le b
  simp
  omega
theorem hasF_mk {ks : List (List UInt8)} {b : Nat} {s : List UInt8} (hs : s ∈ ks) : hasF (mkF ks b) s = true := by
  unfold hasF
  have h3 : ((mkF ks b).getD 0 0).toNat = kk b := kk_nat b
  rw [h3, mkF_length, Nat.add_sub_cancel_left]
  rw [Bool.or_eq_true]
  right
  rw [List.all_eq_true]
  intro p hp
  show hasB (bodF ks (kk b) (szz b ks.length)) p = true
  rw [hasB_bodF ks (by have := szz_pos b ks.length; omega)]
  simp only [decide_eq_true_eq]
  exact List.mem_flatMap.2 ⟨s, hs, hp⟩
/-- The order of keys changes nothing. -/
theorem mkF_same {ks js : List (List UInt8)} (b : Nat) (hl : ks.length = js.length) (h : ∀ s, s ∈ ks ↔ s ∈ js) : mkF ks b = mkF js b := by
  unfold mkF
  rw [← hl]
  congr 1
  refine bits_ext (by rw [bodF_length, bodF_length]) fun q => ?_
  have hz : 0 < szz b ks.length := by have := szz_pos b ks.length; omega
  rw [hasB_bodF ks hz, hasB_bodF js hz]
  congr 1
  unfold allP
  rw [List.mem_flatMap, List.mem_flatMap]
  exact propext ⟨fun ⟨s, h1, h2⟩ => ⟨s, (h s).1 h1, h2⟩, fun ⟨s, h1, h2⟩ => ⟨s, (h s).2 h1, h2⟩⟩
/-- Of fewer keys there are no more bits. -/
theorem mkF_sub {ks js : List (List UInt8)} (b : Nat) (hl : js.length = ks.length) (h : ∀ s, s ∈ js → s ∈ ks) {i : Nat} (h1 : i < (mkF js b).length) (h2 : i < (mkF ks b).length) (hi : 0 < i) : (mkF js b)[i].toNat &&& (255 - (mkF ks b)[i].toNat) = 0 := by
  obtain ⟨j, rfl⟩ : ∃ j, i = j + 1 := ⟨i - 1, by omega⟩
  have hg : ∀ (l : List (List UInt8)) (h : j + 1 < (mkF l b).length), (mkF l b)[j + 1] = (bodF l (kk b) (szz b l.length))[j]'(by rw [mkF_length] at h; rw [bodF_length]; omega) := fun l h => by simp only [mkF, List.getElem_cons_succ]
  rw [hg js h1, hg ks h2]
  have hz : 0 < szz b ks.length := by have := szz_pos b ks.length; omega
  refine bits_sub (fun q => ?_) _ _
  rw [hl, hasB_bodF ks hz, hasB_bodF js hz]
  simp only [decide_eq_true_eq]
  unfold allP
  rw [List.mem_flatMap, List.mem_flatMap]
  exact fun ⟨s, h1, h2⟩ => ⟨s, h s h1, h2⟩

/-- A bit of a byte, by its worth. -/
theorem and_bit (b : UInt8) (p : Nat) : (b.toNat &&& 2 ^ (p % 8) = 0) ↔ b.toNat.testBit (p % 8) = false := by
  generalize p % 8 = r
  constructor
  · intro h
    have := congrArg (fun x => x.testBit r) h
    simpa [Nat.testBit_and, Nat.testBit_two_pow] using this
  · intro h
    apply Nat.eq_of_testBit_eq
    intro i
    rw [Nat.testBit_and, Nat.testBit_two_pow, Nat.zero_testBit]
    by_cases e : r = i
    · subst e
      simp [h]
    · simp [e]
theorem shr_bit (b : UInt8) (r : Nat) : (b.toNat / 2 ^ r) % 2 = (b.toNat.testBit r).toNat := by
  rw [Nat.testBit_eq_decide_div_mod_eq]
  have := Nat.mod_two_eq_zero_or_one (b.toNat / 2 ^ r)
  rcases this with h | h <;> simp [h]

end Go.Proofs.YtnfnlfdplnekgaaDoor.Bl
