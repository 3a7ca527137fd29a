/-
  Filters as lists of bytes: hashes, the places of a key, bits that are set, what a filter of keys is.
  A table's bytes, as lists: the names of places, the index, the filter, the footer; that they are those of one row of blocks alone.
  Which blocks are read of bodies, as lists; how cells are cut into blocks.
-/
import Derived.Test.YtmpnofbhbglfpaaGreatDoorAid
import Derived.Test.YtmpnofbhbglfpaaGreatDoorGEBld
import Derived.Test.YtmpnofbhbglfpaaGreatDoorGQRowMath
namespace Go.Proofs.YtmpnofbhbglfpaaGreatDoor.Bl

/-- A step of a hash. -/
def hst (h : Nat) (b : UInt8) : Nat := ((h ^^^ b.toNat) * 1099511628211) % 18446744073709551616
/-- The hash of bytes, from a number on. -/
def hsh (f : Nat) (l : List UInt8) : Nat := l.foldl hst f
theorem hst_lt (h : Nat) (b : UInt8) : hst h b < 18446744073709551616 := Nat.mod_lt _ (by decide)
theorem hsh_lt {f : Nat} (hf : f < 18446744073709551616) (l : List UInt8) : hsh f l < 18446744073709551616 := by
  unfold hsh
  induction l generalizing f with
  | nil => exact hf
  | cons b l ih => exact ih (hst_lt f b)
theorem hsh_succ (f : Nat) {l : List UInt8} {i : Nat} (h : i < l.length) : hsh f (l.take (i + 1)) = hst (hsh f (l.take i)) l[i] := by
  unfold hsh
  rw [List.take_succ_eq_append_getElem h, List.foldl_append, List.foldl_cons, List.foldl_nil]
abbrev hA (s : List UInt8) : Nat := hsh 14695981039346656037 s
abbrev hB (s : List UInt8) : Nat := hsh 9521554427338878180 s
theorem hA_lt (s : List UInt8) : hA s < 18446744073709551616 := hsh_lt (by decide) s
theorem hB_lt (s : List UInt8) : hB s < 18446744073709551616 := hsh_lt (by decide) s

/-- What is added up to the i-th place. -/
def pll (s : List UInt8) (i : Nat) : Nat := (hA s + i * hB s) % 18446744073709551616
theorem pll_lt (s : List UInt8) (i : Nat) : pll s i < 18446744073709551616 := Nat.mod_lt _ (by decide)
theorem pll_zero (s : List UInt8) : pll s 0 = hA s := by
  unfold pll
  rw [Nat.zero_mul, Nat.add_zero, Nat.mod_eq_of_lt (hA_lt s)]
theorem pll_succ (s : List UInt8) (i : Nat) : pll s (i + 1) = (pll s i + hB s) % 18446744073709551616 := by
  unfold pll
  rw [Nat.add_mul, Nat.one_mul, ← Nat.add_assoc, Nat.mod_add_mod]
/-- The i-th place of a key among m bits. -/
def plc (s : List UInt8) (m i : Nat) : Nat := pll s i % m
theorem plc_lt (s : List UInt8) {m : Nat} (hm : 0 < m) (i : Nat) : plc s m i < m := Nat.mod_lt _ hm
def plcs (s : List UInt8) (k m : Nat) : List Nat := (List.range k).map (plc s m)
theorem plcs_length (s : List UInt8) (k m : Nat) : (plcs s k m).length = k := by simp [plcs]
theorem plcs_lt {s : List UInt8} {k m p : Nat} (hm : 0 < m) (h : p ∈ plcs s k m) : p < m := by
  unfold plcs at h
  obtain ⟨i, _, rfl⟩ := List.mem_map.1 h
  exact plc_lt s hm i
theorem plcs_get {s : List UInt8} {k m i : Nat} (h : i < k) : (plcs s k m)[i]'(by rw [plcs_length]; exact h) = plc s m i := by simp [plcs]
theorem plcs_succ (s : List UInt8) (k m : Nat) : plcs s (k + 1) m = plcs s k m ++ [plc s m k] := by
  simp [plcs, List.range_succ]
theorem plcs_take {s : List UInt8} {k m i : Nat} (h : i ≤ k) : (plcs s k m).take i = plcs s i m := by
  unfold plcs
  rw [← List.map_take, List.take_range, Nat.min_eq_left h]

/-- The byte that is worth a bit. -/
def bitV (p : Nat) : UInt8 := UInt8.ofNat (2 ^ (p % 8))
theorem bitV_nat (p : Nat) : (bitV p).toNat = 2 ^ (p % 8) := by
  have h : p % 8 < 8 := Nat.mod_lt _ (by decide)
  unfold bitV
  generalize p % 8 = r at *
  have : ∀ r, r < 8 → (UInt8.ofNat (2 ^ r)).toNat = 2 ^ r := by decide
  exact this r h
/-- A bit is set. -/
def orB (L : List UInt8) (p : Nat) : List UInt8 := L.modify (p / 8) (fun b => b ||| bitV p)
def orL (L : List UInt8) (ps : List Nat) : List UInt8 := ps.foldl orB L
def hasB (L : List UInt8) (p : Nat) : Bool := (L.getD (p / 8) 0).toNat.testBit (p % 8)
theorem orB_length (L : List UInt8) (p : Nat) : (orB L p).length = L.length := by simp [orB]
theorem orL_length (L : List UInt8) (ps : List Nat) : (orL L ps).length = L.length := by
  unfold orL
  induction ps generalizing L with
  | nil => rfl
  | cons p ps ih => rw [List.foldl_cons, ih, orB_length]
theorem orL_append (L : List UInt8) (a b : List Nat) : orL L (a ++ b) = orL (orL L a) b := by simp [orL]
theorem orL_one (L : List UInt8) (p : Nat) : orL L [p] = orB L p := rfl
theorem hasB_orB {L : List UInt8} {p : Nat} (h : p < 8 * L.length) (q : Nat) : hasB (orB L p) q = (hasB L q || decide (q = p)) := by
  have hp : p / 8 < L.length := by omega
  unfold hasB orB
  rw [List.getD_eq_getElem?_getD, List.getD_eq_getElem?_getD, List.getElem?_modify]
  by_cases e : p / 8 = q / 8
  · rw [← e, List.getElem?_eq_getElem hp]
    simp only [if_true, Option.map_eq_map, Option.map_some, Option.getD_some, UInt8.toNat_or, bitV_nat, Nat.testBit_or]
    congr 1
    rw [Nat.testBit_two_pow]
    by_cases e2 : p % 8 = q % 8
    · have : q = p := by omega
      simp [this]
    · have : ¬ q = p := by omega
      simp [this, e2]
  · have : ¬ q = p := fun e2 => e (by rw [e2])
    simp [this, e]
theorem hasB_orL {L : List UInt8} {ps : List Nat} (h : ∀ p ∈ ps, p < 8 * L.length) (q : Nat) : hasB (orL L ps) q = (hasB L q || decide (q ∈ ps)) := by
  unfold orL
  induction ps generalizing L with
  | nil => simp
  | cons p ps ih =>
    rw [List.foldl_cons, ih (fun x hx => by rw [orB_length]; exact h x (List.mem_cons_of_mem _ hx)), hasB_orB (h p List.mem_cons_self)]
    by_cases e : q = p <;> by_cases e2 : q ∈ ps <;> simp [e, e2]
    all_goals (subst e; simp_all)
theorem hasB_zero (n q : Nat) : hasB (List.replicate n 0) q = false := by
  unfold hasB
  rw [List.getD_eq_getElem?_getD, List.getElem?_replicate]
  split <;> simp
theorem byte_ext {a b : UInt8} (h : ∀ i, i < 8 → a.toNat.testBit i = b.toNat.testBit i) : a = b := by
  apply UInt8.toNat_inj.1
  apply Nat.eq_of_testBit_eq
  intro i
  by_cases hi : i < 8
  · exact h i hi
  · have ha := a.toNat_lt
    have hb := b.toNat_lt
    have hp : (2 : Nat) ^ 8 ≤ 2 ^ i := Nat.pow_le_pow_right (by decide) (by omega)
    rw [Nat.testBit_lt_two_pow (by omega), Nat.testBit_lt_two_pow (by omega)]
theorem hasB_at {L : List UInt8} {i j : Nat} (h : i < L.length) (hj : j < 8) : hasB L (8 * i + j) = L[i].toNat.testBit j := by
  unfold hasB
  have e1 : (8 * i + j) / 8 = i := by omega
  have e2 : (8 * i + j) % 8 = j := by omega
  rw [e1, e2, List.getD_eq_getElem?_getD, List.getElem?_eq_getElem h]
  rfl
theorem bits_ext {L M : List UInt8} (hl : L.length = M.length) (h : ∀ q, hasB L q = hasB M q) : L = M := by
  apply List.ext_getElem hl
  intro i h1 h2
  apply byte_ext
  intro j hj
  rw [← hasB_at h1 hj, ← hasB_at h2 hj]
  exact h _
theorem bits_sub {L M : List UInt8} (h : ∀ q, hasB L q = true → hasB M q = true) {i : Nat} (h1 : i < L.length) (h2 : i < M.length) : L[i].toNat &&& (255 - M[i].toNat) = 0 := by
  apply Nat.eq_of_testBit_eq
  intro j
  rw [Nat.testBit_and, Nat.zero_testBit]
  by_cases hj : j < 8
  · have e : (255 - M[i].toNat).testBit j = !(M[i].toNat.testBit j) := by
      have hm := M[i].toNat_lt
      have e : (255 - M[i].toNat) = 2 ^ 8 - (M[i].toNat + 1) := by omega
      rw [e, Nat.testBit_two_pow_sub_succ (by omega)]
      simp [hj]
    rw [e, ← hasB_at h1 hj, ← hasB_at h2 hj]
    have := h (8 * i + j)
    cases h3 : hasB L (8 * i + j) with
    | false => rfl
    | true => rw [this h3]; rfl
  · have ha := L[i].toNat_lt
    have hp : (2 : Nat) ^ 8 ≤ 2 ^ j := Nat.pow_le_pow_right (by decide) (by omega)
    rw [Nat.testBit_lt_two_pow (by omega)]
    rfl

/-- How many places a key has; how many bytes stand behind. -/
def kk (b : Nat) : Nat := min (max (b * 69 / 100) 1) 8
def szz (b n : Nat) : Nat := max ((b * n + 7) / 8) 8
theorem kk_pos (b : Nat) : 1 ≤ kk b := by unfold kk; omega
theorem kk_le (b : Nat) : kk b ≤ 8 := by unfold kk; omega
theorem szz_pos (b n : Nat) : 8 ≤ szz b n := by unfold szz; omega
theorem szz_le {b n : Nat} (hb : b ≤ 32) (hn : n ≤ 32768) : szz b n ≤ 131072 := by
  have : b * n ≤ 32 * 32768 := Nat.mul_le_mul hb hn
  unfold szz; omega
/-- The places of all keys. -/
def allP (ks : List (List UInt8)) (k m : Nat) : List Nat := ks.flatMap fun s => plcs s k m
theorem allP_succ {ks : List (List UInt8)} {i : Nat} (h : i < ks.length) (k m : Nat) : allP (ks.take (i + 1)) k m = allP (ks.take i) k m ++ plcs ks[i] k m := by
  unfold allP
  rw [List.take_succ_eq_append_getElem h, List.flatMap_append]
  simp
theorem allP_lt {ks : List (List UInt8)} {k m p : Nat} (hm : 0 < m) (h : p ∈ allP ks k m) : p < m := by
  unfold allP at h
  obtain ⟨s, _, hp⟩ := List.mem_flatMap.1 h
  exact plcs_lt hm hp
/-- What stands behind k. -/
def bodF (ks : List (List UInt8)) (k z : Nat) : List UInt8 := orL (List.replicate z 0) (allP ks k (8 * z))
/-- A filter of keys. -/
def mkF (ks : List (List UInt8)) (b : Nat) : List UInt8 := UInt8.ofNat (kk b) :: bodF ks (kk b) (szz b ks.length)
theorem bodF_length (ks : List (List UInt8)) (k z : Nat) : (bodF ks k z).length = z := by unfold bodF; rw [orL_length, List.length_replicate]
theorem mkF_length (ks : List (List UInt8)) (b : Nat) : (mkF ks b).length = 1 + szz b ks.length := by unfold mkF; rw [List.length_cons, bodF_length]; omega
theorem kk_nat (b : Nat) : (UInt8.ofNat (kk b)).toNat = kk b := by
  have := kk_le b
  generalize kk b = r at *
  have h : ∀ r, r ≤ 8 → (UInt8.ofNat r).toNat = r := by decide
  exact h r this
theorem hasB_bodF (ks : List (List UInt8)) {k z : Nat} (hz : 0 < z) (q : Nat) : hasB (bodF ks k z) q = decide (q ∈ allP ks k (8 * z)) := by
  unfold bodF
  rw [hasB_orL (fun p hp => by rw [List.length_replicate]; exact allP_lt (by omega) hp), hasB_zero, Bool.false_or]

/-- Is it a filter? -/
def isF (f : List UInt8) : Bool := decide (9 ≤ f.length) && decide (f.length ≤ 131073) && decide (1 ≤ (f.getD 0 0).toNat) && decide ((f.getD 0 0).toNat ≤ 8)
/-- Whether a filter has a key. -/
def hasF (f s : List UInt8) : Bool := !isF f || (plcs s (f.getD 0 0).toNat (8 * (f.length - 1))).all fun p => hasB f.tail p
theorem isF_mk {ks : List (List UInt8)} {b : Nat} (hb : b ≤ 32) (hn : ks.length ≤ 32768) : isF (mkF ks b) = true := by
  unfold isF
  rw [mkF_length]
  have h1 := szz_pos b ks.length
  have h2 := szz_le hb hn
  have h3 : ((mkF ks b).getD 0 0).toNat = kk b := kk_nat b
  rw [h3]
  have := kk_pos b
  have := kk_le b
  simp
  omega
theorem hasF_mk {ks : List (List UInt8)} {b : Nat} {s : List UInt8} (hs : s ∈ ks) : hasF (mkF ks b) s = true := by
  unfold hasF
  have h3 : ((mkF ks b).getD 0 0).toNat = kk b := kk_nat b
  rw [h3, mkF_length, Nat.add_sub_cancel_left]
  rw [Bool.or_eq_true]
  right
  rw [List.all_eq_true]
  intro p hp
  show hasB (bodF ks (kk b) (szz b ks.length)) p = true
  rw [hasB_bodF ks (by have := szz_pos b ks.length; omega)]
  simp only [decide_eq_true_eq]
  exact List.mem_flatMap.2 ⟨s, hs, hp⟩
/-- The order of keys changes nothing. -/
theorem mkF_same {ks js : List (List UInt8)} (b : Nat) (hl : ks.length = js.length) (h : ∀ s, s ∈ ks ↔ s ∈ js) : mkF ks b = mkF js b := by
  unfold mkF
  rw [← hl]
  congr 1
  refine bits_ext (by rw [bodF_length, bodF_length]) fun q => ?_
  have hz : 0 < szz b ks.length := by have := szz_pos b ks.length; omega
  rw [hasB_bodF ks hz, hasB_bodF js hz]
  congr 1
  unfold allP
  rw [List.mem_flatMap, List.mem_flatMap]
  exact propext ⟨fun ⟨s, h1, h2⟩ => ⟨s, (h s).1 h1, h2⟩, fun ⟨s, h1, h2⟩ => ⟨s, (h s).2 h1, h2⟩⟩
/-- Of fewer keys there are no more bits. -/
theorem mkF_sub {ks js : List (List UInt8)} (b : Nat) (hl : js.length = ks.length) (h : ∀ s, s ∈ js → s ∈ ks) {i : Nat} (h1 : i < (mkF js b).length) (h2 : i < (mkF ks b).length) (hi : 0 < i) : (mkF js b)[i].toNat &&& (255 - (mkF ks b)[i].toNat) = 0 := by
  obtain ⟨j, rfl⟩ : ∃ j, i = j + 1 := ⟨i - 1, by omega⟩
  have hg : ∀ (l : List (List UInt8)) (h : j + 1 < (mkF l b).length), (mkF l b)[j + 1] = (bodF l (kk b) (szz b l.length))[j]'(by rw [mkF_length] at h; rw [bodF_length]; omega) := fun l h => by simp only [mkF, List.getElem_cons_succ]
  rw [hg js h1, hg ks h2]
  have hz : 0 < szz b ks.length := by have := szz_pos b ks.length; omega
  refine bits_sub (fun q => ?_) _ _
  rw [hl, hasB_bodF ks hz, hasB_bodF js hz]
  simp only [decide_eq_true_eq]
  unfold allP
  rw [List.mem_flatMap, List.mem_flatMap]
  exact fun ⟨s, h1, h2⟩ => ⟨s, h s h1, h2⟩

/-- A bit of a byte, by its worth. -/
theorem and_bit (b : UInt8) (p : Nat) : (b.toNat &&& 2 ^ (p % 8) = 0) ↔ b.toNat.testBit (p % 8) = false := by
  generalize p % 8 = r
  constructor
  · intro h
    have := congrArg (fun x => x.testBit r) h
    simpa [Nat.testBit_and, Nat.testBit_two_pow] using this
  · intro h
    apply Nat.eq_of_testBit_eq
    intro i
    rw [Nat.testBit_and, Nat.testBit_two_pow, Nat.zero_testBit]
    by_cases e : r = i
    · subst e
      simp [h]
    · simp [e]
theorem shr_bit (b : UInt8) (r : Nat) : (b.toNat / 2 ^ r) % 2 = (b.toNat.testBit r).toNat := by
  rw [Nat.testBit_eq_decide_div_mod_eq]
  have := Nat.mod_two_eq_zero_or_one (b.toNat / 2 ^ r)
  rcases this with h | h <;> simp [h]

end Go.Proofs.YtmpnofbhbglfpaaGreatDoor.Bl

namespace Go.Proofs.YtmpnofbhbglfpaaGreatDoor
open Go.RowKit

/-- A place's key. -/
def keyL (r c : List UInt8) : List UInt8 := r ++ 0 :: c
/-- The place of a cell. -/
abbrev plP (c : Cl) : List UInt8 × List UInt8 := (c.row, c.col)
/-- The keys of the places of cells, each once, behind a place. -/
def nmsF : List UInt8 × List UInt8 → List Cl → List (List UInt8)
  | _, [] => []
  | p, c :: l => if plP c = p then nmsF p l else keyL c.row c.col :: nmsF (plP c) l
/-- The place of the last one. -/
def lsP : List UInt8 × List UInt8 → List Cl → List UInt8 × List UInt8
  | p, [] => p
  | _, c :: l => lsP (plP c) l
theorem lsP_append (p : List UInt8 × List UInt8) (a b : List Cl) : lsP p (a ++ b) = lsP (lsP p a) b := by
  induction a generalizing p with
  | nil => rfl
  | cons c a ih => exact ih _
theorem lsP_any {p q : List UInt8 × List UInt8} {l : List Cl} (h : l ≠ []) : lsP p l = lsP q l := by
  cases l with
  | nil => exact absurd rfl h
  | cons c l => rfl
theorem lsP_last (p : List UInt8 × List UInt8) {l : List Cl} (h : l ≠ []) : lsP p l = plP (l.getLast h) := by
  induction l generalizing p with
  | nil => exact absurd rfl h
  | cons c l ih =>
    cases l with
    | nil => rfl
    | cons d l => exact ih (plP c) (by simp)
theorem lsP_take {p : List UInt8 × List UInt8} {l : List Cl} {i : Nat} (h : i < l.length) : lsP p (l.take (i + 1)) = plP l[i] := by
  rw [List.take_succ_eq_append_getElem h, lsP_append]
  rfl
theorem nmsF_append (p : List UInt8 × List UInt8) (a b : List Cl) : nmsF p (a ++ b) = nmsF p a ++ nmsF (lsP p a) b := by
  induction a generalizing p with
  | nil => rfl
  | cons c a ih =>
    rw [List.cons_append, nmsF, nmsF]
    split
    · rename_i h
      rw [ih p]
      subst h
      rfl
    · rw [ih, List.cons_append]
      rfl
theorem nmsF_take_same {p : List UInt8 × List UInt8} {l : List Cl} {i : Nat} (h : i < l.length) (e : plP l[i] = lsP p (l.take i)) : nmsF p (l.take (i + 1)) = nmsF p (l.take i) := by
  rw [List.take_succ_eq_append_getElem h, nmsF_append, nmsF, if_pos e]
  simp [nmsF]
theorem nmsF_take_new {p : List UInt8 × List UInt8} {l : List Cl} {i : Nat} (h : i < l.length) (e : plP l[i] ≠ lsP p (l.take i)) : nmsF p (l.take (i + 1)) = nmsF p (l.take i) ++ [keyL l[i].row l[i].col] := by
  rw [List.take_succ_eq_append_getElem h, nmsF_append, nmsF, if_neg e]
  simp [nmsF]
theorem nmsF_len (p : List UInt8 × List UInt8) (l : List Cl) : (nmsF p l).length ≤ l.length := by
  induction l generalizing p with
  | nil => simp [nmsF]
  | cons c l ih =>
    rw [nmsF]
    split
    · have := ih p; simp; omega
    · have := ih (plP c); simp; omega
theorem mem_nmsF {p : List UInt8 × List UInt8} {l : List Cl} {c : Cl} (h : c ∈ l) (hp : plP c ≠ p) : keyL c.row c.col ∈ nmsF p l := by
  induction l generalizing p with
  | nil => cases h
  | cons d l ih =>
    rw [nmsF]
    rcases List.mem_cons.1 h with rfl | h
    · rw [if_neg hp]
      exact List.mem_cons_self
    · split
      · exact ih h hp
      · by_cases e : plP c = plP d
        · have e1 := congrArg Prod.fst e
          have e2 := congrArg Prod.snd e
          simp only at e1 e2
          rw [e1, e2]
          exact List.mem_cons_self
        · exact List.mem_cons_of_mem _ (ih h e)
/-- The names of a table. -/
def names (l : List Cl) : List (List UInt8) := nmsF ([], []) l
theorem nmsF_long {p : List UInt8 × List UInt8} {l : List Cl} (h : l.all okC = true) : ∀ s ∈ nmsF p l, s.length ≤ 49 := by
  induction l generalizing p with
  | nil => intro s hs; cases hs
  | cons c l ih =>
    rw [List.all_cons, Bool.and_eq_true] at h
    intro s hs
    rw [nmsF] at hs
    split at hs
    · exact ih h.2 s hs
    · rcases List.mem_cons.1 hs with rfl | hs
      · have := okC_len h.1
        unfold keyL
        rw [List.length_append, List.length_cons]
        omega
      · exact ih h.2 s hs

/-- A block's frame; the frames of blocks. -/
abbrev frB (B : List Cl) : List UInt8 := frm (blkB B)
def frs (Bs : List (List Cl)) : List UInt8 := fr (Bs.map blkB)
theorem frs_append (a b : List (List Cl)) : frs (a ++ b) = frs a ++ frs b := by unfold frs; rw [List.map_append, fr_append]
theorem frs_one (B : List Cl) : frs [B] = frB B := by unfold frs fr; simp
theorem frs_cons (B : List Cl) (Bs : List (List Cl)) : frs (B :: Bs) = frB B ++ frs Bs := by unfold frs; rw [List.map_cons, fr_cons]
/-- What the index says of a block. -/
def rowI (p : List UInt8 × List UInt8) (at_ size n : Nat) : List UInt8 := txt p.1 ++ (txt p.2 ++ (Lib.uvarint at_ ++ (Lib.uvarint size ++ Lib.uvarint n)))
def idxF : Nat → List (List Cl) → List UInt8
  | _, [] => []
  | n, B :: Bs => rowI (lsP ([], []) B) n (frB B).length B.length ++ idxF (n + (frB B).length) Bs
theorem idxF_append (n : Nat) (a b : List (List Cl)) : idxF n (a ++ b) = idxF n a ++ idxF (n + (frs a).length) b := by
  induction a generalizing n with
  | nil => simp [idxF, frs, fr_nil]
  | cons B a ih =>
    rw [List.cons_append, idxF, idxF, ih, frs_cons, List.length_append, List.append_assoc, Nat.add_assoc]
def idx (Bs : List (List Cl)) : List UInt8 := Lib.uvarint Bs.length ++ idxF 0 Bs
def flt (Bs : List (List Cl)) : List UInt8 := Bl.mkF (names Bs.flatten) 10
/-- A number in eight bytes, the highest first. -/
def be8 (n : Nat) : List UInt8 := be4 (n / 4294967296) ++ be4 (n % 4294967296)
theorem be8_length (n : Nat) : (be8 n).length = 8 := rfl
/-- A table's bytes. -/
def layT (Bs : List (List Cl)) : List UInt8 := frs Bs ++ (frm (idx Bs) ++ (frm (flt Bs) ++ (be8 (frs Bs).length ++ be8 ((frs Bs).length + (frm (idx Bs)).length))))
/-- A table's blocks. -/
structure GB (Bs : List (List Cl)) : Prop where
  good : ∀ B ∈ Bs, Good B ∧ B ≠ []
  asc : Asc Bs.flatten
/-- There is room for the index and the filter. -/
structure Room (Bs : List (List Cl)) : Prop where
  i : (idx Bs).length ≤ 1048576
  n : (names Bs.flatten).length ≤ 32768
  f : (frs Bs).length ≤ 4000000000

theorem Good.long {B : List Cl} (h : Good B) : (blkB B).length ≤ 1048576 := by have := h.len; omega
theorem GB.ok {Bs : List (List Cl)} (h : GB Bs) : Bs.flatten.all okC = true := by
  rw [List.all_eq_true]
  intro c hc
  obtain ⟨B, hB, hcB⟩ := List.mem_flatten.1 hc
  exact List.all_eq_true.1 (h.good B hB).1.ok c hcB
theorem GB.tail {B : List Cl} {Bs : List (List Cl)} (h : GB (B :: Bs)) : GB Bs := by
  refine ⟨fun X hX => h.good X (List.mem_cons_of_mem _ hX), ?_⟩
  have := h.asc
  rw [List.flatten_cons] at this
  exact (List.pairwise_append.1 this).2.1
theorem GB.left {a b : List (List Cl)} (h : GB (a ++ b)) : GB a := by
  refine ⟨fun X hX => h.good X (List.mem_append_left _ hX), ?_⟩
  have := h.asc
  rw [List.flatten_append] at this
  exact (List.pairwise_append.1 this).1
theorem GB.right {a b : List (List Cl)} (h : GB (a ++ b)) : GB b := by
  refine ⟨fun X hX => h.good X (List.mem_append_right _ hX), ?_⟩
  have := h.asc
  rw [List.flatten_append] at this
  exact (List.pairwise_append.1 this).2.1
theorem GB.nil : GB [] := ⟨fun _ h => (by cases h), by simp [Asc]⟩

/-- What eight bytes say. -/
def rd8 (l : List UInt8) : Nat := match l with
  | a :: b :: c :: d :: e :: f :: g :: h :: _ => rd4 a b c d * 4294967296 + rd4 e f g h
  | _ => 0
theorem rd8_be8 {n : Nat} (h : n < 18446744073709551616) (r : List UInt8) : rd8 (be8 n ++ r) = n := by
  show rd4 _ _ _ _ * 4294967296 + rd4 _ _ _ _ = n
  rw [rd4_be4 (by omega), rd4_be4 (by omega)]
  omega
/-- Where the blocks end, as the footer says. -/
def bEnd (s : List UInt8) : Nat := if s.length < 16 then 0 else if s.length - 16 < rd8 (s.drop (s.length - 16)) then 0 else rd8 (s.drop (s.length - 16))
theorem bEnd_le (s : List UInt8) : bEnd s ≤ s.length := by
  unfold bEnd
  split
  · omega
  · split <;> omega
theorem bEnd_lay (Bs : List (List Cl)) (h : Room Bs) : bEnd (layT Bs) = (frs Bs).length := by
  have hf := h.f
  have hl : (layT Bs).length = (frs Bs).length + (frm (idx Bs)).length + (frm (flt Bs)).length + 16 := by
    unfold layT
    simp only [List.length_append, be8_length]
    omega
  have hd : (layT Bs).drop ((layT Bs).length - 16) = be8 (frs Bs).length ++ be8 ((frs Bs).length + (frm (idx Bs)).length) := by
    have e : layT Bs = (frs Bs ++ (frm (idx Bs) ++ frm (flt Bs))) ++ (be8 (frs Bs).length ++ be8 ((frs Bs).length + (frm (idx Bs)).length)) := by unfold layT; simp only [List.append_assoc]
    conv => lhs; arg 2; rw [e]
    rw [List.drop_append_of_le_length (by rw [hl]; simp only [List.length_append]; omega), List.drop_of_length_le (by rw [hl]; simp only [List.length_append]; omega), List.nil_append]
  have hr := rd8_be8 (n := (frs Bs).length) (by omega) (be8 ((frs Bs).length + (frm (idx Bs)).length))
  rw [← hd] at hr
  unfold bEnd
  rw [hr, if_neg (by omega), if_neg (by omega)]
theorem bodies_lay (Bs : List (List Cl)) (h : Room Bs) (g : GB Bs) : scn ((layT Bs).take (bEnd (layT Bs))).length ((layT Bs).take (bEnd (layT Bs))) = Bs.map blkB := by
  have e : (layT Bs).take (bEnd (layT Bs)) = frs Bs := by
    rw [bEnd_lay Bs h]
    unfold layT
    rw [List.take_left]
  rw [e]
  have := scn_frames (Bs.map blkB) [] (frs Bs).length ?_ ?_ (opn_short (by simp))
  · rw [List.append_nil] at this
    exact this
  · unfold frs
    rw [fr_length]
    unfold totS
    have : ∀ l : List (List UInt8), l.length ≤ (l.map fun b => b.length + 8).sum := by
      intro l
      induction l with
      | nil => simp
      | cons a l ih => simp; omega
    exact this _
  · intro b hb
    obtain ⟨B, hB, rfl⟩ := List.mem_map.1 hb
    exact (g.good B hB).1.long

end Go.Proofs.YtmpnofbhbglfpaaGreatDoor

namespace Go.Proofs.YtmpnofbhbglfpaaGreatDoor
open Go.RowKit

open Classical in
/-- The cells of a block's bytes. -/
noncomputable def dec (s : List UInt8) : Option (List Cl) := if h : ∃ L, Good L ∧ blkB L = s then some h.choose else none
theorem dec_blk {L : List Cl} (h : Good L) : dec (blkB L) = some L := by
  have hx : ∃ M, Good M ∧ blkB M = blkB L := ⟨L, h, rfl⟩
  unfold dec
  rw [dif_pos hx]
  exact congrArg some (hx.choose_spec.1.inj h hx.choose_spec.2)
theorem dec_none {s : List UInt8} (h : ∀ L, Good L → blkB L ≠ s) : dec s = none := by
  unfold dec
  rw [dif_neg]
  rintro ⟨L, h1, h2⟩
  exact h L h1 h2
/-- Does a block stand behind the last cell of the one ahead? -/
def bhd : Option Cl → List Cl → Bool
  | none, _ => true
  | some x, c :: _ => decide (ccl x c < 0)
  | some _, [] => false
open Classical in
/-- The blocks that are read, one by one. -/
noncomputable def rdB : Option Cl → List (List UInt8) → List (List Cl)
  | _, [] => []
  | p, s :: r => match dec s with
    | none => []
    | some L => if L ≠ [] ∧ bhd p L = true then L :: rdB L.getLast? r else []
theorem rdB_yes {p : Option Cl} {L : List Cl} {r : List (List UInt8)} (h : Good L) (hn : L ≠ []) (hp : bhd p L = true) : rdB p (blkB L :: r) = L :: rdB L.getLast? r := by
  rw [rdB, dec_blk h]
  exact if_pos ⟨hn, hp⟩
theorem rdB_no {p : Option Cl} {L : List Cl} {r : List (List UInt8)} (h : Good L) (hn : L = [] ∨ bhd p L = false) : rdB p (blkB L :: r) = [] := by
  rw [rdB, dec_blk h]
  refine if_neg ?_
  rintro ⟨h1, h2⟩
  rcases hn with hn | hn
  · exact h1 hn
  · rw [hn] at h2; cases h2
theorem rdB_none {p : Option Cl} {s : List UInt8} {r : List (List UInt8)} (h : ∀ L, Good L → blkB L ≠ s) : rdB p (s :: r) = [] := by
  rw [rdB, dec_none h]
/-- What is read is a table's blocks, and their bodies are there. -/
theorem rdB_good (p : Option Cl) (bs : List (List UInt8)) : (∀ B ∈ rdB p bs, Good B ∧ B ≠ []) ∧ Asc (p.toList ++ (rdB p bs).flatten) ∧ ∃ r, bs = (rdB p bs).map blkB ++ r := by
  induction bs generalizing p with
  | nil =>
    refine ⟨fun B h => (by cases h), ?_, [], rfl⟩
    cases p <;> simp [rdB, Asc]
  | cons s bs ih =>
    have none_ : (∀ B ∈ ([] : List (List Cl)), Good B ∧ B ≠ []) ∧ Asc (p.toList ++ ([] : List (List Cl)).flatten) ∧ ∃ r, s :: bs = ([] : List (List Cl)).map blkB ++ r := by
      refine ⟨fun B h => (by cases h), ?_, s :: bs, rfl⟩
      cases p <;> simp [Asc]
    by_cases hx : ∃ L, Good L ∧ blkB L = s
    · obtain ⟨L, hL, rfl⟩ := hx
      by_cases hn : L = [] ∨ bhd p L = false
      · rw [rdB_no hL hn]
        exact none_
      · have h1 : L ≠ [] := fun e => hn (Or.inl e)
        have h2 : bhd p L = true := by
          cases h : bhd p L with
          | true => rfl
          | false => exact absurd (Or.inr h) hn
        rw [rdB_yes hL h1 h2]
        obtain ⟨i1, i2, r, i3⟩ := ih L.getLast?
        refine ⟨?_, ?_, r, ?_⟩
        · intro B hB
          rcases List.mem_cons.1 hB with rfl | hB
          · exact ⟨hL, h1⟩
          · exact i1 B hB
        · rw [List.flatten_cons]
          generalize (rdB L.getLast? bs).flatten = M at *
          have ha : Asc (L ++ M) := by
            refine List.pairwise_append.2 ⟨hL.asc, ?_, ?_⟩
            · exact (List.pairwise_append.1 i2).2.1
            · intro a ha b hb
              have e : L.getLast? = some (L.getLast h1) := List.getLast?_eq_some_getLast h1
              rw [e] at i2
              have hl := (List.pairwise_append.1 i2).2.2 (L.getLast h1) (by simp) b hb
              have hle := asc_last hL.asc e ha
              by_cases h0 : ccl a (L.getLast h1) = 0
              · have := ccl_tri a (L.getLast h1) b
                have h3 := ccl_zero.1 h0
                have e4 : ccl a b = ccl (L.getLast h1) b := by unfold ccl; rw [h3.1, h3.2.1, h3.2.2]
                omega
              · exact ccl_lt_trans (by omega) hl
          cases p with
          | none => exact ha
          | some x =>
            cases L with
            | nil => exact absurd rfl h1
            | cons c L =>
              have hx : ccl x c < 0 := of_decide_eq_true h2
              refine List.pairwise_append.2 ⟨by simp, ha, ?_⟩
              intro a ha1 b hb
              simp at ha1
              subst ha1
              rcases List.mem_cons.1 hb with rfl | hb
              · exact hx
              · exact ccl_lt_trans hx ((List.pairwise_cons.1 ha).1 b hb)
        · rw [List.map_cons, List.cons_append, ← i3]
    · have hd : rdB p (s :: bs) = [] := rdB_none fun L h1 h2 => hx ⟨L, h1, h2⟩
      rw [hd]
      exact none_
theorem rdB_gb (bs : List (List UInt8)) : GB (rdB none bs) := ⟨(rdB_good none bs).1, (rdB_good none bs).2.1⟩
theorem rdB_of {p : Option Cl} {Bs : List (List Cl)} (h : GB Bs) (hp : Asc (p.toList ++ Bs.flatten)) : rdB p (Bs.map blkB) = Bs := by
  induction Bs generalizing p with
  | nil => rfl
  | cons B Bs ih =>
    have hB := h.good B List.mem_cons_self
    have hasc := h.asc
    rw [List.flatten_cons] at hasc hp
    rw [List.map_cons, rdB_yes hB.1 hB.2, ih h.tail]
    · have e : B.getLast? = some (B.getLast hB.2) := List.getLast?_eq_some_getLast hB.2
      rw [e]
      refine List.pairwise_append.2 ⟨by simp, h.tail.asc, ?_⟩
      intro a ha b hb
      simp at ha
      subst ha
      exact (List.pairwise_append.1 hasc).2.2 _ (List.getLast_mem hB.2) b hb
    · cases p with
      | none => rfl
      | some x =>
        cases B with
        | nil => exact absurd rfl hB.2
        | cons c B =>
          have := (List.pairwise_append.1 hp).2.2 x (by simp) c (by simp)
          exact decide_eq_true this
theorem rdB_map {Bs : List (List Cl)} (h : GB Bs) : rdB none (Bs.map blkB) = Bs := rdB_of h h.asc

/-- The blocks of bytes. -/
noncomputable def opB (s : List UInt8) : List (List Cl) := rdB none (scn (s.take (bEnd s)).length (s.take (bEnd s)))
theorem opB_gb (s : List UInt8) : GB (opB s) := rdB_gb _
theorem opB_lay {Bs : List (List Cl)} (h : Room Bs) (g : GB Bs) : opB (layT Bs) = Bs := by
  unfold opB
  rw [bodies_lay Bs h g, rdB_map g]

/-- How many bytes the first cells have as a block. -/
def szB (l : List Cl) (k : Nat) : Nat := (blkB (l.take k)).length
theorem szB_mono (l : List Cl) {i j : Nat} (h : i ≤ j) : szB l i ≤ szB l j := by
  unfold szB
  have e : l.take j = l.take i ++ (l.take j).drop i := by
    conv => lhs; rw [← List.take_append_drop i (l.take j)]
    rw [List.take_take, Nat.min_eq_left h]
  rw [e]
  exact blkB_mono _ _
/-- The first number, from k on, of cells that have so many bytes; or all. -/
def ful (l : List Cl) (m : Nat) : Nat → Nat → Nat
  | 0, k => k
  | n + 1, k => if m ≤ szB l k then k else ful l m n (k + 1)
/-- How many cells the first block takes. -/
def n0 (l : List Cl) (m : Nat) : Nat := ful l m (l.length - 1) 1
def fil (l : List Cl) (m : Nat) : Nat := if szB l (n0 l m) ≤ 32768 then n0 l m else n0 l m - 1
theorem ful_spec (l : List Cl) (m : Nat) : ∀ n k, k ≤ ful l m n k ∧ ful l m n k ≤ k + n ∧ (∀ j, k ≤ j → j < ful l m n k → szB l j < m) ∧ (ful l m n k < k + n → m ≤ szB l (ful l m n k))
  | 0, k => ⟨Nat.le_refl _, Nat.le_refl _, fun j h1 h2 => by unfold ful at h2; omega, fun h => by unfold ful at h; omega⟩
  | n + 1, k => by
    rw [ful]
    split
    · rename_i h
      exact ⟨Nat.le_refl _, by omega, fun j h1 h2 => by omega, fun _ => h⟩
    · rename_i h
      obtain ⟨a, b, c, d⟩ := ful_spec l m n (k + 1)
      refine ⟨by omega, by omega, fun j h1 h2 => ?_, fun h2 => d (by omega)⟩
      by_cases e : j = k
      · subst e; omega
      · exact c j (by omega) h2
theorem ful_uniq {l : List Cl} {m n k r : Nat} (h1 : k ≤ r) (h2 : r ≤ k + n) (h3 : ∀ j, k ≤ j → j < r → szB l j < m) (h4 : r < k + n → m ≤ szB l r) : ful l m n k = r := by
  obtain ⟨a, b, c, d⟩ := ful_spec l m n k
  by_cases e : ful l m n k < r
  · have := h3 _ a e
    have := d (by omega)
    omega
  · by_cases e2 : r < ful l m n k
    · have := c r h1 e2
      have := h4 (by omega)
      omega
    · omega
theorem n0_uniq {l : List Cl} {m r : Nat} (h0 : 0 < l.length) (h1 : 1 ≤ r) (h2 : r ≤ l.length) (h3 : ∀ j, 1 ≤ j → j < r → szB l j < m) (h4 : r < l.length → m ≤ szB l r) : n0 l m = r :=
  ful_uniq h1 (by omega) h3 (fun h => h4 (by omega))
theorem n0_spec {l : List Cl} (m : Nat) (h0 : 0 < l.length) : 1 ≤ n0 l m ∧ n0 l m ≤ l.length ∧ (∀ j, 1 ≤ j → j < n0 l m → szB l j < m) ∧ (n0 l m < l.length → m ≤ szB l (n0 l m)) := by
  obtain ⟨a, b, c, d⟩ := ful_spec l m (l.length - 1) 1
  exact ⟨a, by unfold n0; omega, c, fun h => d (by unfold n0 at h; omega)⟩
theorem fil_spec {l : List Cl} {m : Nat} (h0 : 0 < l.length) (hm : m ≤ 32768) (h1 : szB l 1 ≤ 32768) : 1 ≤ fil l m ∧ fil l m ≤ l.length ∧ szB l (fil l m) ≤ 32768 := by
  obtain ⟨a, b, c, d⟩ := n0_spec m h0
  unfold fil
  split
  · exact ⟨a, b, by assumption⟩
  · rename_i h
    have : n0 l m ≠ 1 := fun e => by rw [e] at h; omega
    have := c (n0 l m - 1) (by omega) (by omega)
    exact ⟨by omega, by omega, by omega⟩
/-- Cells cut into blocks. -/
def cutN : Nat → List Cl → Nat → List (List Cl)
  | 0, _, _ => []
  | n + 1, l, m => if l = [] then [] else l.take (fil l m) :: cutN n (l.drop (fil l m)) m
def cutB (l : List Cl) (m : Nat) : List (List Cl) := cutN l.length l m
/-- Each cell alone has room in a block. -/
def onesB (l : List Cl) : Bool := l.all fun c => decide ((blkB [c]).length ≤ 32768)
theorem onesB_one {l : List Cl} (h : onesB l = true) : szB l 1 ≤ 32768 := by
  cases l with
  | nil => unfold szB; decide +kernel
  | cons c l =>
    have := List.all_eq_true.1 h c List.mem_cons_self
    exact of_decide_eq_true this
theorem onesB_drop {l : List Cl} (n : Nat) (h : onesB l = true) : onesB (l.drop n) = true := by
  refine List.all_eq_true.2 fun c hc => List.all_eq_true.1 h c (List.mem_of_mem_drop hc)
theorem okL_take {l : List Cl} (n : Nat) (h : okL l = true) : okL (l.take n) = true := by
  rw [okL_iff] at h ⊢
  exact ⟨List.all_eq_true.2 fun c hc => List.all_eq_true.1 h.1 c (List.mem_of_mem_take hc), h.2.sublist (List.take_sublist n l)⟩
theorem okL_drop {l : List Cl} (n : Nat) (h : okL l = true) : okL (l.drop n) = true := by
  rw [okL_iff] at h ⊢
  exact ⟨List.all_eq_true.2 fun c hc => List.all_eq_true.1 h.1 c (List.mem_of_mem_drop hc), h.2.sublist (List.drop_sublist n l)⟩
theorem cutN_nil (n m : Nat) : cutN n [] m = [] := by
  cases n <;> simp [cutN]
/-- More steps change nothing. -/
theorem cutN_more {m : Nat} (hm : m ≤ 32768) : ∀ (n : Nat) (l : List Cl) (k : Nat), l.length ≤ n → onesB l = true → cutN (n + k) l m = cutN n l m
  | 0, l, k, h, _ => by
    have : l = [] := List.eq_nil_of_length_eq_zero (by omega)
    subst this
    rw [cutN_nil, cutN_nil]
  | n + 1, l, k, h, h1 => by
    rw [show n + 1 + k = n + k + 1 by omega, cutN, cutN]
    split
    · rfl
    · rename_i hl
      have h0 : 0 < l.length := List.length_pos_iff.2 hl
      have hf := fil_spec h0 hm (onesB_one h1)
      rw [cutN_more hm n (l.drop (fil l m)) k (by rw [List.length_drop]; omega) (onesB_drop _ h1)]
theorem cutB_nil (m : Nat) : cutB [] m = [] := rfl
theorem cutB_cons {l : List Cl} {m : Nat} (hm : m ≤ 32768) (hl : l ≠ []) (h1 : onesB l = true) : cutB l m = l.take (fil l m) :: cutB (l.drop (fil l m)) m := by
  have h0 : 0 < l.length := List.length_pos_iff.2 hl
  have hf := fil_spec h0 hm (onesB_one h1)
  obtain ⟨n, hn⟩ : ∃ n, l.length = n + 1 := ⟨l.length - 1, by omega⟩
  unfold cutB
  rw [hn, cutN, if_neg hl]
  obtain ⟨k, hk⟩ : ∃ k, n = (l.drop (fil l m)).length + k := ⟨n - (l.drop (fil l m)).length, by rw [List.length_drop]; omega⟩
  rw [hk, cutN_more hm _ _ k (Nat.le_refl _) (onesB_drop _ h1)]
theorem cutB_facts {m : Nat} (hm : m ≤ 32768) : ∀ (n : Nat) (l : List Cl), l.length ≤ n → okL l = true → onesB l = true → (cutB l m).flatten = l ∧ ∀ B ∈ cutB l m, Good B ∧ B ≠ []
  | 0, l, h, _, _ => by
    have : l = [] := List.eq_nil_of_length_eq_zero (by omega)
    subst this
    exact ⟨rfl, fun B hB => by cases hB⟩
  | n + 1, l, h, hok, h1 => by
    by_cases hl : l = []
    · subst hl
      exact ⟨rfl, fun B hB => by cases hB⟩
    · have h0 : 0 < l.length := List.length_pos_iff.2 hl
      have hf := fil_spec h0 hm (onesB_one h1)
      obtain ⟨i1, i2⟩ := cutB_facts hm n (l.drop (fil l m)) (by rw [List.length_drop]; omega) (okL_drop _ hok) (onesB_drop _ h1)
      rw [cutB_cons hm hl h1]
      refine ⟨by rw [List.flatten_cons, i1, List.take_append_drop], fun B hB => ?_⟩
      rcases List.mem_cons.1 hB with rfl | hB
      · have := okL_iff.1 (okL_take (fil l m) hok)
        refine ⟨⟨this.1, this.2, hf.2.2⟩, fun e => ?_⟩
        have := congrArg List.length e
        rw [List.length_take, List.length_nil] at this
        omega
      · exact i2 B hB
theorem cutB_gb {l : List Cl} {m : Nat} (hm : m ≤ 32768) (hok : okL l = true) (h1 : onesB l = true) : GB (cutB l m) ∧ (cutB l m).flatten = l := by
  obtain ⟨a, b⟩ := cutB_facts hm l.length l (Nat.le_refl _) hok h1
  exact ⟨⟨b, by rw [a]; exact (okL_iff.1 hok).2⟩, a⟩

/-- What Write tells of cells ahead of all. -/
def chkE (l : List Cl) (m : Int) : Int := if m < 1 ∨ 32768 < m then 2 else if okL l = true then (if onesB l = true then 0 else 3) else 2

end Go.Proofs.YtmpnofbhbglfpaaGreatDoor
