/-
  What the document's reading of numbers answers: the same as 'numOf'.
-/
import Derived.Test.YtmgibkglbddlpaaDoorNum
import Derived.Laws.BitsAllLaws
import Derived.Lib.VarintBits
namespace Go.Proofs.YtmgibkglbddlpaaDoor

/-- What the seven bits of bytes spell. -/
def valL : List UInt8 → Nat
  | [] => 0
  | b :: r => valL r * 128 + b.toNat % 128
theorem uv_form : ∀ (fuel v : Nat), v ≤ fuel → valL (Lib.uvarint v) = v ∧ ∀ i (h : i < (Lib.uvarint v).length), ((Lib.uvarint v)[i].toNat < 128 ↔ i + 1 = (Lib.uvarint v).length)
  | fuel, v, hf => by
    by_cases hs : v < 128
    · have e : (v.toUInt8).toNat = v := toNat_toUInt8 (by omega)
      rw [Lib.uvarint_small hs]
      refine ⟨by simp [valL, e]; omega, ?_⟩
      intro i h
      simp only [List.length_singleton] at h
      have : i = 0 := by omega
      subst this
      exact ⟨fun _ => rfl, fun _ => by show (v.toUInt8).toNat < 128; omega⟩
    · match fuel, hf with
      | 0, hf => omega
      | fuel + 1, hf =>
        obtain ⟨h1, h2⟩ := uv_form fuel (v / 128) (by omega)
        have e : ((v % 128 + 128).toUInt8).toNat = v % 128 + 128 := toNat_toUInt8 (by omega)
        have hp := Lib.uvarint_pos (v / 128)
        rw [Lib.uvarint_big (by omega)]
        refine ⟨?_, ?_⟩
        · rw [valL, h1, e]
          omega
        · intro i h
          cases i with
          | zero =>
            simp only [List.getElem_cons_zero, e, List.length_cons]
            omega
          | succ i =>
            simp only [List.length_cons] at h ⊢
            simp only [List.getElem_cons_succ]
            rw [h2 i (by omega)]
            omega
/-- Ahead of index n all bytes go on; it ends one at n: what is read. -/
theorem num_here {l : List UInt8} {n : Nat} (hn : n < l.length) (ha : ∀ j (h : j < l.length), j < n → 128 ≤ l[j].toNat) (he : l[n].toNat < 128) {V : Nat} (hV : V = valL (l.take (n + 1)) % 18446744073709551616) :
    (Lib.uvarint V = l.take (n + 1) → numOf l = (V, n + 1)) ∧ (Lib.uvarint V ≠ l.take (n + 1) → numOf l = (0, 0)) := by
  have hlt : V < 18446744073709551616 := by rw [hV]; exact Nat.mod_lt _ (by omega)
  constructor
  · intro h
    have := numOf_uvarint V hlt (l.drop (n + 1))
    rw [h, List.take_append_drop] at this
    rw [this, List.length_take]
    congr 1
    omega
  · intro h
    by_cases h0 : (numOf l).2 = 0
    · have := numOf_none h0
      generalize numOf l = p at *
      obtain ⟨a, b⟩ := p
      simp only at h0 this
      rw [h0, this]
    · exfalso
      obtain ⟨k1, k2, k3, k4, k5⟩ := numOf_back (l := l) (v := (numOf l).1) (n := (numOf l).2) rfl h0
      obtain ⟨f1, f2⟩ := uv_form _ (numOf l).1 (Nat.le_refl _)
      generalize (numOf l).1 = v at *
      generalize (numOf l).2 = k at *
      rw [← k5] at f1 f2
      have hlen : (l.take k).length = k := by rw [List.length_take]; omega
      have hk : k = n + 1 := by
        rcases Nat.lt_trichotomy k (n + 1) with hc | hc | hc
        · have a1 := ha (k - 1) (by omega) (by omega)
          have a2 := (f2 (k - 1) (by omega)).2 (by omega)
          simp only [List.getElem_take] at a2
          omega
        · exact hc
        · have a2 := (f2 n (by omega)).1 (by simp only [List.getElem_take]; exact he)
          omega
      subst hk
      rw [f1, Nat.mod_eq_of_lt k4] at hV
      subst hV
      exact h k5.symm
/-- No byte ends a number. -/
theorem num_never {l : List UInt8} {n : Nat} (hn : 10 ≤ n ∨ l.length ≤ n) (ha : ∀ j (h : j < l.length), j < n → 128 ≤ l[j].toNat) : numOf l = (0, 0) := by
  by_cases h0 : (numOf l).2 = 0
  · have := numOf_none h0
    generalize numOf l = p at *
    obtain ⟨a, b⟩ := p
    simp only at h0 this
    rw [h0, this]
  · exfalso
    obtain ⟨k1, k2, k3, k4, k5⟩ := numOf_back (l := l) (v := (numOf l).1) (n := (numOf l).2) rfl h0
    obtain ⟨f1, f2⟩ := uv_form _ (numOf l).1 (Nat.le_refl _)
    generalize (numOf l).1 = v at *
    generalize (numOf l).2 = k at *
    rw [← k5] at f1 f2
    have hlen : (l.take k).length = k := by rw [List.length_take]; omega
    have a1 := ha (k - 1) (by omega) (by omega)
    have a2 := (f2 (k - 1) (by omega)).2 (by omega)
    simp only [List.getElem_take] at a2
    omega
/-- One more of the bits. -/
theorem val_step {l : List UInt8} {n i : Nat} (hn : n ≤ l.length) (hi : i < n) : valL ((l.take n).drop i) = valL ((l.take n).drop (i + 1)) * 128 + l[i].toNat % 128 := by
  have h : i < (l.take n).length := by rw [List.length_take]; omega
  rw [List.drop_eq_getElem_cons h, valL]
  simp only [List.getElem_take]
theorem ror_step {z d : Nat} (hd : d < 128) : bits .or .u64 (((z * 128 % 18446744073709551616 : Nat)) : Int) (d : Int) = (((z * 128 + d) % 18446744073709551616 : Nat) : Int) := by
  rw [u64_or_nat _ _ (Nat.mod_lt _ (by omega)) (by omega), Nat.or_comm, ← u64_or_nat _ _ (by omega) (Nat.mod_lt _ (by omega))]
  rw [u64_orv7 _ _ (by omega) (by omega) (by omega) (by omega) (by omega)]
  omega

end Go.Proofs.YtmgibkglbddlpaaDoor
