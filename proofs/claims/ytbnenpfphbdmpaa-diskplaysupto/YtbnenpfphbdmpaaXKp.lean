/-
  DiskKeeps: the law's walk.
-/
import Derived.Test.YtbnenpfphbdmpaaXWks
namespace Go.Proofs.Ytbnenpfphbdmpaa
open Go.RowKit

/-- The law's four names. -/
def nmK : Nat → List UInt8
  | 0 => [97]
  | 1 => [98]
  | 2 => [97, 98]
  | _ => [99]
theorem nmK_inj {j k : Nat} (hj : j < 4) (hk : k < 4) (e : nmK j = nmK k) : j = k := by
  have : ∀ a, a < 4 → ∀ b, b < 4 → nmK a = nmK b → a = b := by decide
  exact this j hj k hk e
theorem nmK_ok {k : Nat} (hk : k < 4) : okN (nmK k) = true := by
  have : ∀ a, a < 4 → okN (nmK a) = true := by decide
  exact this k hk
theorem nmK_len {k : Nat} (hk : k < 4) : (nmK k).length ≤ maxLen := by
  have : ∀ a, a < 4 → (nmK a).length ≤ 2 := by decide
  have := this k hk
  unfold maxLen; omega
/-- Texts in a block. -/
def SB (w : World) (g : Nat) (xs : List (List UInt8)) : Prop := w.heap[g]? = some (.cells (xs.map fun l => Value.string (bstr l)).toArray 9 (0, 0))
theorem SB.cell {w : World} {g : Nat} {xs : List (List UInt8)} (h : SB w g xs) {k : Nat} (hk : k < xs.length) : w.cell? ⟨g, k, none⟩ = some (.string (bstr xs[k])) := by
  rw [(cells_block h).1 k]
  simp [hk]
theorem SB.set {w : World} {g : Nat} {xs : List (List UInt8)} (h : SB w g xs) (k : Nat) (l : List UInt8) : SB (w.setCell ⟨g, k, none⟩ (.string (bstr l))) g (xs.set k l) := by
  unfold SB
  rw [block_set h k]
  simp [List.map_set]
theorem SB.kept {w w' : World} {d m fr N : Nat} {L : List Fl} (hD : Dk w d m L fr N) (hk : Kp w w' (Ft d m L)) {g : Nat} {xs : List (List UInt8)} (h : SB w g xs) : SB w' g xs :=
  (hk.block g (Array.getElem?_eq_some_iff.1 h).1 (hD.other h (by decide))).trans h
theorem SB.below {w w' : World} {g : Nat} {xs : List (List UInt8)} (h : SB w g xs) (hb : Below w.heap.size w w') : SB w' g xs := (hb.block g (Array.getElem?_eq_some_iff.1 h).1).trans h
/-- A slice of texts, as an argument: it lies below the block B. -/
def SArg (w : World) (B : Nat) (q : Option Addr) (ls : List (List UInt8)) : Prop := 0 < ls.length → ∃ b off, q = some ⟨b, off, none⟩ ∧ b < B ∧ ∀ i (h : i < ls.length), w.cell? ⟨b, off + i, none⟩ = some (.string (bstr ls[i]))
/-- What there is when so many texts have been put. -/
structure KI (i : Nat) (L : List Fl) (A S : List (List UInt8)) : Prop where
  la : A.length = 4
  ls : S.length = 4
  had : ∀ k (h : k < 4), k < i → ∃ f, lk (nmK k) L = some f ∧ f.bytes = A[k] ∧ f.syn = S[k].length ∧ S[k] = A[k].take f.syn
  not : ∀ k (h : k < 4), i ≤ k → lk (nmK k) L = none ∧ A[k] = [] ∧ S[k] = []
theorem KI.start : KI 0 [] [[], [], [], []] [[], [], [], []] := ⟨rfl, rfl, fun _ _ h => absurd h (Nat.not_lt_zero _), fun k h _ => by
  have : ∀ a, (h : a < 4) → ([[], [], [], []] : List (List UInt8))[a] = [] := by decide
  exact ⟨rfl, this k h, this k h⟩⟩
theorem KI.at {i : Nat} {L : List Fl} {A S : List (List UInt8)} (h : KI i L A S) {k : Nat} (hk : k < 4) : by_ (lk (nmK k) L) = A[k]'(by rw [h.la]; exact hk) ∧ syN (lk (nmK k) L) = (S[k]'(by rw [h.ls]; exact hk)).length ∧ S[k]'(by rw [h.ls]; exact hk) = (A[k]'(by rw [h.la]; exact hk)).take (syN (lk (nmK k) L)) := by
  by_cases hi : k < i
  · obtain ⟨f, h1, h2, h3, h4⟩ := h.had k hk hi
    rw [h1]
    exact ⟨h2, h3, h4⟩
  · obtain ⟨h1, h2, h3⟩ := h.not k hk (by omega)
    rw [h1]
    exact ⟨h2.symm, by rw [h3]; rfl, by rw [h3, h2]; rfl⟩
/-- A text is put. -/
theorem KI.put {i : Nat} {L : List Fl} {A S : List (List UInt8)} (h : KI i L A S) (hs : Srt L) {f' : Fl} {t : List UInt8} (h1 : f'.name = nmK (i % 4)) (h2 : f'.bytes = by_ (lk (nmK (i % 4)) L) ++ t) (h3 : f'.syn = syN (lk (nmK (i % 4)) L)) :
    KI (i + 1) (wth f' L) (A.set (i % 4) (f'.bytes)) S := by
  have hk4 : i % 4 < 4 := Nat.mod_lt _ (by decide)
  have hla := h.la
  have hls := h.ls
  refine ⟨by rw [List.length_set]; exact hla, hls, fun k hk hlt => ?_, fun k hk hle => ?_⟩
  · by_cases e : k = i % 4
    · subst e
      obtain ⟨a1, a2, a3⟩ := h.at hk
      have hl := lk_wth_same hs f'
      rw [h1] at hl
      refine ⟨f', hl, by simp, by rw [h3, a2], ?_⟩
      simp only [List.getElem_set_self]
      rw [h2, h3, a1, List.take_append_of_le_length]
      · exact a3
      · rw [a2, a3, List.length_take]; omega
    · have hki : k < i := by omega
      obtain ⟨f, b1, b2, b3, b4⟩ := h.had k hk hki
      refine ⟨f, ?_, ?_, b3, ?_⟩
      · rw [lk_wth_other hs (by rw [h1]; exact fun e2 => e (nmK_inj hk hk4 e2))]; exact b1
      · rw [List.getElem_set_ne (fun e2 => e e2.symm)]; exact b2
      · rw [List.getElem_set_ne (fun e2 => e e2.symm)]; exact b4
  · have e : k ≠ i % 4 := by omega
    obtain ⟨b1, b2, b3⟩ := h.not k hk (by omega)
    refine ⟨?_, ?_, b3⟩
    · rw [lk_wth_other hs (by rw [h1]; exact fun e2 => e (nmK_inj hk hk4 e2))]; exact b1
    · rw [List.getElem_set_ne (fun e2 => e e2.symm)]; exact b2
/-- It is synced. -/
theorem KI.sync {i : Nat} {L : List Fl} {A S : List (List UInt8)} (h : KI (i + 1) L A S) (hs : Srt L) : KI (i + 1) (synL (nmK (i % 4)) L) A (S.set (i % 4) (A[i % 4]'(by rw [h.la]; exact Nat.mod_lt _ (by decide)))) := by
  have hk4 : i % 4 < 4 := Nat.mod_lt _ (by decide)
  have hla := h.la
  have hls := h.ls
  obtain ⟨f, c1, c2, c3, c4⟩ := h.had (i % 4) hk4 (by omega)
  obtain ⟨hm, hn⟩ := lk_some c1
  have hsy : synL (nmK (i % 4)) L = wth { f with syn := f.bytes.length } L := by simp [synL, c1]
  obtain ⟨f2, hf2, n2, b2, s2⟩ : ∃ f2 : Fl, { f with syn := f.bytes.length } = f2 ∧ f2.name = nmK (i % 4) ∧ f2.bytes = f.bytes ∧ f2.syn = f.bytes.length := ⟨_, rfl, hn, rfl, rfl⟩
  rw [hsy, hf2]
  refine ⟨hla, by rw [List.length_set]; exact hls, fun k hk hlt => ?_, fun k hk hle => ?_⟩
  · by_cases e : k = i % 4
    · subst e
      have hl := lk_wth_same hs f2
      rw [n2] at hl
      refine ⟨f2, hl, by rw [b2, c2], ?_, ?_⟩
      · simp only [List.getElem_set_self]; rw [s2, c2]
      · simp only [List.getElem_set_self]
        rw [s2, c2, List.take_length]
    · obtain ⟨g, b1, b5, b3, b4⟩ := h.had k hk hlt
      refine ⟨g, ?_, b5, ?_, ?_⟩
      · rw [lk_wth_other hs (by rw [n2]; exact fun e2 => e (nmK_inj hk hk4 e2))]; exact b1
      · rw [List.getElem_set_ne (fun e2 => e e2.symm)]; exact b3
      · rw [List.getElem_set_ne (fun e2 => e e2.symm)]; exact b4
  · have e : k ≠ i % 4 := by omega
    obtain ⟨b1, b5, b3⟩ := h.not k hk hle
    refine ⟨?_, b5, ?_⟩
    · rw [lk_wth_other hs (by rw [n2]; exact fun e2 => e (nmK_inj hk hk4 e2))]; exact b1
    · rw [List.getElem_set_ne (fun e2 => e e2.symm)]; exact b3
/-- What a loss of power leaves of a file. -/
theorem Cr.at {ks : List Int} {L L' : List Fl} (h : Cr ks L.length L L') (hs' : Srt L') {s : List UInt8} {f : Fl} (hf : lk s L = some f) : ∃ k v', lk s L' = some (crF k f v') := by
  obtain ⟨hm, hn⟩ := lk_some hf
  obtain ⟨j, hj, e⟩ := List.getElem_of_mem hm
  obtain ⟨v', e2⟩ := h.old j hj hj
  refine ⟨kAt ks j, v', ?_⟩
  have := srt_at hs' (i := j) (by rw [h.len]; exact hj)
  rw [e2, e] at this
  have hn2 : (crF (kAt ks j) f v').name = s := hn
  rw [hn2] at this
  exact this

end Go.Proofs.Ytbnenpfphbdmpaa
