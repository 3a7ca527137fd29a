/-
  The chapter's examples of lists of cells as bytes: what Encode and Decode answer there.
-/
import Derived.Test.YtfjomggofncdmaaCBackM
namespace Go.Proofs.Ytfjomggofncdmaa

/-- A cell with n bytes 0 as its value. -/
def wideC (n : Nat) : Cl := ⟨[97], [120], 1, false, List.replicate n 0⟩
theorem uv_len1 {x : Nat} (h : x < 128) : (Lib.uvarint x).length = 1 := by rw [Lib.uvarint_small h]; rfl
theorem uv_len3 {x : Nat} (h1 : 16384 ≤ x) (h2 : x < 2097152) : (Lib.uvarint x).length = 3 := by
  rw [Lib.uvarint_big (by omega), List.length_cons, Lib.uvarint_big (by omega), List.length_cons, uv_len1 (by omega)]
theorem wide_len : (layL (wideC 65536)).length = 65545 := by
  unfold layL wideC txt
  simp only [List.length_append, List.length_replicate, List.length_singleton]
  rw [uv_len3 (x := 65536) (by omega) (by omega), uv_len1 (x := 1) (by omega), show Int.toNat 1 = 1 from rfl, uv_len1 (x := 1) (by omega)]
  rfl
theorem wide_ok : okC (wideC 65536) = true := by
  have : ∀ n, n ≤ 65536 → okC (wideC n) = true := by
    intro n hn
    simp [okC, wideC, mayC, storedB, hn]
  exact this 65536 (Nat.le_refl _)
theorem body_rep (c : Cl) (n : Nat) : (bodyL (List.replicate n c)).length = n * (layL c).length := by
  induction n with
  | zero => simp [bodyL]
  | succ n ih =>
    have e : bodyL (List.replicate (n + 1) c) = layL c ++ bodyL (List.replicate n c) := by rw [List.replicate_succ]; simp [bodyL]
    rw [e, List.length_append, ih, Nat.succ_mul]
    omega
theorem wide_enc {n : Nat} (h : n < 128) : (encL (List.replicate n (wideC 65536))).length = 1 + n * 65545 := by
  unfold encL
  rw [List.length_append, List.length_replicate, uv_len1 h, body_rep, wide_len]
theorem wide_all (n : Nat) : (List.replicate n (wideC 65536)).all okC = true := by
  rw [List.all_eq_true]
  intro x hx
  rw [List.eq_of_mem_replicate hx]
  exact wide_ok
theorem wide_long {n : Nat} (h : n < 128) (h2 : 16 ≤ n) : encE (List.replicate n (wideC 65536)) = 3 := by
  unfold encE
  rw [if_pos (wide_all n), if_neg (by rw [wide_enc h]; omega)]
theorem wide_fits {n : Nat} (h : n ≤ 15) : encE (List.replicate n (wideC 65536)) = 0 := by
  unfold encE
  rw [if_pos (wide_all n), if_pos (by rw [wide_enc (by omega)]; omega)]
theorem dec_lit0 : decR [] = none := by rfl
theorem dec_lit1 : decR [1] = none := by rfl
theorem dec_lit2 : decR [0, 0] = none := by rfl
theorem dec_lit3 : decR [0] = some [] := by rfl
theorem dec_lit4 : decR [1, 1, 97, 1, 120, 1, 2, 0] = none := by rfl
theorem enc_lit0 : encB [] = [0] ∧ encE [] = 0 := by
  have : encL [] = [0] := by unfold encL bodyL; rw [show ([] : List Cl).length = 0 from rfl, Lib.uvarint_small (by omega)]; rfl
  constructor
  · unfold encB; rw [if_pos (show ([] : List Cl).all okC = true from rfl), this]; rfl
  · unfold encE; rw [if_pos (show ([] : List Cl).all okC = true from rfl), this]; rfl
theorem enc_bad {c : Cl} (h : okC c = false) : encE [c] = 2 := by
  unfold encE
  rw [if_neg (by simp [h])]
theorem bad_lit0 : okC ⟨[97], [120], 0, false, []⟩ = false := by decide
theorem bad_lit1 : okC ⟨[97], [120], 1099511627777, false, []⟩ = false := by decide
theorem bad_lit2 : okC ⟨[97], [120], 1, true, [118]⟩ = false := by decide
theorem bad_lit3 : okC ⟨[], [], 1, false, []⟩ = false := by decide
theorem bad_lit4 : okC ⟨List.replicate 33 0, [120], 1, false, []⟩ = false := by decide
theorem bad_lit5 : okC ⟨[97], List.replicate 17 0, 1, false, []⟩ = false := by decide

end Go.Proofs.Ytfjomggofncdmaa
