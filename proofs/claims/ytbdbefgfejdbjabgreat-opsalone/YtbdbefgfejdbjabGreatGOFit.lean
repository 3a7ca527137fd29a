/-
  A command of which one field more is told than its row names may not be.
  A command, an entry that may be can be laid: its fields are within bounds.
-/
import Derived.Test.YtbdbefgfejdbjabGreatGOChk2
import Derived.Test.YtbdbefgfejdbjabGreatOChk4
import Derived.Test.YtbdbefgfejdbjabGreatGODecM
namespace Go.Proofs.YtbdbefgfejdbjabGreat
open Go.RowKit Go.BigFrame

/-- What its kind lets be. -/
def rowK (c : Cm) : Prop := c.k = 1
def procK (c : Cm) : Prop := (2 ≤ c.k ∧ c.k ≤ 5) ∨ c.k = 7
theorem ok_rest {c : Cm} (h : okC c = true) : restC c = cm0 := by
  unfold okC at h
  simp only [Bool.and_eq_true, decide_eq_true_eq] at h
  exact h.2
theorem not_rest {c : Cm} (h : restC c ≠ cm0) : okC c = false := by
  unfold okC
  simp [h]

theorem rest_cl {c : Cm} (h : (c.k ≠ 1)) : (restC c).cl = c.cl := by
  unfold restC
  have := h
  skip
  repeat' split
  all_goals first | rfl | (exfalso; omega)
theorem al_cl {c : Cm} (hk : okC c = true) (h : (c.k ≠ 1)) : c.cl = 0 ∧ ∀ v : Int, v ≠ 0 → okC { c with cl := v } = false := by
  have e := rest_cl h
  rw [ok_rest hk] at e
  refine ⟨e.symm, fun v hv => not_rest fun hr => hv ?_⟩
  have e2 := rest_cl (c := { c with cl := v }) h
  rw [hr] at e2
  exact e2.symm

theorem rest_sq {c : Cm} (h : (c.k ≠ 1)) : (restC c).sq = c.sq := by
  unfold restC
  have := h
  skip
  repeat' split
  all_goals first | rfl | (exfalso; omega)
theorem al_sq {c : Cm} (hk : okC c = true) (h : (c.k ≠ 1)) : c.sq = 0 ∧ ∀ v : Int, v ≠ 0 → okC { c with sq := v } = false := by
  have e := rest_sq h
  rw [ok_rest hk] at e
  refine ⟨e.symm, fun v hv => not_rest fun hr => hv ?_⟩
  have e2 := rest_sq (c := { c with sq := v }) h
  rw [hr] at e2
  exact e2.symm

theorem rest_pr {c : Cm} (h : (¬ procK c)) : (restC c).pr = c.pr := by
  unfold restC
  have := h
  unfold procK at this
  repeat' split
  all_goals first | rfl | (exfalso; omega)
theorem al_pr {c : Cm} (hk : okC c = true) (h : (¬ procK c)) : c.pr = 0 ∧ ∀ v : Int, v ≠ 0 → okC { c with pr := v } = false := by
  have e := rest_pr h
  rw [ok_rest hk] at e
  refine ⟨e.symm, fun v hv => not_rest fun hr => hv ?_⟩
  have e2 := rest_pr (c := { c with pr := v }) h
  rw [hr] at e2
  exact e2.symm

theorem rest_st {c : Cm} (h : (¬ procK c)) : (restC c).st = c.st := by
  unfold restC
  have := h
  unfold procK at this
  repeat' split
  all_goals first | rfl | (exfalso; omega)
theorem al_st {c : Cm} (hk : okC c = true) (h : (¬ procK c)) : c.st = 0 ∧ ∀ v : Int, v ≠ 0 → okC { c with st := v } = false := by
  have e := rest_st h
  rw [ok_rest hk] at e
  refine ⟨e.symm, fun v hv => not_rest fun hr => hv ?_⟩
  have e2 := rest_st (c := { c with st := v }) h
  rw [hr] at e2
  exact e2.symm

theorem rest_gr {c : Cm} (h : (c.k ≠ 3)) : (restC c).gr = c.gr := by
  unfold restC
  have := h
  skip
  repeat' split
  all_goals first | rfl | (exfalso; omega)
theorem al_gr {c : Cm} (hk : okC c = true) (h : (c.k ≠ 3)) : c.gr = 0 ∧ ∀ v : Int, v ≠ 0 → okC { c with gr := v } = false := by
  have e := rest_gr h
  rw [ok_rest hk] at e
  refine ⟨e.symm, fun v hv => not_rest fun hr => hv ?_⟩
  have e2 := rest_gr (c := { c with gr := v }) h
  rw [hr] at e2
  exact e2.symm

theorem rest_key {c : Cm} (h : (c.k ≠ 3 ∧ c.k ≠ 5)) : (restC c).key = c.key := by
  unfold restC
  have := h
  skip
  repeat' split
  all_goals first | rfl | (exfalso; omega)
theorem al_key {c : Cm} (hk : okC c = true) (h : (c.k ≠ 3 ∧ c.k ≠ 5)) : c.key = [] ∧ ∀ v : List UInt8, v ≠ [] → okC { c with key := v } = false := by
  have e := rest_key h
  rw [ok_rest hk] at e
  refine ⟨e.symm, fun v hv => not_rest fun hr => hv ?_⟩
  have e2 := rest_key (c := { c with key := v }) h
  rw [hr] at e2
  exact e2.symm

theorem rest_val {c : Cm} (h : (c.k ≠ 5)) : (restC c).val = c.val := by
  unfold restC
  have := h
  skip
  repeat' split
  all_goals first | rfl | (exfalso; omega)
theorem al_val {c : Cm} (hk : okC c = true) (h : (c.k ≠ 5)) : c.val = [] ∧ ∀ v : List UInt8, v ≠ [] → okC { c with val := v } = false := by
  have e := rest_val h
  rw [ok_rest hk] at e
  refine ⟨e.symm, fun v hv => not_rest fun hr => hv ?_⟩
  have e2 := rest_val (c := { c with val := v }) h
  rw [hr] at e2
  exact e2.symm

theorem rest_ep {c : Cm} (h : (c.k ≠ 1 ∧ c.k ≠ 2 ∧ c.k ≠ 3 ∧ c.k ≠ 4)) : (restC c).ep = c.ep := by
  unfold restC
  have := h
  skip
  repeat' split
  all_goals first | rfl | (exfalso; omega)
theorem al_ep {c : Cm} (hk : okC c = true) (h : (c.k ≠ 1 ∧ c.k ≠ 2 ∧ c.k ≠ 3 ∧ c.k ≠ 4)) : c.ep = 0 ∧ ∀ v : Int, v ≠ 0 → okC { c with ep := v } = false := by
  have e := rest_ep h
  rw [ok_rest hk] at e
  refine ⟨e.symm, fun v hv => not_rest fun hr => hv ?_⟩
  have e2 := rest_ep (c := { c with ep := v }) h
  rw [hr] at e2
  exact e2.symm

theorem rest_op {c : Cm} (h : c.k ≠ 1) : (restC c).op = c.op := by
  unfold restC
  repeat' split
  all_goals first | rfl | (exfalso; omega)
theorem al_op {c : Cm} (hk : okC c = true) (h : c.k ≠ 1) : c.op.kind = 0 ∧ ∀ v : Int, v ≠ 0 → okC { c with op := { c.op with kind := v } } = false := by
  have e := rest_op h
  rw [ok_rest hk] at e
  refine ⟨by rw [← e]; rfl, fun v hv => not_rest fun hr => hv ?_⟩
  have e2 := rest_op (c := { c with op := { c.op with kind := v } }) h
  rw [hr] at e2
  exact (congrArg Oq.kind e2).symm
theorem rest_wt {c : Cm} (h : c.k ≠ 6) : (restC c).wt = c.wt := by
  unfold restC
  repeat' split
  all_goals first | rfl | (exfalso; omega)
theorem al_in {c : Cm} (hk : okC c = true) (h : c.k ≠ 6) : c.wt.i = 0 ∧ ∀ v : Int, v ≠ 0 → okC { c with wt := { c.wt with i := v } } = false := by
  have e := rest_wt h
  rw [ok_rest hk] at e
  refine ⟨by rw [← e]; rfl, fun v hv => not_rest fun hr => hv ?_⟩
  have e2 := rest_wt (c := { c with wt := { c.wt with i := v } }) h
  rw [hr] at e2
  exact (congrArg Wt.i e2).symm
theorem ok_kind {c : Cm} (hk : okC c = true) : 0 ≤ c.k ∧ c.k ≤ 7 := by
  have h : goodC c = true := by
    unfold okC at hk
    simp only [Bool.and_eq_true] at hk
    exact hk.1
  unfold goodC at h
  repeat' split at h
  all_goals first | omega | simp at h

end Go.Proofs.YtbdbefgfejdbjabGreat

namespace Go.Proofs.YtbdbefgfejdbjabGreat
open Go.RowKit Go.BigFrame

theorem mayO_fit {o : Oq} (h : mayO o = true) : 1 ≤ o.kind ∧ o.kind ≤ 5 ∧ o.row.length ≤ 32 ∧ o.col.length ≤ 16 ∧ o.val.length ≤ 256 ∧ o.exp.length ≤ 256 := by
  unfold mayO at h
  rw [decide_eq_true_eq] at h
  obtain ⟨a, b, _, c, _, d, e, f⟩ := h
  refine ⟨a, b, ?_, d, e, f⟩
  split at c <;> omega
/-- The bounds that a command that may be keeps. -/
structure Bnd (c : Cm) : Prop where
  k : 0 ≤ c.k ∧ c.k ≤ 7
  cl : 0 ≤ c.cl ∧ c.cl < 4
  sq : 0 ≤ c.sq ∧ c.sq ≤ 1099511627776
  ep : c.ep ≤ 1099511627776
  ok : 0 ≤ c.op.kind ∧ c.op.kind ≤ 5
  row : c.op.row.length ≤ 32
  col : c.op.col.length ≤ 16
  ov : c.op.val.length ≤ 256
  ex : c.op.exp.length ≤ 256
  pr : 0 ≤ c.pr ∧ c.pr ≤ 1099511627776
  st : 0 ≤ c.st ∧ c.st ≤ 100
  key : c.key.length ≤ 32
  val : c.val.length ≤ 256
  gr : 0 ≤ c.gr ∧ c.gr < 12
  wg : 0 ≤ c.wt.g ∧ c.wt.g < 12
  wk : c.wt.key.length ≤ 32
  wi : 0 ≤ c.wt.i ∧ c.wt.i < 5
  wo : 0 ≤ c.wt.o ∧ c.wt.o < 5
theorem good_of {c : Cm} (hk : okC c = true) : goodC c = true := by
  unfold okC at hk
  simp only [Bool.and_eq_true] at hk
  exact hk.1
theorem ok_bnd {c : Cm} (h : okC c = true) : Bnd c := by
  have hk := ok_kind h
  have hg := good_of h
  have row : (0 ≤ c.cl ∧ c.cl < 4) ∧ (0 ≤ c.sq ∧ c.sq ≤ 1099511627776) ∧ (0 ≤ c.op.kind ∧ c.op.kind ≤ 5) ∧ c.op.row.length ≤ 32 ∧ c.op.col.length ≤ 16 ∧ c.op.val.length ≤ 256 ∧ c.op.exp.length ≤ 256 := by
    by_cases h1 : c.k = 1
    · unfold goodC at hg
      rw [if_neg (by omega), if_pos h1] at hg
      simp only [askedB, countB, Bool.and_eq_true, decide_eq_true_eq] at hg
      obtain ⟨⟨⟨⟨a, b⟩, d, e⟩, _⟩, g⟩ := hg
      obtain ⟨m1, m2, m3, m4, m5, m6⟩ := mayO_fit g
      exact ⟨⟨a, b⟩, ⟨by omega, by omega⟩, ⟨by omega, m2⟩, m3, m4, m5, m6⟩
    · have e1 := (al_cl h h1).1
      have e2 := (al_sq h h1).1
      have e3 := rest_op h1
      rw [ok_rest h] at e3
      rw [e1, e2, ← e3]
      exact ⟨by omega, by omega, by decide, by decide, by decide, by decide, by decide⟩
  have proc : (0 ≤ c.pr ∧ c.pr ≤ 1099511627776) ∧ (0 ≤ c.st ∧ c.st ≤ 100) := by
    by_cases h1 : procK c
    · unfold procK at h1
      have hs : stepB c.pr c.st = true := by
        unfold goodC at hg
        rcases Classical.em (c.k = 3) with h3 | h3
        · rw [if_neg (by omega), if_neg (by omega), if_neg (by omega), if_pos h3] at hg
          simp only [Bool.and_eq_true] at hg
          simp only [Bool.and_eq_true]
          exact hg.1.1.1.1
        rcases Classical.em (c.k = 5) with h5 | h5
        · rw [if_neg (by omega), if_neg (by omega), if_neg (by omega), if_neg (by omega), if_pos h5] at hg
          simp only [Bool.and_eq_true] at hg
          simp only [Bool.and_eq_true]
          exact hg.1.1.1
        rcases Classical.em (c.k = 7) with h7 | h7
        · rw [if_neg (by omega), if_neg (by omega), if_neg (by omega), if_neg (by omega), if_neg (by omega), if_neg (by omega), if_pos h7] at hg
          exact hg
        · rw [if_neg (by omega), if_neg (by omega), if_pos (by omega)] at hg
          simp only [Bool.and_eq_true] at hg
          simp only [Bool.and_eq_true]
          exact hg.1
      simp only [stepB, countB, Bool.and_eq_true, decide_eq_true_eq] at hs
      omega
    · rw [(al_pr h h1).1, (al_st h h1).1]
      omega
  have hep : c.ep ≤ 1099511627776 := by
    by_cases h1 : c.k ≠ 1 ∧ c.k ≠ 2 ∧ c.k ≠ 3 ∧ c.k ≠ 4
    · rw [(al_ep h h1).1]; omega
    · unfold goodC at hg
      rcases Classical.em (c.k = 1) with h3 | h3
      · rw [if_neg (by omega), if_pos h3] at hg
        simp only [Bool.and_eq_true, decide_eq_true_eq] at hg
        exact hg.1.2
      rcases Classical.em (c.k = 3) with h3 | h3
      · rw [if_neg (by omega), if_neg (by omega), if_neg (by omega), if_pos h3] at hg
        simp only [Bool.and_eq_true, decide_eq_true_eq] at hg
        exact hg.1.1.1.2
      · rw [if_neg (by omega), if_neg (by omega), if_pos (by omega)] at hg
        simp only [Bool.and_eq_true, decide_eq_true_eq] at hg
        exact hg.2
  have hgr : 0 ≤ c.gr ∧ c.gr < 12 := by
    by_cases h1 : c.k = 3
    · unfold goodC at hg
      rw [if_neg (by omega), if_neg (by omega), if_neg (by omega), if_pos h1] at hg
      simp only [Bool.and_eq_true, decide_eq_true_eq] at hg
      exact ⟨hg.1.2.1, hg.1.2.2⟩
    · rw [(al_gr h h1).1]; omega
  have hkey : c.key.length ≤ 32 := by
    by_cases h1 : c.k ≠ 3 ∧ c.k ≠ 5
    · rw [(al_key h h1).1]; decide
    · unfold goodC at hg
      rcases Classical.em (c.k = 3) with h3 | h3
      · rw [if_neg (by omega), if_neg (by omega), if_neg (by omega), if_pos h3] at hg
        simp only [Bool.and_eq_true, decide_eq_true_eq, userB] at hg
        have := hg.1.1.2.2
        omega
      · rw [if_neg (by omega), if_neg (by omega), if_neg (by omega), if_neg (by omega), if_pos (by omega)] at hg
        simp only [Bool.and_eq_true, decide_eq_true_eq, storedB] at hg
        exact hg.1.2
  have hval : c.val.length ≤ 256 := by
    by_cases h1 : c.k = 5
    · unfold goodC at hg
      rw [if_neg (by omega), if_neg (by omega), if_neg (by omega), if_neg (by omega), if_pos h1] at hg
      simp only [Bool.and_eq_true, decide_eq_true_eq] at hg
      exact hg.2
    · rw [(al_val h h1).1]; decide
  have hwt : (0 ≤ c.wt.g ∧ c.wt.g < 12) ∧ c.wt.key.length ≤ 32 ∧ (0 ≤ c.wt.i ∧ c.wt.i < 5) ∧ (0 ≤ c.wt.o ∧ c.wt.o < 5) := by
    by_cases h1 : c.k = 6
    · unfold goodC at hg
      rw [if_neg (by omega), if_neg (by omega), if_neg (by omega), if_neg (by omega), if_neg (by omega), if_pos h1] at hg
      unfold wantB at hg
      rw [Bool.and_eq_true] at hg
      obtain ⟨g1, g2⟩ := hg
      simp only [Bool.and_eq_true, decide_eq_true_eq] at g1
      refine ⟨g1, ?_⟩
      split at g2
      · simp only [nodeB, Bool.and_eq_true, decide_eq_true_eq] at g2
        obtain ⟨⟨⟨a, b⟩, _⟩, d⟩ := g2
        rw [d]
        exact ⟨by decide, a, b⟩
      · simp only [userB, Bool.and_eq_true, decide_eq_true_eq] at g2
        obtain ⟨⟨a, b⟩, d⟩ := g2
        omega
    · have e3 := rest_wt h1
      rw [ok_rest h] at e3
      rw [← e3]
      exact ⟨by decide, by decide, by decide, by decide⟩
  exact ⟨hk, row.1, row.2.1, hep, row.2.2.1, row.2.2.2.1, row.2.2.2.2.1, row.2.2.2.2.2.1, row.2.2.2.2.2.2, proc.1, proc.2, hkey, hval, hgr, hwt.1, hwt.2.1, hwt.2.2.1, hwt.2.2.2⟩
set_option maxHeartbeats 2000000 in
set_option maxRecDepth 20000 in
theorem ok_fit {c : Cm} (h : okC c = true) (he : 0 ≤ c.ep) : fitKs cmdK (cmL c) := by
  have b := ok_bnd h
  have := b.k; have := b.cl; have := b.sq; have := b.ep; have := b.ok; have := b.row; have := b.col; have := b.ov; have := b.ex; have := b.pr; have := b.st; have := b.key; have := b.val; have := b.gr; have := b.wg; have := b.wk; have := b.wi; have := b.wo
  unfold cmL
  iterate 20 (refine ⟨?_, ?_⟩; (first | exact trivial | (show 0 ≤ _ ∧ _ ≤ _; omega) | (show List.length _ ≤ 1048576; omega)))
  exact trivial
theorem tl_eq (c : Cm) : (cmL c).map tlen = 0 :: 0 :: 0 :: 0 :: 0 :: c.op.row.length :: c.op.col.length :: c.op.val.length :: 0 :: c.op.exp.length :: 0 :: 0 :: c.key.length :: c.val.length :: 0 :: 0 :: 0 :: c.wt.key.length :: 0 :: 0 :: [] := rfl
theorem sum7 (a b c d e f g : Nat) : (0 :: 0 :: 0 :: 0 :: 0 :: a :: b :: c :: 0 :: d :: 0 :: 0 :: e :: f :: 0 :: 0 :: 0 :: g :: 0 :: 0 :: []).sum = a + b + c + d + e + f + g := by
  simp only [List.sum_cons, List.sum_nil]
  omega
theorem tlen_cm {c : Cm} (h : okC c = true) : ((cmL c).map tlen).sum ≤ 2000 := by
  have b := ok_bnd h
  have b1 := b.row
  have b2 := b.col
  have b3 := b.ov
  have b4 := b.ex
  have b5 := b.key
  have b6 := b.val
  have b7 := b.wk
  rw [tl_eq, sum7]
  omega
theorem asc_fit : ∀ {l : List Int} {a : Int}, ascB a l = true → -1 ≤ a → a ≤ 4 → (l.length : Int) ≤ 4 - a ∧ ∀ x ∈ l, 0 ≤ x ∧ x ≤ 2147483647
  | [], a, _, _, h4 => ⟨by simp; omega, by simp⟩
  | x :: l, a, h, h1, h4 => by
    unfold ascB at h
    simp only [nodeB, Bool.and_eq_true, decide_eq_true_eq, Bool.not_eq_true', decide_eq_false_iff_not] at h
    obtain ⟨⟨p, q⟩, r⟩ := h
    obtain ⟨i1, i2⟩ := asc_fit r (by omega) (by omega)
    refine ⟨by simp only [List.length_cons]; omega, ?_⟩
    intro y hy
    rcases List.mem_cons.1 hy with rfl | hy
    · omega
    · exact i2 y hy
theorem memb_fit {l : List Int} (h : membB l = true) : fitM l := by
  unfold membB at h
  rw [Bool.and_eq_true] at h
  obtain ⟨a, b⟩ := asc_fit h.1 (by omega) (by omega)
  exact ⟨by omega, b⟩

end Go.Proofs.YtbdbefgfejdbjabGreat
