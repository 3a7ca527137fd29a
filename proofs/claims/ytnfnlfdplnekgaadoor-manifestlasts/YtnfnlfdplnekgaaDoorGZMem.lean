/-
  Texts in order, byte by byte, as the model has it; ranges as pairs of lists of bytes: what one has, whether it may be, whether two meet, how one is split.
  The contracts of keys.Check, keys.Has, keys.Meet, keys.User, keys.Stored, and of the document's own answers beside them.
  What is kept of memory; ranges over functions, at the widest fence: the statement, its rounds, a loop with a count of what is left.
-/
import Derived.Test.YtnfnlfdplnekgaaDoorAid
import Derived.RangeFuncNested
import Derived.RangeFuncLeaves
import Derived.Shelf.Abstract
import Derived.Shelf.RegionOpen
import Derived.OwnWalkIn
import Derived.TacticsInMore
import Derived.LoopNIn
import Derived.LoopIn
import Derived.WalkMore
import Derived.Laws.BitsAllLaws
import Derived.Laws.AppendOwn
import Derived.Lib.SliceRun
import Derived.Deep.RegionHeld3
import Derived.Test.YtnfnlfdplnekgaaDoorZMath
namespace Go.Proofs.YtnfnlfdplnekgaaDoor

/-- One text is ahead of another one. -/
def ls (a b : List UInt8) : Bool := Op.bytesLess a b
theorem ls_def (a b : List UInt8) : Op.bytesLess a b = ls a b := rfl
theorem ls_irrefl : ∀ a : List UInt8, ls a a = false
  | [] => rfl
  | x :: a => by
    have := ls_irrefl a
    unfold ls at this ⊢
    simp [Op.bytesLess, this]
theorem ls_trans : ∀ {a b c : List UInt8}, ls a b = true → ls b c = true → ls a c = true
  | a, [], c, h, _ => by unfold ls at h; cases a <;> simp [Op.bytesLess] at h
  | a, b :: y, [], _, h => by unfold ls at h; simp [Op.bytesLess] at h
  | [], b :: y, c :: z, _, _ => by unfold ls; simp [Op.bytesLess]
  | a :: x, b :: y, c :: z, h1, h2 => by
    have ih := @ls_trans x y z
    unfold ls at h1 h2 ih ⊢
    simp only [Op.bytesLess, Bool.or_eq_true, Bool.and_eq_true, decide_eq_true_eq, beq_iff_eq] at h1 h2 ⊢
    rcases h1 with h1 | ⟨rfl, h1⟩ <;> rcases h2 with h2 | ⟨rfl, h2⟩
    · exact Or.inl (UInt8.lt_trans h1 h2)
    · exact Or.inl h1
    · exact Or.inl h2
    · exact Or.inr ⟨rfl, ih h1 h2⟩
theorem ls_tri : ∀ a b : List UInt8, ls a b = true ∨ a = b ∨ ls b a = true
  | [], [] => Or.inr (Or.inl rfl)
  | [], _ :: _ => Or.inl (by unfold ls; simp [Op.bytesLess])
  | _ :: _, [] => Or.inr (Or.inr (by unfold ls; simp [Op.bytesLess]))
  | a :: x, b :: y => by
    have ih := ls_tri x y
    unfold ls at ih ⊢
    simp only [Op.bytesLess, Bool.or_eq_true, Bool.and_eq_true, decide_eq_true_eq, beq_iff_eq, List.cons.injEq]
    rcases UInt8.lt_or_lt_of_ne (a := a) (b := b) |> fun h => Classical.em (a = b) |>.elim (fun e => Or.inl e) (fun n => Or.inr (h n)) with rfl | h | h
    · rcases ih with ih | rfl | ih
      · exact Or.inl (Or.inr ⟨rfl, ih⟩)
      · exact Or.inr (Or.inl ⟨rfl, rfl⟩)
      · exact Or.inr (Or.inr (Or.inr ⟨rfl, ih⟩))
    · exact Or.inl (Or.inl h)
    · exact Or.inr (Or.inr (Or.inl h))
theorem ls_asymm {a b : List UInt8} (h : ls a b = true) : ls b a = false := by
  cases h2 : ls b a with
  | false => rfl
  | true => have := ls_trans h h2; rw [ls_irrefl] at this; cases this
theorem ls_nil (a : List UInt8) : ls a [] = false := by unfold ls; cases a <;> rfl
theorem ls_pos {a : List UInt8} (h : a ≠ []) : ls [] a = true := by unfold ls; cases a <;> simp_all [Op.bytesLess]
theorem ls_ne {a b : List UInt8} (h : ls a b = true) : a ≠ b := by rintro rfl; rw [ls_irrefl] at h; cases h
/-- Not ahead, and then ahead. -/
theorem ls_of_not {a b c : List UInt8} (h1 : ls b a = false) (h2 : ls b c = true) : ls a c = true := by
  rcases ls_tri a b with h | rfl | h
  · exact ls_trans h h2
  · exact h2
  · rw [h] at h1; cases h1
theorem ls_of_not' {a b c : List UInt8} (h1 : ls a b = true) (h2 : ls c b = false) : ls a c = true := by
  rcases ls_tri b c with h | rfl | h
  · exact ls_trans h1 h
  · exact h1
  · rw [h] at h2; cases h2
theorem not_ls_trans {a b c : List UInt8} (h1 : ls b a = false) (h2 : ls c b = false) : ls c a = false := by
  cases h : ls c a with
  | false => rfl
  | true => have := ls_of_not h2 h; rw [this] at h1; cases h1
theorem eq_of_not {a b : List UInt8} (h1 : ls a b = false) (h2 : ls b a = false) : a = b := by
  rcases ls_tri a b with h | h | h
  · rw [h] at h1; cases h1
  · exact h
  · rw [h] at h2; cases h2
/-- 'a <= b', as the model spells it. -/
theorem le_spelt (a b : List UInt8) : (ls a b || a == b) = !ls b a := by
  rcases ls_tri a b with h | rfl | h
  · rw [h, ls_asymm h]; rfl
  · rw [ls_irrefl]; simp
  · rw [h, ls_asymm h]
    have := ls_ne h
    simp only [Bool.false_or, Bool.not_true, beq_eq_false_iff_ne, ne_eq]
    exact fun e => this e.symm

/-- A range has a text. -/
def hasB (lo hi k : List UInt8) : Bool := !ls k lo && (hi == [] || ls k hi)
/-- A range may be. -/
def mayB (lo hi : List UInt8) : Bool := decide (lo.length ≤ 24) && decide (hi.length ≤ 24) && (hi == [] || ls lo hi)
def maxT (a b : List UInt8) : List UInt8 := if ls a b = true then b else a
def meetB (a b c d : List UInt8) : Bool := hasB a b (maxT a c) && hasB c d (maxT a c)
/-- It can be split there. -/
def splitB (lo hi k : List UInt8) : Bool := mayB lo hi && decide (k.length ≤ 24) && hasB lo hi k && !(k == lo)

theorem hasB_iff (lo hi k : List UInt8) : hasB lo hi k = true ↔ ls k lo = false ∧ (hi = [] ∨ ls k hi = true) := by
  simp [hasB]
theorem mayB_iff (lo hi : List UInt8) : mayB lo hi = true ↔ lo.length ≤ 24 ∧ hi.length ≤ 24 ∧ (hi = [] ∨ ls lo hi = true) := by
  simp [mayB, and_assoc]
theorem splitB_iff (lo hi k : List UInt8) : splitB lo hi k = true ↔ mayB lo hi = true ∧ k.length ≤ 24 ∧ hasB lo hi k = true ∧ k ≠ lo := by
  simp [splitB, and_assoc]

/-- A range as a value; and no range. -/
abbrev rngV (lo hi : List UInt8) : Value := .agg #[.string (bstr lo), .string (bstr hi)]

theorem beq_bstr_nil (l : List UInt8) : (l == ([] : List UInt8)) = decide (l = []) := by cases l <;> rfl

end Go.Proofs.YtnfnlfdplnekgaaDoor

namespace Go.Proofs.YtnfnlfdplnekgaaDoor
open Go.RowKit
attribute [local go_sem] size_bstr toList_bstr ls_def

theorem below2 {w a b : World} (h : Below w.heap.size w a) (k : Below a.heap.size a b) : Below w.heap.size w b := h.trans (k.mono h.size)

/-- 'max' of two texts. -/
theorem run_max_text {P : Program} (ts : Array TypeId) (t : TypeId) (a b : List UInt8) (w : World) : (Builtin.max_ ts t #[.string (bstr a), .string (bstr b)]).run P w = .ok (.string (bstr (maxT a b))) w := by
  unfold maxT
  cases h : ls a b with
  | true => simp [Builtin.max_, Builtin.max2, Op.stringOp, toList_bstr, ls_def, h, asBool]
  | false => simp [Builtin.max_, Builtin.max2, Op.stringOp, toList_bstr, ls_def, h, asBool]

end Go.Proofs.YtnfnlfdplnekgaaDoor

namespace Go.Proofs.YtnfnlfdplnekgaaDoor
open Go.RowKit

theorem info_parts {x : Option TypeInfo} {z : Value} {a b : Nat} (h : x.map (fun i => (i.zero, i.size, i.bytes)) = some (some z, a, b)) : ∃ i, x = some i ∧ i.zero = some z ∧ i.size = a ∧ i.bytes = b := by
  cases x with
  | none => simp at h
  | some i => simp at h; exact ⟨i, rfl, h.1, h.2.1, h.2.2⟩
theorem own_below {w w' : World} {B e size n : Nat} {v : Value} {xs : List Value} (h : w.ownsRow B e size v n xs) (hb : Below w.heap.size w w') : w'.ownsRow B e size v n xs := by
  rcases h.2 with h0 | ⟨g, cap, cur, hv, hbg, hg, hnc, hcm, hcs, htake⟩
  · exact ⟨h.1, .inl h0⟩
  · have hlt : g < w.heap.size := by
      by_cases hl : g < w.heap.size
      · exact hl
      · rw [Array.getElem?_eq_none (Nat.le_of_not_lt hl)] at hg
        exact absurd hg (by simp)
    exact ⟨h.1, .inr ⟨g, cap, cur, hv, hbg, (hb.block g hlt).trans hg, hnc, hcm, hcs, htake⟩⟩
/-- What a call leaves as it was: all but the blocks of which S speaks, and new ones. -/
structure Kp (w w' : World) (S : Nat → Prop) : Prop where
  os : w'.os = w.os
  tape : w'.tape = w.tape
  output : w'.output = w.output
  size : w.heap.size ≤ w'.heap.size
  block : ∀ i, i < w.heap.size → ¬ S i → w'.heap[i]? = w.heap[i]?
theorem Kp.refl (w : World) (S : Nat → Prop) : Kp w w S := ⟨rfl, rfl, rfl, Nat.le_refl _, fun _ _ _ => rfl⟩
theorem Kp.trans {a b c : World} {S S' : Nat → Prop} (h : Kp a b S) (k : Kp b c S') (hS : ∀ i, S' i → S i ∨ a.heap.size ≤ i) : Kp a c S :=
  ⟨k.os.trans h.os, k.tape.trans h.tape, k.output.trans h.output, Nat.le_trans h.size k.size, fun i hi hn => (k.block i (Nat.lt_of_lt_of_le hi h.size) (fun hs => by
    rcases hS i hs with a | a
    · exact hn a
    · omega)).trans (h.block i hi hn)⟩
theorem Kp.mono {a b : World} {S S' : Nat → Prop} (h : Kp a b S) (hS : ∀ i, S i → S' i ∨ a.heap.size ≤ i) : Kp a b S' :=
  ⟨h.os, h.tape, h.output, h.size, fun i hi hn => h.block i hi (fun hs => by
    rcases hS i hs with a | a
    · exact hn a
    · omega)⟩
theorem Kp.drew {w w' : World} {S : Nat → Prop} (h : Kp w w' S) : Kp w w'.drew S := ⟨h.os, h.tape, h.output, h.size, h.block⟩
theorem Kp.of_below {w w' : World} (S : Nat → Prop) (h : Below w.heap.size w w') : Kp w w' S := ⟨h.os, h.tape, h.output, h.size, fun i hi _ => h.block i hi⟩
theorem Kp.below {w w' : World} {S : Nat → Prop} {B : Nat} (h : Kp w w' S) (hB : B ≤ w.heap.size) (hS : ∀ i, S i → B ≤ i) : Below B w w' :=
  ⟨h.os, h.tape, h.output, h.size, fun k hk => h.block k (by omega) (fun hs => by have := hS k hs; omega)⟩
theorem Kp.alloc {w w' : World} {S : Nat → Prop} (h : Kp w w' S) (o : Obj) : Kp w (w'.alloc o) S :=
  h.trans (Kp.of_below (fun _ => False) ((Below.refl _ _).alloc (Nat.le_refl _) o)) (fun _ h => h.elim)
theorem Kp.of_grown {w w' : World} {r : Option Nat} {S : Nat → Prop} (h : w.grownBy w' r) (hk : ∀ k, r = some k → S k) : Kp w w' S :=
  ⟨h.os, h.tape, h.output, h.size, fun i hi hn => h.block i hi (fun e => hn (hk i e.symm))⟩

theorem heap_set_same {w : World} {b o : Nat} {cs : Array Value} {t : TypeId} {fz : Nat × Nat} (h : w.heap[b]? = some (.cells cs t fz)) (v : Value) : (w.setCell ⟨b, o, none⟩ v).heap[b]? = some (.cells (cs.setIfInBounds o v) t fz) := by
  show (w.heap.modify b _)[b]? = _
  rw [Array.getElem?_modify, if_pos rfl, h]
  rfl
theorem heap_set_other {w : World} {b o i : Nat} (v : Value) (h : i ≠ b) : (w.setCell ⟨b, o, none⟩ v).heap[i]? = w.heap[i]? := Below.heap_setCell w ⟨b, o, none⟩ v i h
theorem Kp.setCell {w w' : World} {S : Nat → Prop} (h : Kp w w' S) {b o : Nat} (v : Value) (hb : S b ∨ w.heap.size ≤ b) : Kp w (w'.setCell ⟨b, o, none⟩ v) S := by
  refine h.trans (S' := fun i => i = b) ⟨rfl, rfl, rfl, ?_, fun i _ hi => heap_set_other v hi⟩ (fun i e => by subst e; exact hb)
  show _ ≤ (w'.heap.modify _ _).size
  rw [Array.size_modify]
  exact Nat.le_refl _
theorem blk_lt {w : World} {b : Nat} {o : Obj} (h : w.heap[b]? = some o) : b < w.heap.size := (Array.getElem?_eq_some_iff.1 h).1

theorem own_blk_lt {w : World} {B : Nat} {e : TypeId} {sz : Nat} {v : Value} {n : Nat} {xs : List Value} (h : w.ownsRow B e sz v n xs) {i : Nat} (hi : v.ownBlock = some i) : i < w.heap.size ∧ B ≤ i ∧ ∃ cur, w.heap[i]? = some (.cells cur e (0, 0)) := by
  rcases h.2 with ⟨rfl, _⟩ | ⟨g, cap, cur, rfl, hb, hg, _⟩
  · cases hi
  · cases hi; exact ⟨blk_lt hg, hb, cur, hg⟩

theorem wpIn_loop_n {F : Fence} {n : Nat} {P : Program} {Q : Exit → Act → World → Prop} {a : Act} {w : World} {c : Code} (I : Nat → Act → World → Prop) (m : Nat) (h0 : I m a w)
    (round : ∀ m a w, I m a w → c.wpIn F n P (Exit.then (fun a' w' => ∃ m', m = m' + 1 ∧ I m' a' w') Q) a w) : (Code.loop c).wpIn F n P Q a w := by
  refine wpIn_loop_rounds (m + 1) ?_
  induction m generalizing a w with
  | zero =>
    refine wpIn_mono (round 0 a w h0) ?_
    intro e a' w' hq
    cases e with
    | normal =>
      obtain ⟨m', e, _⟩ := hq
      omega
    | _ => exact hq
  | succ m ih =>
    refine wpIn_mono (round (m + 1) a w h0) ?_
    intro e a' w' hq
    cases e with
    | normal =>
      obtain ⟨m', e, hI⟩ := hq
      have : m' = m := by omega
      subst this
      exact ih hI
    | _ => exact hq

/-- A function whose body ranges over a function. -/
theorem calls_marks {P : Program} {f : FuncId} {fn : Func} {c : Code} {args : Array Value} {w : World} {R : Ending → World → Prop} (hf : P.funcs[f]? = some fn) (hb : fn.body = some c)
    (h : c.wpIn Fence.wide 3 P (bodyPostM Fence.wide 3 P fn R) { tmps := args ++ Array.replicate (fn.ntmps - args.size) undef, defers := [] } w) : Calls P f args w R :=
  callsIn_wide.1 (callsIn_of_wp_marks hf hb trivial h rfl)
theorem calls_in {P : Program} {f : FuncId} {fn : Func} {c : Code} {args : Array Value} {w : World} {R : Ending → World → Prop} (hf : P.funcs[f]? = some fn) (hb : fn.body = some c)
    (h : c.wpIn Fence.wide 3 P (bodyPost P fn R) { tmps := args ++ Array.replicate (fn.ntmps - args.size) undef, defers := [] } w) : Calls P f args w R :=
  callsIn_wide.1 (callsIn_of_wp hf hb trivial h rfl)

/-- The record of a loop. -/
abbrev recd (fn : FuncId) (a : Act) (ps : Array Tmp) (assign body : Code) (D : Nat) (st : LoopState) (pe : Option Code) : Loop := { state := st, pending := pe, fn := fn, tmps := a.tmps, params := ps, assign := assign, body := body, defers := D }

theorem wp_range {P : Program} {n : Nat} {g : Operand} {ps : Array Tmp} {assign body : Code} {Q : Exit → Act → World → Prop} {a : Act} {w : World} {gf : Nat} {fs lb : Array Value} (h1 : 1 ≤ n)
    (hg : a.eval g = .func (.func gf) fs lb) (eg : ∀ args w, (callFunc gf args).run P w = .ok (.enter gf args) w)
    (h : ∀ fn, Calls P gf (fs ++ #[.func (.yield (w.heap.size + 1)) #[] #[]] ++ lb) ((w.alloc (.deferred (some []))).alloc (.loop (recd fn a ps assign body w.heap.size .ready none))) fun e W => (∃ v, e = .returned v) ∧
      ((W.heap[w.heap.size + 1]? = some (.loop (recd fn a ps assign body w.heap.size .ready none)) ∧ Q .normal { a with defers := { target := .collected w.heap.size, args := #[] } :: a.defers } (W.putObj (w.heap.size + 1) (.loop (recd fn a ps assign body w.heap.size .exhausted none)))) ∨
       ∃ c, W.heap[w.heap.size + 1]? = some (.loop (recd fn a ps assign body w.heap.size .done (some c))) ∧ c.wpIn Fence.wide n P Q { a with defers := { target := .collected w.heap.size, args := #[] } :: a.defers } (W.putObj (w.heap.size + 1) (.loop (recd fn a ps assign body w.heap.size .exhausted (some c)))))) :
    (Code.rangeFunc g ps assign body).wpIn Fence.wide n P Q a w := by
  refine wpIn_rangeFunc ?_
  intro fn hfn
  refine ⟨w.heap.size + 1, [{ target := .collected w.heap.size, args := #[] }], (w.alloc (.deferred (some []))).alloc (.loop (recd fn a ps assign body w.heap.size .ready none)), { target := .fn (.func gf) lb, args := fs ++ #[.func (.yield (w.heap.size + 1)) #[] #[]] }, (w.alloc (.deferred (some []))).alloc (.loop (recd fn a ps assign body w.heap.size .ready none)), gf,
    fs ++ #[.func (.yield (w.heap.size + 1)) #[] #[]] ++ lb, (w.alloc (.deferred (some []))).alloc (.loop (recd fn a ps assign body w.heap.size .ready none)), ?_, ?_, ?_, ?_, fun _ => h1, ?_⟩
  · exact run_enterLoop_outer _ _ _ _ _
  · simp only [resolve, hg]
    simp [go_sem]
  · intro f' hf'; exact trivial
  · simp [invoke, go_sem, eg]
  · refine callsIn_wide.2 ((h fn).mono ?_)
    rintro e W ⟨⟨v, rfl⟩, (⟨hl, hq⟩ | ⟨c, hl, hq⟩)⟩
    · exact ⟨none, _, run_endLoop (P := P) hl (by simp), hq⟩
    · exact ⟨some c, _, run_endLoop (P := P) hl (by simp), hq⟩

/-- A round. -/
theorem yield_round {P : Program} {n l : Nat} {r : Loop} {args : Array Value} {W : World} {R : Ending → World → Prop} (hl : W.heap[l]? = some (.loop r)) (hs : args.size = r.params.size)
    (h : r.assign.wpIn (Fence.wide.inRound l) n P (Exit.then (fun a₁ w₁ => ∃ w₂, (Instr.beginRound l).run P w₁ = .ok () w₂ ∧ r.body.wpIn (Fence.wide.inRound l) n P (roundPost P l R) a₁ w₂) (fun _ _ _ => False))
      { tmps := (r.params.zip args).foldl (fun t (p, v) => t.setIfInBounds p v) r.tmps, defers := [] } W) : YieldAt Fence.wide n P l args W R :=
  ⟨r.fn, _, r.assign, r.body, run_yield hl hs, roundIn_of_wpIn trivial h⟩

theorem Kp.put {w w' : World} {S : Nat → Prop} (h : Kp w w' S) {b : Nat} (o : Obj) (hb : S b ∨ w.heap.size ≤ b) : Kp w (w'.putObj b o) S := by
  refine h.trans (S' := fun i => i = b) ⟨rfl, rfl, rfl, by simp, fun i _ hi => World.putObj_heap_other hi⟩ (fun i e => by subst e; exact hb)

/-- A loop's record, before its first round. -/
structure RecOf (RR : Loop) (tmps : Array Value) (ps : Array Tmp) (assign body : Code) : Prop where
  t : RR.tmps = tmps
  p : RR.params = ps
  a : RR.assign = assign
  b : RR.body = body
  s : RR.state = .ready
  e : RR.pending = none
theorem wp_range2 {P : Program} {n : Nat} {g : Operand} {ps : Array Tmp} {assign body : Code} {Q : Exit → Act → World → Prop} {a : Act} {w : World} {gf : Nat} {fs lb : Array Value} (h1 : 1 ≤ n)
    (hg : a.eval g = .func (.func gf) fs lb) (eg : ∀ args w, (callFunc gf args).run P w = .ok (.enter gf args) w)
    (h : ∀ RR, RecOf RR a.tmps ps assign body → Calls P gf (fs ++ #[.func (.yield (w.heap.size + 1)) #[] #[]] ++ lb) ((w.alloc (.deferred (some []))).alloc (.loop RR)) fun e W => (∃ v, e = .returned v) ∧
      ((W.heap[w.heap.size + 1]? = some (.loop RR) ∧ Q .normal { a with defers := { target := .collected w.heap.size, args := #[] } :: a.defers } (W.putObj (w.heap.size + 1) (.loop { RR with state := .exhausted }))) ∨
       ∃ c, W.heap[w.heap.size + 1]? = some (.loop { RR with state := .done, pending := some c }) ∧ c.wpIn Fence.wide n P Q { a with defers := { target := .collected w.heap.size, args := #[] } :: a.defers } (W.putObj (w.heap.size + 1) (.loop { RR with state := .exhausted, pending := some c })))) :
    (Code.rangeFunc g ps assign body).wpIn Fence.wide n P Q a w :=
  wp_range h1 hg eg fun fn => h (recd fn a ps assign body w.heap.size .ready none) ⟨rfl, rfl, rfl, rfl, rfl, rfl⟩
theorem yield_round2 {P : Program} {n l : Nat} {RR : Loop} {args tmps : Array Value} {ps : Array Tmp} {assign body : Code} {W : World} {R : Ending → World → Prop} (hl : W.heap[l]? = some (.loop RR)) (hR : RecOf RR tmps ps assign body) (hs : args.size = ps.size)
    (h : assign.wpIn (Fence.wide.inRound l) n P (Exit.then (fun a₁ w₁ => ∃ w₂, (Instr.beginRound l).run P w₁ = .ok () w₂ ∧ body.wpIn (Fence.wide.inRound l) n P (roundPost P l R) a₁ w₂) (fun _ _ _ => False))
      { tmps := (ps.zip args).foldl (fun t (p, v) => t.setIfInBounds p v) tmps, defers := [] } W) : YieldAt Fence.wide n P l args W R := by
  refine yield_round hl (by rw [hR.p]; exact hs) ?_
  rw [hR.a, hR.b, hR.t, hR.p]
  exact h

end Go.Proofs.YtnfnlfdplnekgaaDoor
