/-
  A region that draws its order, some of whose operations have come up: the rest walked once, in the order of the text, where each of them is quiet in a class of worlds.
-/
import Derived.BigQuiet
import Derived.Lib.QuietBelow
import Derived.RegionTactic
import Derived.Deep.RegionHeld3
namespace Go.Proofs.Ytfjomggofncdmaa
open Go.RowKit

theorem wpAny_quiet_tail {P : Program} {md : Region.Mode} {ops : Array Oper} {C : World → Prop} {Q : Exit → Act → World → Prop} {listed : Array Bool} {a : Act} {w : World} (l : List Oper) (k : Nat) (fuel : Nat) (hfuel : l.length = fuel)
    (hs : Region.noSelect ops = true) (hl : l = ops.toList.drop k) (hB : Region.lexFrom md ops l.length k listed = true) (hC : C w)
    (h : wpQuiet P ops C (fun a' => ∀ w', C w' → Q .normal a' w') l a) : wpAny P md ops Q fuel listed a w := by
  subst hfuel
  refine wpAny_of_quiet (C := C) (Q := fun a' => ∀ w', C w' → Q .normal a' w') (fun _ w' hw' h => h w' hw') _ _ _ _ hC ?_
  refine wpAnyQ_lex hs l k listed a (fun j => ?_) hB h
  rw [hl]
  simp

/-- The same at the class 'of what was there nothing has turned'. -/
theorem wpAny_quiet_tail_below {P : Program} {md : Region.Mode} {ops : Array Oper} {Q : Exit → Act → World → Prop} {listed : Array Bool} {a : Act} {w : World} (l : List Oper) (k : Nat) (fuel : Nat) (hfuel : l.length = fuel)
    (hs : Region.noSelect ops = true) (hl : l = ops.toList.drop k) (hB : Region.lexFrom md ops l.length k listed = true)
    (h : wpQuiet P ops (fun w' => ∃ p : Regrown, w' = Sort.grow (redrawn w p.d) p.os) (fun a' => ∀ w', (∃ p : Regrown, w' = Sort.grow (redrawn w p.d) p.os) → Q .normal a' w') l a) : wpAny P md ops Q fuel listed a w :=
  wpAny_quiet_tail l k fuel hfuel hs hl hB (regrown_of_below (Below.refl _ w)) h

end Go.Proofs.Ytfjomggofncdmaa
