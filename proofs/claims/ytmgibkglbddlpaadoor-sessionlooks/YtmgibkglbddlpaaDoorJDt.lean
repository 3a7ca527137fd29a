/-
  The document's take: its parts.
-/
import Derived.Test.YtmgibkglbddlpaaDoorJRRd
import Derived.Test.YtmgibkglbddlpaaDoorJRf2
namespace Go.Proofs.YtmgibkglbddlpaaDoor
open Go.RowKit Go.BigFrame
attribute [local go_sem] size_bstr toList_bstr

structure KD (g t : Nat) (w w' : World) : Prop where
  os : w'.os = w.os
  tape : w'.tape = w.tape
  output : w'.output = w.output
  size : w.heap.size ≤ w'.heap.size
  block : ∀ k, k < w.heap.size → k ≠ g → k ≠ t → w'.heap[k]? = w.heap[k]?
theorem KD.refl (g t : Nat) (w : World) : KD g t w w := ⟨rfl, rfl, rfl, Nat.le_refl _, fun _ _ _ _ => rfl⟩
theorem KD.trans {g t : Nat} {a b c : World} (h : KD g t a b) (k : KD g t b c) : KD g t a c := ⟨k.os.trans h.os, k.tape.trans h.tape, k.output.trans h.output, Nat.le_trans h.size k.size, fun i hi h1 h2 => (k.block i (Nat.lt_of_lt_of_le hi h.size) h1 h2).trans (h.block i hi h1 h2)⟩
theorem KD.gr {g t : Nat} {a b : World} (h : a.grownBy b (some g)) : KD g t a b := ⟨h.os, h.tape, h.output, h.size, fun i hi h1 _ => h.block i hi (fun e => h1 (by cases e; rfl))⟩
theorem KD.below {g t : Nat} {a b : World} (h : Below a.heap.size a b) : KD g t a b := ⟨h.os, h.tape, h.output, h.size, fun i hi _ _ => h.block i hi⟩
theorem KD.set {g t o : Nat} {a b : World} {v : Value} (h : KD g t a b) : KD g t a (b.setCell ⟨t, o, none⟩ v) := ⟨h.os, h.tape, h.output, by simpa [World.setCell] using h.size, fun i hi h1 h2 => (heap_set_other v h2).trans (h.block i hi h1 h2)⟩
/-- A take: block t, its reader's block g, whether something was wrong, what is left. -/
structure DT (w : World) (g t : Nat) (bad : Bool) (l : List UInt8) : Prop where
  r : Rr w g (bstr l)
  b : w.heap[t]? = some (.cells #[.pointer (some ⟨g, 0, none⟩), .bool bad] 77 (0, 0))
  ne : t ≠ g
theorem DT.c0 {w : World} {g t : Nat} {bad : Bool} {l : List UInt8} (h : DT w g t bad l) : w.cell? ⟨t, 0, none⟩ = some (.pointer (some ⟨g, 0, none⟩)) := (mcells h.b).1 0
theorem DT.c1 {w : World} {g t : Nat} {bad : Bool} {l : List UInt8} (h : DT w g t bad l) : w.cell? ⟨t, 1, none⟩ = some (.bool bad) := (mcells h.b).1 1
theorem DT.fz {w : World} {g t : Nat} {bad : Bool} {l : List UInt8} (h : DT w g t bad l) (o : Nat) : w.frozen? ⟨t, o, none⟩ = false := (mcells h.b).2 o
theorem DT.lt {w : World} {g t : Nat} {bad : Bool} {l : List UInt8} (h : DT w g t bad l) : t < w.heap.size ∧ g < w.heap.size := ⟨blk_lt h.b, h.r.lt⟩
theorem DT.read {w w' : World} {g t : Nat} {bad : Bool} {l l' : List UInt8} (h : DT w g t bad l) (hr : Rr w' g (bstr l')) (hg : w.grownBy w' (some g)) : DT w' g t bad l' :=
  ⟨hr, (hg.block t (blk_lt h.b) (fun e => h.ne (by cases e; rfl))).trans h.b, h.ne⟩
theorem DT.bad {w : World} {g t : Nat} {bad : Bool} {l : List UInt8} (h : DT w g t bad l) : DT (w.setCell ⟨t, 1, none⟩ (.bool true)) g t true l :=
  ⟨(heap_set_other _ (fun e => h.ne e.symm)).trans h.r, heap_set_same h.b (o := 1) _, h.ne⟩
theorem DT.below {w w' : World} {g t : Nat} {bad : Bool} {l : List UInt8} (h : DT w g t bad l) (hb : Below w.heap.size w w') : DT w' g t bad l :=
  ⟨h.r.next hb, (hb.block t (blk_lt h.b)).trans h.b, h.ne⟩
/-- Another block written. -/
theorem DT.far {w : World} {g t b o : Nat} {bad : Bool} {l : List UInt8} {v : Value} (h : DT w g t bad l) (h1 : b ≠ g) (h2 : b ≠ t) : DT (w.setCell ⟨b, o, none⟩ v) g t bad l :=
  ⟨(heap_set_other v (fun e => h1 e.symm)).trans h.r, (heap_set_other v (fun e => h2 e.symm)).trans h.b, h.ne⟩

def dN (m : Nat) (l : List UInt8) : Bool := okN l && decide (nV l ≤ m)
def dX (m : Nat) (l : List UInt8) : Nat := if dN m l then nV l else 0
theorem dX_le (m : Nat) (l : List UInt8) : dX m l ≤ m := by
  unfold dX
  split
  · rename_i h
    simp only [dN, Bool.and_eq_true, decide_eq_true_eq] at h
    exact h.2
  · omega

set_option maxHeartbeats 2000000 in
theorem dN_any (g t m : Nat) (bad : Bool) (l : List UInt8) (w : World) (h : DT w g t bad l) (hl : l.length ≤ 10000000) :
    Calls Tryd.prog 60 #[.pointer (some ⟨t, 0, none⟩), .int .u64 (m : Int)] w fun e w' => e = .returned (.int .u64 (dX m l : Int)) ∧ DT w' g t (bad || !dN m l) (nR l) ∧ KD g t w w' := by
  have c0 := h.c0
  obtain ⟨X, hX⟩ : ∃ X, X = dX m l := ⟨_, rfl⟩
  obtain ⟨A, hA⟩ : ∃ A, A = (bad || !dN m l) := ⟨_, rfl⟩
  rw [← hX, ← hA]
  have HX : Hid _ := hX
  have HA : Hid _ := hA
  clear hX hA
  go_enter Tryd.func60, Tryd.ntmps60
  go_wp2_with fail
  refine (RNumber_r g l w h.r hl).mono ?_
  rintro e w1 ⟨rfl, r1, g1⟩
  have h1 := h.read r1 g1
  have k1 : KD g t w w1 := KD.gr g1
  have c1 := h1.c1
  have fz := h1.fz
  clear r1 g1 c0 h
  cases ho : okN l
  case false =>
    obtain rfl : X = 0 := by rw [HX.out]; simp [dX, dN, ho]
    obtain rfl : A = true := by rw [HA.out]; simp [dN, ho]
    clear HX HA
    go_wp2
    go_ret
    exact ⟨rfl, h1.bad, k1.set⟩
  case true =>
    by_cases hm : nV l ≤ m
    · have hm' : (nV l : Int) ≤ (m : Int) := by omega
      obtain rfl : X = nV l := by rw [HX.out]; simp [dX, dN, ho, hm]
      obtain rfl : A = bad := by rw [HA.out]; simp [dN, ho, hm]
      clear hm HX HA
      go_wp2
      go_ret
      exact ⟨rfl, h1, k1⟩
    · have hm' : (m : Int) < (nV l : Int) := by omega
      obtain rfl : X = 0 := by rw [HX.out]; simp [dX, dN, ho, hm]
      obtain rfl : A = true := by rw [HA.out]; simp [dN, ho, hm]
      clear hm HX HA
      go_wp2
      go_ret
      exact ⟨rfl, h1.bad, k1.set⟩
set_option maxHeartbeats 2000000 in
theorem dK_any (g t : Nat) (bad : Bool) (l : List UInt8) (w : World) (h : DT w g t bad l) (hl : l.length ≤ 10000000) :
    Calls Tryd.prog 57 #[.pointer (some ⟨t, 0, none⟩)] w fun e w' => e = .returned (.int .i64 (dX 1073741824 l : Int)) ∧ DT w' g t (bad || !dN 1073741824 l) (nR l) ∧ KD g t w w' := by
  have hx := dX_le 1073741824 l
  obtain ⟨x, hX⟩ : ∃ x, x = dX 1073741824 l := ⟨_, rfl⟩
  rw [← hX] at hx ⊢
  have HX : Hid _ := hX
  clear hX
  go_enter Tryd.func57, Tryd.ntmps57
  go_wp2_with fail
  refine (dN_any g t 1073741824 bad l w h hl).mono ?_
  rintro e w1 ⟨rfl, h1, k1⟩
  rw [← HX.out]
  have hw : IntKind.i64.wrap (x : Int) = (x : Int) := by rw [IntKind.wrap_i64]; omega
  go_wp2
  go_ret
  exact ⟨rfl, h1, k1⟩
def dB (l : List UInt8) : Bool := okB l && decide ((bV l).toNat ≤ 1)
set_option maxHeartbeats 2000000 in
theorem dB_any (g t : Nat) (bad : Bool) (l : List UInt8) (w : World) (h : DT w g t bad l) :
    Calls Tryd.prog 58 #[.pointer (some ⟨t, 0, none⟩)] w fun e w' => e = .returned (.bool (decide ((bV l).toNat = 1))) ∧ DT w' g t (bad || !dB l) (bR l) ∧ KD g t w w' := by
  have c0 := h.c0
  obtain ⟨x, hX⟩ : ∃ x, x = (bV l).toNat := ⟨_, rfl⟩
  obtain ⟨A, hA⟩ : ∃ A, A = (bad || !dB l) := ⟨_, rfl⟩
  obtain ⟨R, hR⟩ : ∃ R, R = decide ((bV l).toNat = 1) := ⟨_, rfl⟩
  rw [← hR, ← hA]
  have HX : Hid _ := hX
  have HA : Hid _ := hA
  have HR : Hid _ := hR
  clear hX hA hR
  go_enter Tryd.func58, Tryd.ntmps58
  go_wp2_with fail
  refine (RByte_r g l w h.r).mono ?_
  rintro e w1 ⟨rfl, r1, g1⟩
  rw [← HX.out]
  have h1 := h.read r1 g1
  have k1 : KD g t w w1 := KD.gr g1
  have c1 := h1.c1
  have fz := h1.fz
  clear r1 g1 c0 h
  obtain hx0 | hx1 | hx2 : x = 0 ∨ x = 1 ∨ 1 < x := by omega
  · subst hx0
    obtain rfl : R = false := by rw [HR.out, ← HX.out]; rfl
    cases ho : okB l
    · obtain rfl : A = true := by rw [HA.out]; simp [dB, ho]
      clear HX HA HR
      go_wp2
      go_ret
      exact ⟨rfl, h1.bad, k1.set⟩
    · obtain rfl : A = bad := by rw [HA.out]; simp [dB, ho, ← HX.out]
      clear HX HA HR
      go_wp2
      go_ret
      exact ⟨rfl, h1, k1⟩
  · subst hx1
    obtain rfl : R = true := by rw [HR.out, ← HX.out]; rfl
    cases ho : okB l
    · obtain rfl : A = true := by rw [HA.out]; simp [dB, ho]
      clear HX HA HR
      go_wp2
      go_ret
      exact ⟨rfl, h1.bad, k1.set⟩
    · obtain rfl : A = bad := by rw [HA.out]; simp [dB, ho, ← HX.out]
      clear HX HA HR
      go_wp2
      go_ret
      exact ⟨rfl, h1, k1⟩
  · have hxi : (1 : Int) < (x : Int) := by omega
    obtain rfl : R = false := by rw [HR.out, ← HX.out]; exact decide_eq_false (by omega)
    obtain rfl : A = true := by rw [HA.out]; simp [dB, ← HX.out]; omega
    clear HX HA HR hx2
    cases ho : okB l
    all_goals
      go_wp2
      go_ret
      first | exact ⟨rfl, h1.bad, k1.set⟩ | exact ⟨congrArg (fun b => Ending.returned (.bool b)) (decide_eq_false (by omega)), h1.bad, k1.set⟩
set_option maxHeartbeats 2000000 in
theorem dT_any (g t : Nat) (bad : Bool) (l : List UInt8) (w : World) (h : DT w g t bad l) (hl : l.length ≤ 10000000) :
    Calls Tryd.prog 59 #[.pointer (some ⟨t, 0, none⟩), .int .i64 65536] w fun e w' => e = .returned (.string (bstr (tV 65536 l))) ∧ DT w' g t (bad || !okT 65536 l) (tR 65536 l) ∧ KD g t w w' := by
  have c0 := h.c0
  go_enter Tryd.func59, Tryd.ntmps59
  go_wp2_with fail
  refine (RText_r g 65536 l w h.r hl (by decide)).mono ?_
  rintro e w1 ⟨rfl, r1, g1⟩
  have h1 := h.read r1 g1
  have k1 : KD g t w w1 := KD.gr g1
  have c1 := h1.c1
  have fz := h1.fz
  clear r1 g1 c0 h
  cases ho : okT 65536 l
  · go_wp2
    go_ret
    exact ⟨rfl, by rw [ho, Bool.not_false, Bool.or_true]; exact h1.bad, k1.set⟩
  · go_wp2
    go_ret
    exact ⟨rfl, by rw [ho, Bool.not_true, Bool.or_false]; exact h1, k1⟩

end Go.Proofs.YtmgibkglbddlpaaDoor
