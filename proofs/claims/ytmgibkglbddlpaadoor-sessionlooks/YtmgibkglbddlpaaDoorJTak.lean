/-
  ops' taker: its three functions, and the parts that are taken by them.
-/
import Derived.Test.YtmgibkglbddlpaaDoorJEnc
namespace Go.Proofs.YtmgibkglbddlpaaDoor
open Go.RowKit Go.BigFrame
attribute [local go_sem] size_bstr toList_bstr

/-- The reader, what holds it, and whether all was there. -/
structure Tk (W0 : World) (g nr na : Nat) (a : Bool) (l : List UInt8) (W : World) : Prop where
  rd : Rd W g (bstr l)
  r0 : W.cell? ⟨nr, 0, none⟩ = some (.pointer (some ⟨g, 0, none⟩))
  a0 : W.cell? ⟨na, 0, none⟩ = some (.bool a)
  af : W.frozen? ⟨na, 0, none⟩ = false
  gr : W0.grownBy W (some g)
  lt : g < W0.heap.size
  ler : W0.heap.size ≤ nr
  lea : W0.heap.size ≤ na
  ne : nr ≠ na
  ra : nr < W.heap.size
  rn : na < W.heap.size
/-- All other blocks are as they were. -/
def Kt (g na : Nat) (W W' : World) : Prop := W.heap.size ≤ W'.heap.size ∧ ∀ k, k < W.heap.size → k ≠ g → k ≠ na → W'.heap[k]? = W.heap[k]?
theorem Kt.refl (g na : Nat) (W : World) : Kt g na W W := ⟨Nat.le_refl _, fun _ _ _ _ => rfl⟩
theorem Kt.trans {g na : Nat} {A B C : World} (h : Kt g na A B) (k : Kt g na B C) : Kt g na A C := ⟨Nat.le_trans h.1 k.1, fun i hi h1 h2 => (k.2 i (Nat.lt_of_lt_of_le hi h.1) h1 h2).trans (h.2 i hi h1 h2)⟩
theorem Kt.below {g na : Nat} {A B : World} (h : RowKit.Below A.heap.size A B) : Kt g na A B := ⟨h.size, fun i hi _ _ => h.block i hi⟩
theorem Kt.cell {g na : Nat} {A B : World} (h : Kt g na A B) {k o : Nat} (hk : k < A.heap.size) (h1 : k ≠ g) (h2 : k ≠ na) : B.cell? ⟨k, o, none⟩ = A.cell? ⟨k, o, none⟩ := World.cell?_of_block (a := ⟨k, o, none⟩) (h.2 k hk h1 h2)
/-- A call of the reader. -/
theorem Tk.read {W0 W W' : World} {g nr na : Nat} {a : Bool} {l l' : List UInt8} (h : Tk W0 g nr na a l W) (hr : Rd W' g (bstr l')) (hg : W.grownBy W' (some g)) : Tk W0 g nr na a l' W' := by
  have h1 : some nr ≠ some g := fun e => by have := h.ler; have := h.lt; cases e; omega
  have h2 : some na ≠ some g := fun e => by have := h.lea; have := h.lt; cases e; omega
  exact ⟨hr, hg.cell h.r0 h1, hg.cell h.a0 h2, (World.frozen?_of_block (a := ⟨na, 0, none⟩) (hg.block na h.rn h2)).trans h.af, grown_trans h.gr hg, h.lt, h.ler, h.lea, h.ne, Nat.lt_of_lt_of_le h.ra hg.size, Nat.lt_of_lt_of_le h.rn hg.size⟩
theorem Tk.set {W0 W : World} {g nr na : Nat} {a b : Bool} {l : List UInt8} (h : Tk W0 g nr na a l W) : Tk W0 g nr na b l (W.setCell ⟨na, 0, none⟩ (.bool b)) := by
  have h2 : g ≠ na := fun e => by have := h.lea; have := h.lt; omega
  have hlt := h.rn
  refine ⟨?_, ?_, ?_, ?_, ?_, h.lt, h.ler, h.lea, h.ne, by simpa [World.setCell] using h.ra, by simpa [World.setCell] using h.rn⟩
  · have := h.rd
    unfold Rd at this ⊢
    rw [Below.heap_setCell _ ⟨na, 0, none⟩ _ g h2]
    exact this
  · rw [World.cell?_of_block (a := ⟨nr, 0, none⟩) (Below.heap_setCell W ⟨na, 0, none⟩ (.bool b) nr h.ne)]
    exact h.r0
  · exact World.cell?_setCell_same (h := h.a0) ..
  · rw [World.frozen?_setCell]; exact h.af
  · have := h.gr
    exact ⟨this.os, this.tape, this.output, by simpa [World.setCell] using this.size, fun k hk hkg => by
      rw [Below.heap_setCell _ ⟨na, 0, none⟩ _ k (by have := h.lea; show k ≠ na; omega)]
      exact this.block k hk hkg⟩
theorem Kt.set {g na o : Nat} {A B : World} {v : Value} (h : Kt g na A B) : Kt g na A (B.setCell ⟨na, o, none⟩ v) := ⟨by simpa [World.setCell] using h.1, fun i hi h1 h2 => by rw [Below.heap_setCell _ ⟨na, o, none⟩ _ i h2]; exact h.2 i hi h1 h2⟩
theorem Kt.grown {g na : Nat} {A B : World} (h : A.grownBy B (some g)) : Kt g na A B := ⟨h.size, fun i hi h1 _ => h.block i hi fun e => h1 (by cases e; rfl)⟩


set_option maxHeartbeats 2000000 in
set_option maxRecDepth 100000 in
theorem jNumber_any (g nr na : Nat) (a : Bool) (m : Nat) (l : List UInt8) (W0 W : World) (h : Tk W0 g nr na a l W) (hl : l.length ≤ 1048576) :
    Calls Tryd.prog 70 #[.int .u64 (m : Int), .pointer (some ⟨nr, 0, none⟩), .pointer (some ⟨na, 0, none⟩)] W fun e W' => e = .returned (.int .u64 (nX a m l : Int)) ∧ Tk W0 g nr na (nA a m l) (nR l) W' ∧ Kt g na W W' := by
  have r0 := h.r0
  obtain ⟨X, hX⟩ : ∃ X, X = nX a m l := ⟨_, rfl⟩
  obtain ⟨A, hA⟩ : ∃ A, A = nA a m l := ⟨_, rfl⟩
  rw [← hX, ← hA]
  have HX : Hid _ := hX
  have HA : Hid _ := hA
  clear hX hA
  go_enter Tryd.func70, Tryd.ntmps70
  go_wp2_with fail
  refine (Number_r g l W h.rd (by omega)).mono ?_
  rintro e w1 ⟨rfl, r1, g1⟩
  have h1 := h.read r1 g1
  have k1 : Kt g na W w1 := Kt.grown g1
  have a0 := h1.a0
  have af := h1.af
  clear r1 g1 r0 h
  cases a <;> cases ho : okN l
  case false.false | false.true | true.false =>
    obtain rfl : X = 0 := by rw [HX.out]; simp [nX, nA, ho]
    obtain rfl : A = false := by rw [HA.out]; simp [nA, ho]
    clear HX HA
    go_wp2
    go_ret
    exact ⟨rfl, h1.set, k1.set⟩
  case true.true =>
    by_cases hm : nV l ≤ m
    · have hm' : (nV l : Int) ≤ (m : Int) := by omega
      obtain rfl : X = nV l := by rw [HX.out]; simp [nX, nA, ho, hm]
      obtain rfl : A = true := by rw [HA.out]; simp [nA, ho, hm]
      clear hm HX HA
      go_wp2
      go_ret
      exact ⟨rfl, h1.set, k1.set⟩
    · have hm' : (m : Int) < (nV l : Int) := by omega
      obtain rfl : X = 0 := by rw [HX.out]; simp [nX, nA, ho, hm]
      obtain rfl : A = false := by rw [HA.out]; simp [nA, ho, hm]
      have hd := decide_eq_false hm
      clear hm HX HA
      go_wp2
      go_ret
      exact ⟨rfl, h1.set, k1.set⟩

set_option maxHeartbeats 2000000 in
set_option maxRecDepth 100000 in
theorem jText_any (g nr na : Nat) (a : Bool) (l : List UInt8) (W0 W : World) (h : Tk W0 g nr na a l W) (hl : l.length ≤ 1048576) :
    Calls Tryd.prog 71 #[.pointer (some ⟨nr, 0, none⟩), .pointer (some ⟨na, 0, none⟩)] W fun e W' => e = .returned (.string (bstr (tX a l))) ∧ Tk W0 g nr na (tA a l) (tS l) W' ∧ Kt g na W W' := by
  have r0 := h.r0
  obtain ⟨X, hX⟩ : ∃ X, X = tX a l := ⟨_, rfl⟩
  obtain ⟨A, hA⟩ : ∃ A, A = tA a l := ⟨_, rfl⟩
  rw [← hX, ← hA]
  have HX : Hid _ := hX
  have HA : Hid _ := hA
  clear hX hA
  go_enter Tryd.func71, Tryd.ntmps71
  go_wp2_with fail
  refine (Text_r g 1048576 l W h.rd (by omega) (by omega)).mono ?_
  rintro e w1 ⟨rfl, r1, g1⟩
  have h1 := h.read r1 g1
  have k1 : Kt g na W w1 := Kt.grown g1
  have a0 := h1.a0
  have af := h1.af
  clear r1 g1 r0 h
  cases a <;> cases ho : okT 1048576 l
  case false.false | false.true | true.false =>
    obtain rfl : X = [] := by rw [HX.out]; simp [tX, tA, ho]
    obtain rfl : A = false := by rw [HA.out]; simp [tA, ho]
    clear HX HA
    go_wp2
    go_ret
    exact ⟨rfl, h1.set, k1.set⟩
  case true.true =>
    obtain rfl : X = tV 1048576 l := by rw [HX.out]; simp [tX, tA, ho]
    obtain rfl : A = true := by rw [HA.out]; simp [tA, ho]
    clear HX HA
    go_wp2
    go_ret
    exact ⟨rfl, h1.set, k1.set⟩

set_option maxHeartbeats 2000000 in
set_option maxRecDepth 100000 in
theorem jWhole_any (g nr na : Nat) (a : Bool) (l : List UInt8) (W0 W : World) (h : Tk W0 g nr na a l W) :
    Calls Tryd.prog 73 #[.pointer (some ⟨na, 0, none⟩), .pointer (some ⟨nr, 0, none⟩)] W fun e W' => e = .returned (.bool (a && decide (l.length = 0))) ∧ W' = W := by
  have r0 := h.r0
  have a0 := h.a0
  obtain ⟨D, hD⟩ : ∃ D, D = decide (l.length = 0) := ⟨_, rfl⟩
  rw [← hD]
  have HD : Hid _ := hD
  clear hD
  go_enter Tryd.func73, Tryd.ntmps73
  cases a
  · go_wp2
    go_ret
    exact ⟨rfl, rfl⟩
  · go_wp2_with fail
    refine (Left_any g l W h.rd).mono ?_
    rintro e w1 ⟨rfl, rfl⟩
    by_cases h0 : l.length = 0
    · have hi : (l.length : Int) = 0 := by omega
      obtain rfl : D = true := by rw [HD.out]; exact decide_eq_true h0
      clear h0 HD
      go_wp2
      go_ret
      exact ⟨rfl, rfl⟩
    · have hi : ((l.length : Int) == 0) = false := beq_eq_false_iff_ne.2 (by omega)
      have hi2 : 0 < l.length := by omega
      obtain rfl : D = false := by rw [HD.out]; exact decide_eq_false h0
      clear h0 HD
      go_wp2
      go_ret
      exact ⟨rfl, rfl⟩

/-! ### the parts -/
/-- The taker as a value. -/
abbrev tkV (nr na : Nat) : Value := .agg #[.func (.func 70) #[] #[.pointer (some ⟨nr, 0, none⟩), .pointer (some ⟨na, 0, none⟩)], .func (.func 71) #[] #[.pointer (some ⟨nr, 0, none⟩), .pointer (some ⟨na, 0, none⟩)], .func (.func 73) #[] #[.pointer (some ⟨na, 0, none⟩), .pointer (some ⟨nr, 0, none⟩)]]
theorem Tk.step {W0 W W' : World} {g nr na : Nat} {a : Bool} {l : List UInt8} (h : Tk W0 g nr na a l W) (hb : RowKit.Below W.heap.size W W') : Tk W0 g nr na a l W' := h.read (h.rd.below hb h.rd.lt) (grown_of_below hb)

set_option maxHeartbeats 2000000 in
theorem jUint_any (g nr na : Nat) (a : Bool) (l : List UInt8) (W0 W : World) (h : Tk W0 g nr na a l W) (hl : l.length ≤ 1048576) :
    Calls Tryd.prog 56 #[tkV nr na] W fun e W' => e = .returned (.int .u64 (nX a 18446744073709551615 l : Int)) ∧ Tk W0 g nr na (nA a 18446744073709551615 l) (nR l) W' ∧ Kt g na W W' := by
  go_enter Tryd.func56, Tryd.ntmps56
  go_wp2_with fail
  refine (jNumber_any g nr na a 18446744073709551615 l W0 _ (h.step ((Below.refl _ _).alloc (Nat.le_refl _) _)) hl).mono ?_
  rintro e w1 ⟨rfl, h1, k1⟩
  go_wp2
  go_ret
  exact ⟨rfl, h1, (Kt.below ((Below.refl _ _).alloc (Nat.le_refl _) _)).trans k1⟩
set_option maxHeartbeats 2000000 in
theorem jInt_any (g nr na : Nat) (a : Bool) (l : List UInt8) (W0 W : World) (h : Tk W0 g nr na a l W) (hl : l.length ≤ 1048576) :
    Calls Tryd.prog 74 #[tkV nr na] W fun e W' => e = .returned (.int .i64 (nX a 2147483647 l : Int)) ∧ Tk W0 g nr na (nA a 2147483647 l) (nR l) W' ∧ Kt g na W W' := by
  have hx := nX_le a 2147483647 l
  obtain ⟨x, hX⟩ : ∃ x, x = nX a 2147483647 l := ⟨_, rfl⟩
  rw [← hX] at hx ⊢
  have HX : Hid _ := hX
  clear hX
  go_enter Tryd.func74, Tryd.ntmps74
  go_wp2_with fail
  refine (jNumber_any g nr na a 2147483647 l W0 _ (h.step ((Below.refl _ _).alloc (Nat.le_refl _) _)) hl).mono ?_
  rintro e w1 ⟨rfl, h1, k1⟩
  rw [← HX.out]
  have hw : IntKind.i64.wrap (x : Int) = (x : Int) := by rw [IntKind.wrap_i64]; omega
  go_wp2
  go_ret
  exact ⟨rfl, h1, (Kt.below ((Below.refl _ _).alloc (Nat.le_refl _) _)).trans k1⟩
set_option maxHeartbeats 2000000 in
theorem jErrno_any (g nr na : Nat) (a : Bool) (l : List UInt8) (W0 W : World) (h : Tk W0 g nr na a l W) (hl : l.length ≤ 1048576) :
    Calls Tryd.prog 54 #[tkV nr na] W fun e W' => e = .returned (.int .i64 (nX a 2147483647 l : Int)) ∧ Tk W0 g nr na (nA a 2147483647 l) (nR l) W' ∧ Kt g na W W' := by
  go_enter Tryd.func54, Tryd.ntmps54
  go_wp2_with fail
  refine (jInt_any g nr na a l W0 _ (h.step ((Below.refl _ _).alloc (Nat.le_refl _) _)) hl).mono ?_
  rintro e w1 ⟨rfl, h1, k1⟩
  go_wp2
  go_ret
  exact ⟨rfl, h1, (Kt.below ((Below.refl _ _).alloc (Nat.le_refl _) _)).trans k1⟩
set_option maxHeartbeats 2000000 in
theorem jBoolT_any (g nr na : Nat) (a : Bool) (l : List UInt8) (W0 W : World) (h : Tk W0 g nr na a l W) (hl : l.length ≤ 1048576) :
    Calls Tryd.prog 55 #[tkV nr na] W fun e W' => e = .returned (.bool (nX a 1 l == 1)) ∧ Tk W0 g nr na (nA a 1 l) (nR l) W' ∧ Kt g na W W' := by
  have hx := nX_le a 1 l
  obtain ⟨x, hX⟩ : ∃ x, x = nX a 1 l := ⟨_, rfl⟩
  rw [← hX] at hx ⊢
  have HX : Hid _ := hX
  clear hX
  go_enter Tryd.func55, Tryd.ntmps55
  go_wp2_with fail
  refine (jNumber_any g nr na a 1 l W0 _ (h.step ((Below.refl _ _).alloc (Nat.le_refl _) _)) hl).mono ?_
  rintro e w1 ⟨rfl, h1, k1⟩
  rw [← HX.out]
  obtain rfl | rfl : x = 0 ∨ x = 1 := by omega
  all_goals
    go_wp2
    go_ret
    exact ⟨rfl, h1, (Kt.below ((Below.refl _ _).alloc (Nat.le_refl _) _)).trans k1⟩

end Go.Proofs.YtmgibkglbddlpaaDoor
