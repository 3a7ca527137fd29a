/-
  ops' taker: its three functions, and the parts that are taken by them.
  Results in memory; a result taken, part by part.
-/
import Derived.Test.YtbdbefgfejdbjaaGreatGJEnc
namespace Go.Proofs.YtbdbefgfejdbjaaGreat
open Go.RowKit Go.BigFrame
attribute [local go_sem] size_bstr toList_bstr

/-- The reader, what holds it, and whether all was there. -/
structure Tk (W0 : World) (g nr na : Nat) (a : Bool) (l : List UInt8) (W : World) : Prop where
  rd : Rd W g (bstr l)
  r0 : W.cell? ⟨nr, 0, none⟩ = some (.pointer (some ⟨g, 0, none⟩))
  a0 : W.cell? ⟨na, 0, none⟩ = some (.bool a)
  af : W.frozen? ⟨na, 0, none⟩ = false
  gr : W0.grownBy W (some g)
  lt : g < W0.heap.size
  ler : W0.heap.size ≤ nr
  lea : W0.heap.size ≤ na
  ne : nr ≠ na
  ra : nr < W.heap.size
  rn : na < W.heap.size
/-- All other blocks are as they were. -/
def Kt (g na : Nat) (W W' : World) : Prop := W.heap.size ≤ W'.heap.size ∧ ∀ k, k < W.heap.size → k ≠ g → k ≠ na → W'.heap[k]? = W.heap[k]?
theorem Kt.refl (g na : Nat) (W : World) : Kt g na W W := ⟨Nat.le_refl _, fun _ _ _ _ => rfl⟩
theorem Kt.trans {g na : Nat} {A B C : World} (h : Kt g na A B) (k : Kt g na B C) : Kt g na A C := ⟨Nat.le_trans h.1 k.1, fun i hi h1 h2 => (k.2 i (Nat.lt_of_lt_of_le hi h.1) h1 h2).trans (h.2 i hi h1 h2)⟩
theorem Kt.below {g na : Nat} {A B : World} (h : RowKit.Below A.heap.size A B) : Kt g na A B := ⟨h.size, fun i hi _ _ => h.block i hi⟩
theorem Kt.cell {g na : Nat} {A B : World} (h : Kt g na A B) {k o : Nat} (hk : k < A.heap.size) (h1 : k ≠ g) (h2 : k ≠ na) : B.cell? ⟨k, o, none⟩ = A.cell? ⟨k, o, none⟩ := World.cell?_of_block (a := ⟨k, o, none⟩) (h.2 k hk h1 h2)
/-- A call of the reader. -/
theorem Tk.read {W0 W W' : World} {g nr na : Nat} {a : Bool} {l l' : List UInt8} (h : Tk W0 g nr na a l W) (hr : Rd W' g (bstr l')) (hg : W.grownBy W' (some g)) : Tk W0 g nr na a l' W' := by
  have h1 : some nr ≠ some g := fun e => by have := h.ler; have := h.lt; cases e; omega
  have h2 : some na ≠ some g := fun e => by have := h.lea; have := h.lt; cases e; omega
  exact ⟨hr, hg.cell h.r0 h1, hg.cell h.a0 h2, (World.frozen?_of_block (a := ⟨na, 0, none⟩) (hg.block na h.rn h2)).trans h.af, grown_trans h.gr hg, h.lt, h.ler, h.lea, h.ne, Nat.lt_of_lt_of_le h.ra hg.size, Nat.lt_of_lt_of_le h.rn hg.size⟩
theorem Tk.set {W0 W : World} {g nr na : Nat} {a b : Bool} {l : List UInt8} (h : Tk W0 g nr na a l W) : Tk W0 g nr na b l (W.setCell ⟨na, 0, none⟩ (.bool b)) := by
  have h2 : g ≠ na := fun e => by have := h.lea; have := h.lt; omega
  have hlt := h.rn
  refine ⟨?_, ?_, ?_, ?_, ?_, h.lt, h.ler, h.lea, h.ne, by simpa [World.setCell] using h.ra, by simpa [World.setCell] using h.rn⟩
  · have := h.rd
    unfold Rd at this ⊢
    rw [Below.heap_setCell _ ⟨na, 0, none⟩ _ g h2]
    exact this
  · rw [World.cell?_of_block (a := ⟨nr, 0, none⟩) (Below.heap_setCell W ⟨na, 0, none⟩ (.bool b) nr h.ne)]
    exact h.r0
  · exact World.cell?_setCell_same (h := h.a0) ..
  · rw [World.frozen?_setCell]; exact h.af
  · have := h.gr
    exact ⟨this.os, this.tape, this.output, by simpa [World.setCell] using this.size, fun k hk hkg => by
      rw [Below.heap_setCell _ ⟨na, 0, none⟩ _ k (by have := h.lea; show k ≠ na; omega)]
      exact this.block k hk hkg⟩
theorem Kt.set {g na o : Nat} {A B : World} {v : Value} (h : Kt g na A B) : Kt g na A (B.setCell ⟨na, o, none⟩ v) := ⟨by simpa [World.setCell] using h.1, fun i hi h1 h2 => by rw [Below.heap_setCell _ ⟨na, o, none⟩ _ i h2]; exact h.2 i hi h1 h2⟩
theorem Kt.grown {g na : Nat} {A B : World} (h : A.grownBy B (some g)) : Kt g na A B := ⟨h.size, fun i hi h1 _ => h.block i hi fun e => h1 (by cases e; rfl)⟩


set_option maxHeartbeats 2000000 in
set_option maxRecDepth 100000 in
theorem jNumber_any (g nr na : Nat) (a : Bool) (m : Nat) (l : List UInt8) (W0 W : World) (h : Tk W0 g nr na a l W) (hl : l.length ≤ 1048576) :
    Calls Tryz.prog 126 #[.int .u64 (m : Int), .pointer (some ⟨nr, 0, none⟩), .pointer (some ⟨na, 0, none⟩)] W fun e W' => e = .returned (.int .u64 (nX a m l : Int)) ∧ Tk W0 g nr na (nA a m l) (nR l) W' ∧ Kt g na W W' := by
  have r0 := h.r0
  obtain ⟨X, hX⟩ : ∃ X, X = nX a m l := ⟨_, rfl⟩
  obtain ⟨A, hA⟩ : ∃ A, A = nA a m l := ⟨_, rfl⟩
  rw [← hX, ← hA]
  have HX : Hid _ := hX
  have HA : Hid _ := hA
  clear hX hA
  go_enter Tryz.func126, Tryz.ntmps126
  go_wp2_with fail
  refine (Number_r g l W h.rd (by omega)).mono ?_
  rintro e w1 ⟨rfl, r1, g1⟩
  have h1 := h.read r1 g1
  have k1 : Kt g na W w1 := Kt.grown g1
  have a0 := h1.a0
  have af := h1.af
  clear r1 g1 r0 h
  cases a <;> cases ho : okN l
  case false.false | false.true | true.false =>
    obtain rfl : X = 0 := by rw [HX.out]; simp [nX, nA, ho]
    obtain rfl : A = false := by rw [HA.out]; simp [nA, ho]
    clear HX HA
    go_wp2
    go_ret
    exact ⟨rfl, h1.set, k1.set⟩
  case true.true =>
    by_cases hm : nV l ≤ m
    · have hm' : (nV l : Int) ≤ (m : Int) := by omega
      obtain rfl : X = nV l := by rw [HX.out]; simp [nX, nA, ho, hm]
      obtain rfl : A = true := by rw [HA.out]; simp [nA, ho, hm]
      clear hm HX HA
      go_wp2
      go_ret
      exact ⟨rfl, h1.set, k1.set⟩
    · have hm' : (m : Int) < (nV l : Int) := by omega
      obtain rfl : X = 0 := by rw [HX.out]; simp [nX, nA, ho, hm]
      obtain rfl : A = false := by rw [HA.out]; simp [nA, ho, hm]
      have hd := decide_eq_false hm
      clear hm HX HA
      go_wp2
      go_ret
      exact ⟨rfl, h1.set, k1.set⟩

set_option maxHeartbeats 2000000 in
set_option maxRecDepth 100000 in
theorem jText_any (g nr na : Nat) (a : Bool) (l : List UInt8) (W0 W : World) (h : Tk W0 g nr na a l W) (hl : l.length ≤ 1048576) :
    Calls Tryz.prog 128 #[.pointer (some ⟨nr, 0, none⟩), .pointer (some ⟨na, 0, none⟩)] W fun e W' => e = .returned (.string (bstr (tX a l))) ∧ Tk W0 g nr na (tA a l) (tS l) W' ∧ Kt g na W W' := by
  have r0 := h.r0
  obtain ⟨X, hX⟩ : ∃ X, X = tX a l := ⟨_, rfl⟩
  obtain ⟨A, hA⟩ : ∃ A, A = tA a l := ⟨_, rfl⟩
  rw [← hX, ← hA]
  have HX : Hid _ := hX
  have HA : Hid _ := hA
  clear hX hA
  go_enter Tryz.func128, Tryz.ntmps128
  go_wp2_with fail
  refine (Text_r g 1048576 l W h.rd (by omega) (by omega)).mono ?_
  rintro e w1 ⟨rfl, r1, g1⟩
  have h1 := h.read r1 g1
  have k1 : Kt g na W w1 := Kt.grown g1
  have a0 := h1.a0
  have af := h1.af
  clear r1 g1 r0 h
  cases a <;> cases ho : okT 1048576 l
  case false.false | false.true | true.false =>
    obtain rfl : X = [] := by rw [HX.out]; simp [tX, tA, ho]
    obtain rfl : A = false := by rw [HA.out]; simp [tA, ho]
    clear HX HA
    go_wp2
    go_ret
    exact ⟨rfl, h1.set, k1.set⟩
  case true.true =>
    obtain rfl : X = tV 1048576 l := by rw [HX.out]; simp [tX, tA, ho]
    obtain rfl : A = true := by rw [HA.out]; simp [tA, ho]
    clear HX HA
    go_wp2
    go_ret
    exact ⟨rfl, h1.set, k1.set⟩

set_option maxHeartbeats 2000000 in
set_option maxRecDepth 100000 in
theorem jWhole_any (g nr na : Nat) (a : Bool) (l : List UInt8) (W0 W : World) (h : Tk W0 g nr na a l W) :
    Calls Tryz.prog 130 #[.pointer (some ⟨na, 0, none⟩), .pointer (some ⟨nr, 0, none⟩)] W fun e W' => e = .returned (.bool (a && decide (l.length = 0))) ∧ W' = W := by
  have r0 := h.r0
  have a0 := h.a0
  obtain ⟨D, hD⟩ : ∃ D, D = decide (l.length = 0) := ⟨_, rfl⟩
  rw [← hD]
  have HD : Hid _ := hD
  clear hD
  go_enter Tryz.func130, Tryz.ntmps130
  cases a
  · go_wp2
    go_ret
    exact ⟨rfl, rfl⟩
  · go_wp2_with fail
    refine (Left_any g l W h.rd).mono ?_
    rintro e w1 ⟨rfl, rfl⟩
    by_cases h0 : l.length = 0
    · have hi : (l.length : Int) = 0 := by omega
      obtain rfl : D = true := by rw [HD.out]; exact decide_eq_true h0
      clear h0 HD
      go_wp2
      go_ret
      exact ⟨rfl, rfl⟩
    · have hi : ((l.length : Int) == 0) = false := beq_eq_false_iff_ne.2 (by omega)
      have hi2 : 0 < l.length := by omega
      obtain rfl : D = false := by rw [HD.out]; exact decide_eq_false h0
      clear h0 HD
      go_wp2
      go_ret
      exact ⟨rfl, rfl⟩

/-! ### the parts -/
/-- The taker as a value. -/
abbrev tkV (nr na : Nat) : Value := .agg #[.func (.func 126) #[] #[.pointer (some ⟨nr, 0, none⟩), .pointer (some ⟨na, 0, none⟩)], .func (.func 128) #[] #[.pointer (some ⟨nr, 0, none⟩), .pointer (some ⟨na, 0, none⟩)], .func (.func 130) #[] #[.pointer (some ⟨na, 0, none⟩), .pointer (some ⟨nr, 0, none⟩)]]
theorem Tk.step {W0 W W' : World} {g nr na : Nat} {a : Bool} {l : List UInt8} (h : Tk W0 g nr na a l W) (hb : RowKit.Below W.heap.size W W') : Tk W0 g nr na a l W' := h.read (h.rd.below hb h.rd.lt) (grown_of_below hb)

set_option maxHeartbeats 2000000 in
theorem jUint_any (g nr na : Nat) (a : Bool) (l : List UInt8) (W0 W : World) (h : Tk W0 g nr na a l W) (hl : l.length ≤ 1048576) :
    Calls Tryz.prog 99 #[tkV nr na] W fun e W' => e = .returned (.int .u64 (nX a 18446744073709551615 l : Int)) ∧ Tk W0 g nr na (nA a 18446744073709551615 l) (nR l) W' ∧ Kt g na W W' := by
  go_enter Tryz.func99, Tryz.ntmps99
  go_wp2_with fail
  refine (jNumber_any g nr na a 18446744073709551615 l W0 _ (h.step ((Below.refl _ _).alloc (Nat.le_refl _) _)) hl).mono ?_
  rintro e w1 ⟨rfl, h1, k1⟩
  go_wp2
  go_ret
  exact ⟨rfl, h1, (Kt.below ((Below.refl _ _).alloc (Nat.le_refl _) _)).trans k1⟩
set_option maxHeartbeats 2000000 in
theorem jInt_any (g nr na : Nat) (a : Bool) (l : List UInt8) (W0 W : World) (h : Tk W0 g nr na a l W) (hl : l.length ≤ 1048576) :
    Calls Tryz.prog 98 #[tkV nr na] W fun e W' => e = .returned (.int .i64 (nX a 2147483647 l : Int)) ∧ Tk W0 g nr na (nA a 2147483647 l) (nR l) W' ∧ Kt g na W W' := by
  have hx := nX_le a 2147483647 l
  obtain ⟨x, hX⟩ : ∃ x, x = nX a 2147483647 l := ⟨_, rfl⟩
  rw [← hX] at hx ⊢
  have HX : Hid _ := hX
  clear hX
  go_enter Tryz.func98, Tryz.ntmps98
  go_wp2_with fail
  refine (jNumber_any g nr na a 2147483647 l W0 _ (h.step ((Below.refl _ _).alloc (Nat.le_refl _) _)) hl).mono ?_
  rintro e w1 ⟨rfl, h1, k1⟩
  rw [← HX.out]
  have hw : IntKind.i64.wrap (x : Int) = (x : Int) := by rw [IntKind.wrap_i64]; omega
  go_wp2
  go_ret
  exact ⟨rfl, h1, (Kt.below ((Below.refl _ _).alloc (Nat.le_refl _) _)).trans k1⟩
set_option maxHeartbeats 2000000 in
theorem jErrno_any (g nr na : Nat) (a : Bool) (l : List UInt8) (W0 W : World) (h : Tk W0 g nr na a l W) (hl : l.length ≤ 1048576) :
    Calls Tryz.prog 110 #[tkV nr na] W fun e W' => e = .returned (.int .i64 (nX a 2147483647 l : Int)) ∧ Tk W0 g nr na (nA a 2147483647 l) (nR l) W' ∧ Kt g na W W' := by
  go_enter Tryz.func110, Tryz.ntmps110
  go_wp2_with fail
  refine (jInt_any g nr na a l W0 _ (h.step ((Below.refl _ _).alloc (Nat.le_refl _) _)) hl).mono ?_
  rintro e w1 ⟨rfl, h1, k1⟩
  go_wp2
  go_ret
  exact ⟨rfl, h1, (Kt.below ((Below.refl _ _).alloc (Nat.le_refl _) _)).trans k1⟩
set_option maxHeartbeats 2000000 in
theorem jBoolT_any (g nr na : Nat) (a : Bool) (l : List UInt8) (W0 W : World) (h : Tk W0 g nr na a l W) (hl : l.length ≤ 1048576) :
    Calls Tryz.prog 100 #[tkV nr na] W fun e W' => e = .returned (.bool (nX a 1 l == 1)) ∧ Tk W0 g nr na (nA a 1 l) (nR l) W' ∧ Kt g na W W' := by
  have hx := nX_le a 1 l
  obtain ⟨x, hX⟩ : ∃ x, x = nX a 1 l := ⟨_, rfl⟩
  rw [← hX] at hx ⊢
  have HX : Hid _ := hX
  clear hX
  go_enter Tryz.func100, Tryz.ntmps100
  go_wp2_with fail
  refine (jNumber_any g nr na a 1 l W0 _ (h.step ((Below.refl _ _).alloc (Nat.le_refl _) _)) hl).mono ?_
  rintro e w1 ⟨rfl, h1, k1⟩
  rw [← HX.out]
  obtain rfl | rfl : x = 0 ∨ x = 1 := by omega
  all_goals
    go_wp2
    go_ret
    exact ⟨rfl, h1, (Kt.below ((Below.refl _ _).alloc (Nat.le_refl _) _)).trans k1⟩

end Go.Proofs.YtbdbefgfejdbjaaGreat

namespace Go.Proofs.YtbdbefgfejdbjaaGreat
open Go.RowKit Go.BigFrame
attribute [local go_sem] size_bstr toList_bstr

theorem heap_set_other {w : World} {b o i : Nat} (v : Value) (h : i ≠ b) : (w.setCell ⟨b, o, none⟩ v).heap[i]? = w.heap[i]? := Below.heap_setCell w ⟨b, o, none⟩ v i h
theorem heap_set_same {w : World} {b o : Nat} {cs : Array Value} {t : TypeId} {fz : Nat × Nat} (h : w.heap[b]? = some (.cells cs t fz)) (v : Value) : (w.setCell ⟨b, o, none⟩ v).heap[b]? = some (.cells (cs.setIfInBounds o v) t fz) := by
  show (w.heap.modify b _)[b]? = _
  rw [Array.getElem?_modify, if_pos rfl, h]
  rfl
abbrev tk1 (nr na : Nat) : Value := .func (.func 126) #[] #[.pointer (some ⟨nr, 0, none⟩), .pointer (some ⟨na, 0, none⟩)]
abbrev tk2 (nr na : Nat) : Value := .func (.func 128) #[] #[.pointer (some ⟨nr, 0, none⟩), .pointer (some ⟨na, 0, none⟩)]
abbrev tk3 (nr na : Nat) : Value := .func (.func 130) #[] #[.pointer (some ⟨na, 0, none⟩), .pointer (some ⟨nr, 0, none⟩)]
def rzC (r : Rz) : Array Value := #[.int .i64 r.err, .bool r.found, .string (bstr r.row), .string (bstr r.val), .int .u64 (r.ver : Int)]
theorem res_cell2 {fn : Func} {p u : Tmp} {ty : TypeId} (h : fn.results = #[.cell p ty, .tmp u]) (tmps : Array Value) (P : Program) (w : World) :
    (results fn tmps).run P w = ((asAddr (tmps.getD p undef)).run P w).andThen fun a w₁ => ((loadVar ty a).run P w₁).andThen fun x w₂ => .ok (.tuple #[x, tmps.getD u undef]) w₂ := by
  simp only [results, h]
  simp [Sem.run_bind, Result.andThen]
/-- A result lies there. -/
def RzB (w : World) (b : Nat) (r : Rz) : Prop := w.heap[b]? = some (.cells (rzC r) 46 (0, 0))
theorem RzB.below {w w' : World} {b : Nat} {r : Rz} {B : Nat} (h : RzB w b r) (hb : Below B w w') (hB : b < B) : RzB w' b r := (hb.block b hB).trans h
theorem RzB.new (w : World) : RzB (w.alloc (.cells #[.int .i64 0, .bool false, .string ⟨#[]⟩, .string ⟨#[]⟩, .int .u64 0] 46)) w.heap.size rz0 := heap_alloc_new w _
theorem RzB.facts {w : World} {b : Nat} {r : Rz} (h : RzB w b r) : w.cell? ⟨b, 0, none⟩ = some (.int .i64 r.err) ∧ w.cell? ⟨b, 1, none⟩ = some (.bool r.found) ∧ w.cell? ⟨b, 2, none⟩ = some (.string (bstr r.row)) ∧ w.cell? ⟨b, 3, none⟩ = some (.string (bstr r.val)) ∧ w.cell? ⟨b, 4, none⟩ = some (.int .u64 (r.ver : Int)) :=
  ⟨(mcells h).1 0, (mcells h).1 1, (mcells h).1 2, (mcells h).1 3, (mcells h).1 4⟩
theorem RzB.set {w : World} {b : Nat} {r : Rz} (h : RzB w b r) (r' : Rz) : RzB (((((w.setCell ⟨b, 0, none⟩ (.int .i64 r'.err)).setCell ⟨b, 1, none⟩ (.bool r'.found)).setCell ⟨b, 2, none⟩ (.string (bstr r'.row))).setCell ⟨b, 3, none⟩ (.string (bstr r'.val))).setCell ⟨b, 4, none⟩ (.int .u64 (r'.ver : Int))) b r' := by
  have h1 := heap_set_same h (o := 0) (.int .i64 r'.err)
  have h2 := heap_set_same h1 (o := 1) (.bool r'.found)
  have h3 := heap_set_same h2 (o := 2) (.string (bstr r'.row))
  have h4 := heap_set_same h3 (o := 3) (.string (bstr r'.val))
  exact heap_set_same h4 (o := 4) (.int .u64 (r'.ver : Int))
theorem cell_set5 {W : World} {n b o : Nat} {p q r s t : Value} (h : b ≠ n) : (((((W.setCell ⟨n, 0, none⟩ p).setCell ⟨n, 1, none⟩ q).setCell ⟨n, 2, none⟩ r).setCell ⟨n, 3, none⟩ s).setCell ⟨n, 4, none⟩ t).cell? ⟨b, o, none⟩ = W.cell? ⟨b, o, none⟩ :=
  World.cell?_of_block ((heap_set_other _ h).trans ((heap_set_other _ h).trans ((heap_set_other _ h).trans ((heap_set_other _ h).trans (heap_set_other _ h)))))
theorem yres1 {fn : Func} {p : Tmp} {ty : TypeId} (h : fn.results = #[.cell p ty]) (tmps : Array Value) (P : Program) (w : World) :
    (results fn tmps).run P w = ((asAddr (tmps.getD p undef)).run P w).andThen fun a w₁ => (loadVar ty a).run P w₁ := by
  simp only [results, h]
  simp [Sem.run_bind, Result.andThen]
/-- A result, answered. -/
theorem ret_rz {fn : Func} {p : Tmp} (h : fn.results = #[.cell p 46]) {R : Ending → World → Prop} {a : Act} {w : World} {b : Nat} {r : Rz} (hp : a.tmps.getD p undef = .pointer (some ⟨b, 0, none⟩)) (hat : RzB w b r) (hd : a.defers = []) (hR : R (.returned (rzV r)) w) :
    bodyPost Tryz.prog fn R .ret a w := by
  obtain ⟨q0, q1, q2, q3, q4⟩ := hat.facts
  exact bodyPost_ret (v := rzV r) (by rw [yres1 h, hp]; simp [go_sem, q0, q1, q2, q3, q4]) hd hR
/-- A result and cells, answered. -/
theorem ret_rz2 {fn : Func} {p u : Tmp} (h : fn.results = #[.cell p 46, .tmp u]) {R : Ending → World → Prop} {a : Act} {w : World} {b : Nat} {r : Rz} {v : Value} (hp : a.tmps.getD p undef = .pointer (some ⟨b, 0, none⟩)) (hu : a.tmps.getD u undef = v) (hat : RzB w b r) (hd : a.defers = []) (hR : R (.returned (.tuple #[rzV r, v])) w) :
    bodyPost Tryz.prog fn R .ret a w := by
  obtain ⟨q0, q1, q2, q3, q4⟩ := hat.facts
  exact bodyPost_ret (v := .tuple #[rzV r, v]) (by rw [res_cell2 h, hp, hu]; simp [go_sem, q0, q1, q2, q3, q4]) hd hR

theorem RzB.frz {w : World} {b : Nat} {r : Rz} (h : RzB w b r) : ∀ o, w.frozen? ⟨b, o, none⟩ = false := (mcells h).2
theorem RzB.lt {w : World} {b : Nat} {r : Rz} (h : RzB w b r) : b < w.heap.size := blk_lt h
theorem RzB.kt {w w' : World} {g na b : Nat} {r : Rz} (h : RzB w b r) (k : Kt g na w w') (h1 : b ≠ g) (h2 : b ≠ na) : RzB w' b r := (k.2 b (blk_lt h) h1 h2).trans h

theorem rd_other {W : World} {g b o : Nat} {v : Value} {s : ByteArray} (h : Rd W g s) (hb : g ≠ b) : Rd (W.setCell ⟨b, o, none⟩ v) g s := by
  unfold Rd at h ⊢
  rw [Below.heap_setCell W ⟨b, o, none⟩ v g hb]
  exact h
theorem Tk.other {W0 W : World} {g nr na b o : Nat} {a : Bool} {l : List UInt8} {v : Value} (h : Tk W0 g nr na a l W) (h1 : b ≠ g) (h2 : b ≠ nr) (h3 : b ≠ na) (h4 : W0.heap.size ≤ b) : Tk W0 g nr na a l (W.setCell ⟨b, o, none⟩ v) :=
  ⟨rd_other h.rd (fun e => h1 e.symm), (World.cell?_of_block (heap_set_other v (fun e => h2 e.symm))).trans h.r0, (World.cell?_of_block (heap_set_other v (fun e => h3 e.symm))).trans h.a0,
    (World.frozen?_of_block (a := ⟨na, 0, none⟩) (heap_set_other v (fun e => h3 e.symm))).trans h.af,
    ⟨h.gr.os, h.gr.tape, h.gr.output, by simpa [World.setCell] using h.gr.size, fun k hk hkg => by
      rw [Below.heap_setCell W ⟨b, o, none⟩ v k (by show k ≠ b; omega)]
      exact h.gr.block k hk hkg⟩, h.lt, h.ler, h.lea, h.ne, by simpa [World.setCell] using h.ra, by simpa [World.setCell] using h.rn⟩
theorem Kt.other {g na b o : Nat} {A B : World} {v : Value} (h : Kt g na A B) (hb : A.heap.size ≤ b) : Kt g na A (B.setCell ⟨b, o, none⟩ v) :=
  ⟨by simpa [World.setCell] using h.1, fun i hi h1 h2 => by rw [Below.heap_setCell B ⟨b, o, none⟩ v i (by show i ≠ b; omega)]; exact h.2 i hi h1 h2⟩
theorem bel_grow {w W W' : World} {g : Nat} (h : Below w.heap.size w W) (g1 : W.grownBy W' (some g)) (hg : w.heap.size ≤ g) : Below w.heap.size w W' :=
  ⟨g1.os.trans h.os, g1.tape.trans h.tape, g1.output.trans h.output, Nat.le_trans h.size g1.size, fun k hk => (g1.block k (Nat.lt_of_lt_of_le hk h.size) (fun e => by cases e; omega)).trans (h.block k hk)⟩
/-- A result read, part by part. -/
theorem rest_len (l : List UInt8) : (nR l).length ≤ l.length := by
  unfold nR
  split
  · rw [List.length_drop]; omega
  · exact Nat.le_refl _
theorem restT_len (l : List UInt8) : (tS l).length ≤ l.length := by
  unfold tS tR
  split
  · rw [List.length_drop]; omega
  · exact Nat.le_refl _

set_option maxHeartbeats 8000000 in
set_option maxRecDepth 100000 in
theorem jTake_any (g nr na : Nat) (l : List UInt8) (W0 W : World) (h : Tk W0 g nr na true l W) (hl : l.length ≤ 1048576) :
    Calls Tryz.prog 71 #[tkV nr na] W fun e W' => e = .returned (rzV (decR l)) ∧ Tk W0 g nr na (a5 l) (l5 l) W' ∧ Kt g na W W' := by
  have e1 := rest_len l
  have e2 := rest_len (nR l)
  have e3 := restT_len (nR (nR l))
  have e4 := restT_len (tS (nR (nR l)))
  have E0 : Hid (l.length ≤ 1048576) := hl
  have E1 : Hid ((nR l).length ≤ 1048576) := by show _ ≤ _; omega
  have E2 : Hid ((nR (nR l)).length ≤ 1048576) := by show _ ≤ _; omega
  have E3 : Hid ((tS (nR (nR l))).length ≤ 1048576) := by show _ ≤ _; omega
  have E4 : Hid ((tS (tS (nR (nR l)))).length ≤ 1048576) := by show _ ≤ _; omega
  clear e1 e2 e3 e4 hl
  have hgl := h.lt
  have hg0 := h.gr.size
  have hna := h.rn
  have hnr := h.ra
  go_enter Tryz.func71, Tryz.ntmps71
  go_upto_region 1 with fail
  obtain ⟨w1, hw1⟩ : ∃ w1, w1 = (W.alloc (.cells #[tk1 nr na, tk2 nr na, tk3 nr na] 108)).alloc (.cells #[.int .i64 0, .bool false, .string ⟨#[]⟩, .string ⟨#[]⟩, .int .u64 0] 46) := ⟨_, rfl⟩
  have hbe : Below W.heap.size W w1 := by rw [hw1]; exact ((Below.refl _ _).alloc (Nat.le_refl _) _).alloc (by simp) _
  have hz : RzB w1 (W.heap.size + 1) rz0 := by
    have := RzB.new (W.alloc (.cells #[tk1 nr na, tk2 nr na, tk3 nr na] 108))
    rw [World.size_alloc] at this
    rw [hw1]
    exact this
  have hc := mcells (show w1.heap[W.heap.size]? = some (.cells #[tk1 nr na, tk2 nr na, tk3 nr na] 108 (0, 0)) by rw [hw1]; exact (Below.heap_alloc _ _ _ (by simp)).trans (heap_alloc_new W _))
  have c0 : w1.cell? ⟨W.heap.size, 0, none⟩ = some (tk1 nr na) := hc.1 0
  have c1 : w1.cell? ⟨W.heap.size, 1, none⟩ = some (tk2 nr na) := hc.1 1
  have c2 : w1.cell? ⟨W.heap.size, 2, none⟩ = some (tk3 nr na) := hc.1 2
  have hT := h.step hbe
  have hk : Kt g na W w1 := Kt.below hbe
  have hn1 : W.heap.size ≠ g := by omega
  have hn2 : W.heap.size ≠ na := by omega
  have hn3 : W.heap.size + 1 ≠ g := by omega
  have hn4 : W.heap.size + 1 ≠ na := by omega
  rw [← hw1]
  clear hw1 hc hbe h
  have N5 : Hid (W.heap.size ≠ W.heap.size + 1) := by show _ ≠ _; omega
  have N6 : Hid (W.heap.size + 1 ≠ nr) := by show _ ≠ _; omega
  have N7 : Hid (W0.heap.size ≤ W.heap.size + 1) := by show _ ≤ _; omega
  have N1 : Hid _ := hn1
  have N2 : Hid _ := hn2
  have N3 : Hid _ := hn3
  have N4 : Hid _ := hn4
  clear hn1 hn2 hn3 hn4 hgl hg0 hna hnr
  go_region_held3 (fun w' => w'.cell? ⟨W.heap.size, 0, none⟩ = some (tk1 nr na) ∧ w'.cell? ⟨W.heap.size, 1, none⟩ = some (tk2 nr na) ∧ w'.cell? ⟨W.heap.size, 2, none⟩ = some (tk3 nr na)) (first | with_reducible exact ⟨c0, c1, c2⟩ | with_reducible exact ⟨cell_drew c0, cell_drew c1, cell_drew c2⟩ | with_reducible exact ⟨(cell_set5 N5.out).trans c0, (cell_set5 N5.out).trans c1, (cell_set5 N5.out).trans c2⟩)
    (first
      | (go_at_call 110; refine (jErrno_any g nr na (true) (l) W0 _ (by first | exact hT | exact hT.step (Below.refl _ _).drew) E0.out).mono ?_; rintro e wf ⟨rfl, hT', k'⟩; replace c0 := (k'.cell (block_lt_of_cell c0) N1.out N2.out).trans c0; replace c1 := (k'.cell (block_lt_of_cell c1) N1.out N2.out).trans c1; replace c2 := (k'.cell (block_lt_of_cell c2) N1.out N2.out).trans c2; replace hz := hz.kt k' N3.out N4.out; replace hk := hk.trans k'; clear hT k'; have hT := hT'; clear hT')
      | (go_at_call 100; refine (jBoolT_any g nr na (a1 l) (nR l) W0 _ (by first | exact hT | exact hT.step (Below.refl _ _).drew) E1.out).mono ?_; rintro e wf ⟨rfl, hT', k'⟩; replace c0 := (k'.cell (block_lt_of_cell c0) N1.out N2.out).trans c0; replace c1 := (k'.cell (block_lt_of_cell c1) N1.out N2.out).trans c1; replace c2 := (k'.cell (block_lt_of_cell c2) N1.out N2.out).trans c2; replace hz := hz.kt k' N3.out N4.out; replace hk := hk.trans k'; clear hT k'; have hT := hT'; clear hT')
      | (go_at_call 128; refine (jText_any g nr na (a2 l) (nR (nR l)) W0 _ (by first | exact hT | exact hT.step (Below.refl _ _).drew) E2.out).mono ?_; rintro e wf ⟨rfl, hT', k'⟩; replace c0 := (k'.cell (block_lt_of_cell c0) N1.out N2.out).trans c0; replace c1 := (k'.cell (block_lt_of_cell c1) N1.out N2.out).trans c1; replace c2 := (k'.cell (block_lt_of_cell c2) N1.out N2.out).trans c2; replace hz := hz.kt k' N3.out N4.out; replace hk := hk.trans k'; clear hT k'; have hT := hT'; clear hT')
      | (go_at_call 128; refine (jText_any g nr na (a3 l) (tS (nR (nR l))) W0 _ (by first | exact hT | exact hT.step (Below.refl _ _).drew) E3.out).mono ?_; rintro e wf ⟨rfl, hT', k'⟩; replace c0 := (k'.cell (block_lt_of_cell c0) N1.out N2.out).trans c0; replace c1 := (k'.cell (block_lt_of_cell c1) N1.out N2.out).trans c1; replace c2 := (k'.cell (block_lt_of_cell c2) N1.out N2.out).trans c2; replace hz := hz.kt k' N3.out N4.out; replace hk := hk.trans k'; clear hT k'; have hT := hT'; clear hT')
      | (go_at_call 99; refine (jUint_any g nr na (a4 l) (tS (tS (nR (nR l)))) W0 _ (by first | exact hT | exact hT.step (Below.refl _ _).drew) E4.out).mono ?_; rintro e wf ⟨rfl, hT', k'⟩; replace c0 := (k'.cell (block_lt_of_cell c0) N1.out N2.out).trans c0; replace c1 := (k'.cell (block_lt_of_cell c1) N1.out N2.out).trans c1; replace c2 := (k'.cell (block_lt_of_cell c2) N1.out N2.out).trans c2; replace hz := hz.kt k' N3.out N4.out; replace hk := hk.trans k'; clear hT k'; have hT := hT'; clear hT'; obtain ⟨q0, q1, q2, q3, q4⟩ := hz.facts; simp only at q0 q1 q2 q3 q4; have fz := hz.frz))
  have hz2 := hz.set (decR l)
  clear c0 c1 c2 q0 q1 q2 q3 q4 fz
  go_wp2
  exact ret_rz rfl rfl hz2 rfl ⟨rfl, ((((hT.other N3.out N6.out N4.out N7.out).other N3.out N6.out N4.out N7.out).other N3.out N6.out N4.out N7.out).other N3.out N6.out N4.out N7.out).other N3.out N6.out N4.out N7.out, ((((hk.other (Nat.le_succ _)).other (Nat.le_succ _)).other (Nat.le_succ _)).other (Nat.le_succ _)).other (Nat.le_succ _)⟩

end Go.Proofs.YtbdbefgfejdbjaaGreat
