/-
  The laws' operations by small numbers.
-/
import Derived.Test.YtlkikfkchgmmhaaYLaM
namespace Go.Proofs.Ytlkikfkchgmmhaa
open Go.RowKit Go.BigFrame Go.Sort
attribute [local go_sem] size_bstr getElem_bstr toList_bstr append_bstr

/-- An operation by small numbers. -/
structure Ac where
  k : Nat
  r : Nat
  c : Nat
  v : Nat
  e : Nat
  h : Bool
structure AcOk (a : Ac) : Prop where
  k : a.k < 256
  r : a.r < 256
  c : a.c < 256
  v : a.v < 256
  e : a.e < 256
abbrev acV (a : Ac) : Value := .agg #[.int .u8 (a.k : Int), .int .u8 (a.r : Int), .int .u8 (a.c : Int), .int .u8 (a.v : Int), .int .u8 (a.e : Int), .bool a.h]
def acC (a : Ac) : Array Value := #[.int .u8 (a.k : Int), .int .u8 (a.r : Int), .int .u8 (a.c : Int), .int .u8 (a.v : Int), .int .u8 (a.e : Int), .bool a.h]
def oneN (n : Nat) : List UInt8 := [UInt8.ofNat (n % 3)]
def ofQ (a : Ac) : Oq := ⟨1 + (a.k % 4 : Nat), rowN (a.r % 4), colN (a.c % 3), if a.k % 4 = 0 ∨ a.k % 4 = 3 then oneN a.v else [], a.k % 4 == 3 && a.h, if a.k % 4 = 3 ∧ a.h = true then oneN a.e else []⟩
theorem ofQ_may (a : Ac) : mayO (ofQ a) = true ∧ 1 ≤ (ofQ a).kind ∧ (ofQ a).kind ≤ 4 ∧ (ofQ a).row = rowN (a.r % 4) ∧ (ofQ a).col = colN (a.c % 3) := by
  obtain ⟨k, r, c, v, e, h⟩ := a
  have hk : k % 4 = 0 ∨ k % 4 = 1 ∨ k % 4 = 2 ∨ k % 4 = 3 := by omega
  rcases hk with hk | hk | hk | hk <;> cases h <;> simp [ofQ, hk, mayO, mayQ, rowN, colN, oneN]
theorem ofQ_len (a : Ac) : (ofQ a).row.length ≤ bigL ∧ (ofQ a).col.length ≤ bigL ∧ (ofQ a).val.length ≤ bigL := by
  obtain ⟨h, _⟩ := ofQ_may a
  obtain ⟨h1, h2, h3⟩ := mayO_len h
  unfold bigL
  omega
/-- It lies there. -/
def AcB (w : World) (b o : Nat) (a : Ac) : Prop := w.cell? ⟨b, o, none⟩ = some (.int .u8 (a.k : Int)) ∧ w.cell? ⟨b, o + 1, none⟩ = some (.int .u8 (a.r : Int)) ∧ w.cell? ⟨b, o + 2, none⟩ = some (.int .u8 (a.c : Int)) ∧ w.cell? ⟨b, o + 3, none⟩ = some (.int .u8 (a.v : Int)) ∧ w.cell? ⟨b, o + 4, none⟩ = some (.int .u8 (a.e : Int)) ∧ w.cell? ⟨b, o + 5, none⟩ = some (.bool a.h)
theorem OqB.setF {w : World} {b : Nat} {o : Oq} (h : OqB w b o) (v : List UInt8) : OqB (w.setCell ⟨b, 3, none⟩ (.string (bstr v))) b ⟨o.kind, o.row, o.col, v, o.has, o.exp⟩ := heap_set_same h (o := 3) _
theorem OqB.setH {w : World} {b : Nat} {o : Oq} (h : OqB w b o) (v : Bool) : OqB (w.setCell ⟨b, 4, none⟩ (.bool v)) b ⟨o.kind, o.row, o.col, o.val, v, o.exp⟩ := heap_set_same h (o := 4) _
theorem OqB.setE {w : World} {b : Nat} {o : Oq} (h : OqB w b o) (v : List UInt8) : OqB (w.setCell ⟨b, 5, none⟩ (.string (bstr v))) b ⟨o.kind, o.row, o.col, o.val, o.has, v⟩ := heap_set_same h (o := 5) _
theorem OqB.frz {w : World} {b : Nat} {o : Oq} (h : OqB w b o) : ∀ i, w.frozen? ⟨b, i, none⟩ = false := (mcells h).2

theorem run_convert_byte (W : World) (z : Nat) (hz : z < 256) :
    (convert 49 9 (.slice (some ⟨W.heap.size, 0, none⟩) 1 1)).run Try.prog (W.alloc (.cells #[.int .u8 (z : Int)] 5)) = .ok (.string (bstr [UInt8.ofNat z])) (W.alloc (.cells #[.int .u8 (z : Int)] 5)) := by
  have hown : (W.alloc (.cells #[.int .u8 (z : Int)] 5)).ownsRow W.heap.size 5 1 (.slice (some ⟨W.heap.size, 0, none⟩) 1 1) 1 (Lib.byteCells [UInt8.ofNat z]) := by
    have h := World.ownsRow_lit (base := W.heap.size) (e := 5) (size := 1) W #[.int .u8 (z : Int)] 1 (Nat.le_refl _) (by decide) (by simp)
    have e : Lib.byteCells [UInt8.ofNat z] = [.int .u8 (z : Int)] := by simp [Lib.byteCells]; omega
    rw [e]
    exact h
  exact run_convert_own hown Try.underlying49 Try.underlying5 Try.underlying9

theorem OqB.set {w : World} {b : Nat} {o : Oq} (h : OqB w b o) (p : Oq) : OqB ((((((w.setCell ⟨b, 0, none⟩ (.int .i64 p.kind)).setCell ⟨b, 1, none⟩ (.string (bstr p.row))).setCell ⟨b, 2, none⟩ (.string (bstr p.col))).setCell ⟨b, 3, none⟩ (.string (bstr p.val))).setCell ⟨b, 4, none⟩ (.bool p.has)).setCell ⟨b, 5, none⟩ (.string (bstr p.exp))) b p := by
  have h1 := heap_set_same h (o := 0) (.int .i64 p.kind)
  have h2 := heap_set_same h1 (o := 1) (.string (bstr p.row))
  have h3 := heap_set_same h2 (o := 2) (.string (bstr p.col))
  have h4 := heap_set_same h3 (o := 3) (.string (bstr p.val))
  have h5 := heap_set_same h4 (o := 4) (.bool p.has)
  exact heap_set_same h5 (o := 5) (.string (bstr p.exp))
theorem ret_oq {fn : Func} {p : Tmp} (h : fn.results = #[.cell p 32]) {R : Ending → World → Prop} {a : Act} {w : World} {b : Nat} {o : Oq} (hp : a.tmps.getD p undef = .pointer (some ⟨b, 0, none⟩)) (hat : OqB w b o) (hd : a.defers = []) (hR : R (.returned (oqV o)) w) :
    bodyPost Try.prog fn R .ret a w := by
  obtain ⟨q0, q1, q2, q3, q4, q5⟩ := hat.facts
  exact bodyPost_ret (v := oqV o) (by rw [yres1 h, hp]; simp [go_sem, q0, q1, q2, q3, q4, q5]) hd hR
theorem OqB.other {w : World} {b n i : Nat} {o : Oq} {v : Value} (h : OqB w b o) (hn : b ≠ n) : OqB (w.setCell ⟨n, i, none⟩ v) b o := (heap_set_other _ hn).trans h
/-- Act's bytes lie in a block of their own. -/
def AcN (w : World) (b : Nat) (a : Ac) : Prop := w.heap[b]? = some (.cells (acC a) 47 (0, 0))
theorem AcN.facts {w : World} {b : Nat} {a : Ac} (h : AcN w b a) : w.cell? ⟨b, 0, none⟩ = some (.int .u8 (a.k : Int)) ∧ w.cell? ⟨b, 1, none⟩ = some (.int .u8 (a.r : Int)) ∧ w.cell? ⟨b, 2, none⟩ = some (.int .u8 (a.c : Int)) ∧ w.cell? ⟨b, 3, none⟩ = some (.int .u8 (a.v : Int)) ∧ w.cell? ⟨b, 4, none⟩ = some (.int .u8 (a.e : Int)) ∧ w.cell? ⟨b, 5, none⟩ = some (.bool a.h) :=
  ⟨(mcells h).1 0, (mcells h).1 1, (mcells h).1 2, (mcells h).1 3, (mcells h).1 4, (mcells h).1 5⟩

set_option maxHeartbeats 4000000 in
set_option maxRecDepth 100000 in
theorem of15_any (a : Ac) (ha : AcOk a) (w : World) : Calls Try.prog 15 #[acV a] w fun e w' => e = .returned (oqV (ofQ a)) ∧ Below w.heap.size w w' := by
  obtain ⟨k, r, c, v, e, h⟩ := a
  obtain ⟨ak, ar, ac, av, ae⟩ := ha
  simp only at ak ar ac av ae
  obtain ⟨o, ho⟩ : ∃ o, o = ofQ ⟨k, r, c, v, e, h⟩ := ⟨_, rfl⟩
  rw [← ho]
  unfold ofQ rowN colN oneN at ho
  simp only at ho
  obtain ⟨w2, hw2⟩ : ∃ w2, w2 = (w.alloc (.cells #[.int .u8 (k : Int), .int .u8 (r : Int), .int .u8 (c : Int), .int .u8 (v : Int), .int .u8 (e : Int), .bool h] 47)).alloc (.cells #[.int .i64 0, .string (bstr []), .string (bstr []), .string (bstr []), .bool false, .string (bstr [])] 32) := ⟨_, rfl⟩
  have k1 := run_convert_byte w2 (r % 4) (by omega)
  have k2 := run_convert_byte (w2.alloc (.cells #[.int .u8 ((r : Int) % 4)] 5)) (c % 3) (by omega)
  have k3 := fun W => run_convert_byte W (v % 3) (by omega)
  have k4 := fun W => run_convert_byte W (e % 3) (by omega)
  have c4 : ((r % 4 : Nat) : Int) = (r : Int) % 4 := by omega
  have c3 : ((c % 3 : Nat) : Int) = (c : Int) % 3 := by omega
  have c5 : ((v % 3 : Nat) : Int) = (v : Int) % 3 := by omega
  have c6 : ((e % 3 : Nat) : Int) = (e : Int) % 3 := by omega
  simp only [c4, c3, c5, c6] at k1 k2 k3 k4
  have hs2 : w2.heap.size = w.heap.size + 1 + 1 := by rw [hw2]; simp
  simp only [World.size_alloc, hs2] at k1 k2
  generalize UInt8.ofNat (r % 4) = x1 at *
  generalize UInt8.ofNat (c % 3) = x2 at *
  generalize UInt8.ofNat (v % 3) = x3 at *
  generalize UInt8.ofNat (e % 3) = x4 at *
  clear c4 c3 c5 c6
  obtain ⟨kk, hkk⟩ : ∃ kk : Int, kk = 1 + (k : Int) % 4 := ⟨_, rfl⟩
  obtain ⟨w5, hw5⟩ : ∃ w5, w5 = ((w2.alloc (.cells #[.int .u8 ((r : Int) % 4)] 5)).alloc (.cells #[.int .u8 ((c : Int) % 3)] 5)).alloc (.cells #[.int .i64 kk, .string (bstr [114, x1]), .string (bstr [99, x2]), .string (bstr []), .bool false, .string (bstr [])] 32) := ⟨_, rfl⟩
  have hb2 : Below w.heap.size w w2 := by rw [hw2]; exact ((Below.refl _ _).alloc (Nat.le_refl _) _).alloc (by simp) _
  have hb25 : Below w2.heap.size w2 w5 := by rw [hw5]; exact (((Below.refl _ _).alloc (Nat.le_refl _) _).alloc (by simp) _).alloc (by simp; omega) _
  have hb5 := below2 hb2 hb25
  have hA2 : AcN w2 w.heap.size ⟨k, r, c, v, e, h⟩ := by rw [hw2]; exact (Below.heap_alloc _ _ _ (by simp)).trans (heap_alloc_new w _)
  have hZ2 : OqB w2 (w.heap.size + 1) ⟨0, [], [], [], false, []⟩ := by
    have hh := heap_alloc_new (w.alloc (.cells #[.int .u8 (k : Int), .int .u8 (r : Int), .int .u8 (c : Int), .int .u8 (v : Int), .int .u8 (e : Int), .bool h] 47)) (.cells #[.int .i64 0, .string (bstr []), .string (bstr []), .string (bstr []), .bool false, .string (bstr [])] 32)
    rw [World.size_alloc] at hh
    rw [hw2]
    exact hh
  have hA5 : AcN w5 w.heap.size ⟨k, r, c, v, e, h⟩ := (hb25.block _ (blk_lt hA2)).trans hA2
  have hZ5 : OqB w5 (w.heap.size + 1) ⟨0, [], [], [], false, []⟩ := op_row _ _ hZ2 hb25 (blk_lt hZ2)
  have hO5 : OqB w5 (w.heap.size + 1 + 1 + 1 + 1) ⟨kk, [114, x1], [99, x2], [], false, []⟩ := by
    have hh := heap_alloc_new ((w2.alloc (.cells #[.int .u8 ((r : Int) % 4)] 5)).alloc (.cells #[.int .u8 ((c : Int) % 3)] 5)) (.cells #[.int .i64 kk, .string (bstr [114, x1]), .string (bstr [99, x2]), .string (bstr []), .bool false, .string (bstr [])] 32)
    rw [World.size_alloc, World.size_alloc, hs2] at hh
    rw [hw5]
    exact hh
  have hE1 : (⟨#[114]⟩ : ByteArray) = bstr [114] := rfl
  have hE2 : (⟨#[99]⟩ : ByteArray) = bstr [99] := rfl
  have hE3 : (⟨#[]⟩ : ByteArray) = bstr [] := rfl
  have HW2 : Hid _ := hw2
  have hkk' : 1 + (k : Int) % 4 = kk := hkk.symm
  rw [hw2] at k1 k2
  have HW5 : Hid _ := hw5
  have HO : Hid _ := ho
  have HS2 : Hid _ := hs2
  have hk14 : 1 ≤ kk ∧ kk ≤ 4 := by omega
  have HKN : Hid _ := hkk
  clear hw5 hw2 ho hb2 hb25 hA2 hZ2 hs2 hkk
  go_enter Try.func15, Try.ntmps15
  go_upto_region 2 with fail
  try simp only [hkk']
  rw [← HW2.out, ← HW5.out]
  clear HW2 HW5 k1 k2 HS2
  have hP5 := blk_lt hO5
  obtain ⟨a0, a1, a2, a3, a4, a5⟩ := hA5.facts
  simp only at a0 a1 a2 a3 a4 a5
  obtain ⟨o0, o1, o2, o3, o4, o5⟩ := hO5.facts
  simp only at o0 o1 o2 o3 o4 o5
  clear hkk'
  rcases (show kk = 1 ∨ kk = 2 ∨ kk = 3 ∨ kk = 4 by omega) with rfl | rfl | rfl | rfl
  · have hval : True := trivial
    have hoo : o = ⟨1, [114, x1], [99, x2], [x3], false, []⟩ := by
      have hkn : k % 4 = 0 := by have := HKN.out; omega
      rw [HO.out, hkn]
      simp
    have hOa : OqB (w5.alloc (.cells #[.int .u8 ((v : Int) % 3)] 5)) (w.heap.size + 1 + 1 + 1 + 1) ⟨1, [114, x1], [99, x2], [], false, []⟩ := (Below.heap_alloc _ _ _ hP5).trans hO5
    obtain ⟨w6, hw6⟩ : ∃ w6, w6 = (w5.setCell ⟨w.heap.size + 1 + 1 + 1 + 1, 3, none⟩ (.string (bstr [x3]))).alloc (.cells #[.int .u8 ((v : Int) % 3)] 5) := ⟨_, rfl⟩
    have hO6 : OqB w6 (w.heap.size + 1 + 1 + 1 + 1) ⟨1, [114, x1], [99, x2], [x3], false, []⟩ := by rw [hw6]; exact (Below.heap_alloc _ _ _ (blk_lt (hO5.setF [x3]))).trans (hO5.setF [x3])
    have hb6 : Below w.heap.size w w6 := by rw [hw6]; have h9 := hb5.setCell (p := ⟨w.heap.size + 1 + 1 + 1 + 1, 3, none⟩) (by simp only; omega) (.string (bstr [x3])); exact h9.alloc h9.size _
    have hZ6 : OqB w6 (w.heap.size + 1) ⟨0, [], [], [], false, []⟩ := by rw [hw6]; have h9 := hZ5.other (n := w.heap.size + 1 + 1 + 1 + 1) (i := 3) (v := .string (bstr [x3])) (by omega); exact (Below.heap_alloc _ _ _ (blk_lt h9)).trans h9
    have hA6 : AcN w6 w.heap.size ⟨k, r, c, v, e, h⟩ := by rw [hw6]; have h9 := (heap_set_other (b := w.heap.size + 1 + 1 + 1 + 1) (o := 3) (.string (bstr [x3])) (by omega)).trans hA5; exact (Below.heap_alloc _ _ _ (blk_lt h9)).trans h9
    have HW6 : Hid _ := hw6
    clear hw6
    have k3g := k3 w5
    obtain ⟨p0, p1, p2, p3, p4, p5⟩ := hOa.facts
    simp only at p0 p1 p2 p3 p4 p5
    have fp := hOa.frz
    go_upto_region 4 with fail
    rw [← HW6.out]
    clear HW6 k3g p0 p1 p2 p3 p4 p5 fp o0 o1 o2 o3 o4 o5 a0 a1 a2 a3 a4 a5
    obtain ⟨o0, o1, o2, o3, o4, o5⟩ := hO6.facts
    simp only at o0 o1 o2 o3 o4 o5
    obtain ⟨a0, a1, a2, a3, a4, a5⟩ := hA6.facts
    simp only at a0 a1 a2 a3 a4 a5
    clear o0 o1 o2 o3 o4 o5
    obtain ⟨q0, q1, q2, q3, q4, q5⟩ := hO6.facts
    obtain ⟨z0, z1, z2, z3, z4, z5⟩ := hZ6.facts
    have fz := hZ6.frz
    have HR : Hid _ := hZ6.set ⟨1, [114, x1], [99, x2], [x3], false, []⟩
    have HB : Hid _ := ((((((hb6.setCell (p := ⟨w.heap.size + 1, 0, none⟩) (Nat.le_succ _) (.int .i64 1)).setCell (p := ⟨w.heap.size + 1, 1, none⟩) (Nat.le_succ _) (.string (bstr [114, x1]))).setCell (p := ⟨w.heap.size + 1, 2, none⟩) (Nat.le_succ _) (.string (bstr [99, x2]))).setCell (p := ⟨w.heap.size + 1, 3, none⟩) (Nat.le_succ _) (.string (bstr [x3]))).setCell (p := ⟨w.heap.size + 1, 4, none⟩) (Nat.le_succ _) (.bool false)).setCell (p := ⟨w.heap.size + 1, 5, none⟩) (Nat.le_succ _) (.string (bstr [])))
    simp only at q0 q1 q2 q3 q4 q5 z0 z1 z2 z3 z4 z5
    go_wp2
    exact ret_oq Try.results15 rfl HR.out rfl ⟨by first | rfl | rw [hoo], HB.out⟩
  · have hval : True := trivial
    have hoo : o = ⟨2, [114, x1], [99, x2], [], false, []⟩ := by
      have hkn : k % 4 = 1 := by have := HKN.out; omega
      rw [HO.out, hkn]
      simp
    clear o0 o1 o2 o3 o4 o5
    obtain ⟨q0, q1, q2, q3, q4, q5⟩ := hO5.facts
    obtain ⟨z0, z1, z2, z3, z4, z5⟩ := hZ5.facts
    have fz := hZ5.frz
    have HR : Hid _ := hZ5.set ⟨2, [114, x1], [99, x2], [], false, []⟩
    have HB : Hid _ := ((((((hb5.setCell (p := ⟨w.heap.size + 1, 0, none⟩) (Nat.le_succ _) (.int .i64 2)).setCell (p := ⟨w.heap.size + 1, 1, none⟩) (Nat.le_succ _) (.string (bstr [114, x1]))).setCell (p := ⟨w.heap.size + 1, 2, none⟩) (Nat.le_succ _) (.string (bstr [99, x2]))).setCell (p := ⟨w.heap.size + 1, 3, none⟩) (Nat.le_succ _) (.string (bstr []))).setCell (p := ⟨w.heap.size + 1, 4, none⟩) (Nat.le_succ _) (.bool false)).setCell (p := ⟨w.heap.size + 1, 5, none⟩) (Nat.le_succ _) (.string (bstr [])))
    simp only at q0 q1 q2 q3 q4 q5 z0 z1 z2 z3 z4 z5
    go_wp2
    exact ret_oq Try.results15 rfl HR.out rfl ⟨by first | rfl | rw [hoo], HB.out⟩
  · have hval : True := trivial
    have hoo : o = ⟨3, [114, x1], [99, x2], [], false, []⟩ := by
      have hkn : k % 4 = 2 := by have := HKN.out; omega
      rw [HO.out, hkn]
      simp
    clear o0 o1 o2 o3 o4 o5
    obtain ⟨q0, q1, q2, q3, q4, q5⟩ := hO5.facts
    obtain ⟨z0, z1, z2, z3, z4, z5⟩ := hZ5.facts
    have fz := hZ5.frz
    have HR : Hid _ := hZ5.set ⟨3, [114, x1], [99, x2], [], false, []⟩
    have HB : Hid _ := ((((((hb5.setCell (p := ⟨w.heap.size + 1, 0, none⟩) (Nat.le_succ _) (.int .i64 3)).setCell (p := ⟨w.heap.size + 1, 1, none⟩) (Nat.le_succ _) (.string (bstr [114, x1]))).setCell (p := ⟨w.heap.size + 1, 2, none⟩) (Nat.le_succ _) (.string (bstr [99, x2]))).setCell (p := ⟨w.heap.size + 1, 3, none⟩) (Nat.le_succ _) (.string (bstr []))).setCell (p := ⟨w.heap.size + 1, 4, none⟩) (Nat.le_succ _) (.bool false)).setCell (p := ⟨w.heap.size + 1, 5, none⟩) (Nat.le_succ _) (.string (bstr [])))
    simp only at q0 q1 q2 q3 q4 q5 z0 z1 z2 z3 z4 z5
    go_wp2
    exact ret_oq Try.results15 rfl HR.out rfl ⟨by first | rfl | rw [hoo], HB.out⟩
  · cases h with
    | false =>
      have hoo : o = ⟨4, [114, x1], [99, x2], [x3], false, []⟩ := by
        have hkn : k % 4 = 3 := by have := HKN.out; omega
        rw [HO.out, hkn]
        simp
      have hOa : OqB (w5.alloc (.cells #[.int .u8 ((v : Int) % 3)] 5)) (w.heap.size + 1 + 1 + 1 + 1) ⟨4, [114, x1], [99, x2], [], false, []⟩ := (Below.heap_alloc _ _ _ hP5).trans hO5
      obtain ⟨w6, hw6⟩ : ∃ w6, w6 = (w5.setCell ⟨w.heap.size + 1 + 1 + 1 + 1, 3, none⟩ (.string (bstr [x3]))).alloc (.cells #[.int .u8 ((v : Int) % 3)] 5) := ⟨_, rfl⟩
      have hO6 : OqB w6 (w.heap.size + 1 + 1 + 1 + 1) ⟨4, [114, x1], [99, x2], [x3], false, []⟩ := by rw [hw6]; exact (Below.heap_alloc _ _ _ (blk_lt (hO5.setF [x3]))).trans (hO5.setF [x3])
      have hb6 : Below w.heap.size w w6 := by rw [hw6]; have h9 := hb5.setCell (p := ⟨w.heap.size + 1 + 1 + 1 + 1, 3, none⟩) (by simp only; omega) (.string (bstr [x3])); exact h9.alloc h9.size _
      have hZ6 : OqB w6 (w.heap.size + 1) ⟨0, [], [], [], false, []⟩ := by rw [hw6]; have h9 := hZ5.other (n := w.heap.size + 1 + 1 + 1 + 1) (i := 3) (v := .string (bstr [x3])) (by omega); exact (Below.heap_alloc _ _ _ (blk_lt h9)).trans h9
      have hA6 : AcN w6 w.heap.size ⟨k, r, c, v, e, false⟩ := by rw [hw6]; have h9 := (heap_set_other (b := w.heap.size + 1 + 1 + 1 + 1) (o := 3) (.string (bstr [x3])) (by omega)).trans hA5; exact (Below.heap_alloc _ _ _ (blk_lt h9)).trans h9
      have HW6 : Hid _ := hw6
      clear hw6
      have k3g := k3 w5
      obtain ⟨p0, p1, p2, p3, p4, p5⟩ := hOa.facts
      simp only at p0 p1 p2 p3 p4 p5
      have fp := hOa.frz
      go_upto_region 4 with fail
      rw [← HW6.out]
      clear HW6 k3g p0 p1 p2 p3 p4 p5 fp o0 o1 o2 o3 o4 o5 a0 a1 a2 a3 a4 a5
      obtain ⟨o0, o1, o2, o3, o4, o5⟩ := hO6.facts
      simp only at o0 o1 o2 o3 o4 o5
      obtain ⟨a0, a1, a2, a3, a4, a5⟩ := hA6.facts
      simp only at a0 a1 a2 a3 a4 a5
      clear o0 o1 o2 o3 o4 o5
      obtain ⟨q0, q1, q2, q3, q4, q5⟩ := hO6.facts
      obtain ⟨z0, z1, z2, z3, z4, z5⟩ := hZ6.facts
      have fz := hZ6.frz
      have HR : Hid _ := hZ6.set ⟨4, [114, x1], [99, x2], [x3], false, []⟩
      have HB : Hid _ := ((((((hb6.setCell (p := ⟨w.heap.size + 1, 0, none⟩) (Nat.le_succ _) (.int .i64 4)).setCell (p := ⟨w.heap.size + 1, 1, none⟩) (Nat.le_succ _) (.string (bstr [114, x1]))).setCell (p := ⟨w.heap.size + 1, 2, none⟩) (Nat.le_succ _) (.string (bstr [99, x2]))).setCell (p := ⟨w.heap.size + 1, 3, none⟩) (Nat.le_succ _) (.string (bstr [x3]))).setCell (p := ⟨w.heap.size + 1, 4, none⟩) (Nat.le_succ _) (.bool false)).setCell (p := ⟨w.heap.size + 1, 5, none⟩) (Nat.le_succ _) (.string (bstr [])))
      simp only at q0 q1 q2 q3 q4 q5 z0 z1 z2 z3 z4 z5
      go_wp2
      exact ret_oq Try.results15 rfl HR.out rfl ⟨by first | rfl | rw [hoo], HB.out⟩
    | true =>
      have hoo : o = ⟨4, [114, x1], [99, x2], [x3], true, [x4]⟩ := by
        have hkn : k % 4 = 3 := by have := HKN.out; omega
        rw [HO.out, hkn]
        simp
      have hOa : OqB (w5.alloc (.cells #[.int .u8 ((v : Int) % 3)] 5)) (w.heap.size + 1 + 1 + 1 + 1) ⟨4, [114, x1], [99, x2], [], false, []⟩ := (Below.heap_alloc _ _ _ hP5).trans hO5
      obtain ⟨w6, hw6⟩ : ∃ w6, w6 = (w5.setCell ⟨w.heap.size + 1 + 1 + 1 + 1, 3, none⟩ (.string (bstr [x3]))).alloc (.cells #[.int .u8 ((v : Int) % 3)] 5) := ⟨_, rfl⟩
      have hO6 : OqB w6 (w.heap.size + 1 + 1 + 1 + 1) ⟨4, [114, x1], [99, x2], [x3], false, []⟩ := by rw [hw6]; exact (Below.heap_alloc _ _ _ (blk_lt (hO5.setF [x3]))).trans (hO5.setF [x3])
      have hb6 : Below w.heap.size w w6 := by rw [hw6]; have h9 := hb5.setCell (p := ⟨w.heap.size + 1 + 1 + 1 + 1, 3, none⟩) (by simp only; omega) (.string (bstr [x3])); exact h9.alloc h9.size _
      have hZ6 : OqB w6 (w.heap.size + 1) ⟨0, [], [], [], false, []⟩ := by rw [hw6]; have h9 := hZ5.other (n := w.heap.size + 1 + 1 + 1 + 1) (i := 3) (v := .string (bstr [x3])) (by omega); exact (Below.heap_alloc _ _ _ (blk_lt h9)).trans h9
      have hA6 : AcN w6 w.heap.size ⟨k, r, c, v, e, true⟩ := by rw [hw6]; have h9 := (heap_set_other (b := w.heap.size + 1 + 1 + 1 + 1) (o := 3) (.string (bstr [x3])) (by omega)).trans hA5; exact (Below.heap_alloc _ _ _ (blk_lt h9)).trans h9
      have HW6 : Hid _ := hw6
      clear hw6
      have k3g := k3 w5
      obtain ⟨p0, p1, p2, p3, p4, p5⟩ := hOa.facts
      simp only at p0 p1 p2 p3 p4 p5
      have fp := hOa.frz
      go_upto_region 4 with fail
      rw [← HW6.out]
      clear HW6 k3g p0 p1 p2 p3 p4 p5 fp o0 o1 o2 o3 o4 o5 a0 a1 a2 a3 a4 a5
      obtain ⟨o0, o1, o2, o3, o4, o5⟩ := hO6.facts
      simp only at o0 o1 o2 o3 o4 o5
      obtain ⟨a0, a1, a2, a3, a4, a5⟩ := hA6.facts
      simp only at a0 a1 a2 a3 a4 a5
      obtain ⟨w7, hw7⟩ : ∃ w7, w7 = w6.setCell ⟨w.heap.size + 1 + 1 + 1 + 1, 4, none⟩ (.bool true) := ⟨_, rfl⟩
      have hO7 : OqB w7 (w.heap.size + 1 + 1 + 1 + 1) ⟨4, [114, x1], [99, x2], [x3], true, []⟩ := by rw [hw7]; exact hO6.setH true
      have hb7 : Below w.heap.size w w7 := by rw [hw7]; exact hb6.setCell (by simp only; omega) _
      have hZ7 : OqB w7 (w.heap.size + 1) ⟨0, [], [], [], false, []⟩ := by rw [hw7]; exact hZ6.other (n := w.heap.size + 1 + 1 + 1 + 1) (by omega)
      have hA7 : AcN w7 w.heap.size ⟨k, r, c, v, e, true⟩ := by rw [hw7]; exact (heap_set_other (b := w.heap.size + 1 + 1 + 1 + 1) _ (by omega)).trans hA6
      have HW7 : Hid _ := hw7
      clear hw7
      have f6 := hO6.frz
      go_upto_region 6 with fail
      rw [← HW7.out]
      clear HW7 f6 o0 o1 o2 o3 o4 o5 a0 a1 a2 a3 a4 a5
      obtain ⟨a0, a1, a2, a3, a4, a5⟩ := hA7.facts
      simp only at a0 a1 a2 a3 a4 a5
      have hP7 := blk_lt hO7
      have hOb : OqB (w7.alloc (.cells #[.int .u8 ((e : Int) % 3)] 5)) (w.heap.size + 1 + 1 + 1 + 1) ⟨4, [114, x1], [99, x2], [x3], true, []⟩ := (Below.heap_alloc _ _ _ hP7).trans hO7
      obtain ⟨w8, hw8⟩ : ∃ w8, w8 = (w7.setCell ⟨w.heap.size + 1 + 1 + 1 + 1, 5, none⟩ (.string (bstr [x4]))).alloc (.cells #[.int .u8 ((e : Int) % 3)] 5) := ⟨_, rfl⟩
      have hO8 : OqB w8 (w.heap.size + 1 + 1 + 1 + 1) ⟨4, [114, x1], [99, x2], [x3], true, [x4]⟩ := by rw [hw8]; exact (Below.heap_alloc _ _ _ (blk_lt (hO7.setE [x4]))).trans (hO7.setE [x4])
      have hb8 : Below w.heap.size w w8 := by rw [hw8]; have h9 := hb7.setCell (p := ⟨w.heap.size + 1 + 1 + 1 + 1, 5, none⟩) (by simp only; omega) (.string (bstr [x4])); exact h9.alloc h9.size _
      have hZ8 : OqB w8 (w.heap.size + 1) ⟨0, [], [], [], false, []⟩ := by rw [hw8]; have h9 := hZ7.other (n := w.heap.size + 1 + 1 + 1 + 1) (i := 5) (v := .string (bstr [x4])) (by omega); exact (Below.heap_alloc _ _ _ (blk_lt h9)).trans h9
      have HW8 : Hid _ := hw8
      clear hw8
      have k4g := k4 w7
      obtain ⟨p0, p1, p2, p3, p4, p5⟩ := hOb.facts
      simp only at p0 p1 p2 p3 p4 p5
      have fp := hOb.frz
      go_upto_region 7 with fail
      rw [← HW8.out]
      clear HW8 k4g p0 p1 p2 p3 p4 p5 fp a0 a1 a2 a3 a4 a5
      obtain ⟨q0, q1, q2, q3, q4, q5⟩ := hO8.facts
      obtain ⟨z0, z1, z2, z3, z4, z5⟩ := hZ8.facts
      have fz := hZ8.frz
      have HR : Hid _ := hZ8.set ⟨4, [114, x1], [99, x2], [x3], true, [x4]⟩
      have HB : Hid _ := ((((((hb8.setCell (p := ⟨w.heap.size + 1, 0, none⟩) (Nat.le_succ _) (.int .i64 4)).setCell (p := ⟨w.heap.size + 1, 1, none⟩) (Nat.le_succ _) (.string (bstr [114, x1]))).setCell (p := ⟨w.heap.size + 1, 2, none⟩) (Nat.le_succ _) (.string (bstr [99, x2]))).setCell (p := ⟨w.heap.size + 1, 3, none⟩) (Nat.le_succ _) (.string (bstr [x3]))).setCell (p := ⟨w.heap.size + 1, 4, none⟩) (Nat.le_succ _) (.bool true)).setCell (p := ⟨w.heap.size + 1, 5, none⟩) (Nat.le_succ _) (.string (bstr [x4])))
      simp only at q0 q1 q2 q3 q4 q5 z0 z1 z2 z3 z4 z5
      go_wp2
      exact ret_oq Try.results15 rfl HR.out rfl ⟨by first | rfl | rw [hoo], HB.out⟩

end Go.Proofs.Ytlkikfkchgmmhaa
