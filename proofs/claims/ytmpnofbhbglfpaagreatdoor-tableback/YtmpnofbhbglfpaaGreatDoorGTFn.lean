/-
  'string(make([]byte, n))': n bytes 0.
  The small functions of table: the place of a cell, its key, which place stands ahead; the first of two errors; what the index says of a block; places in eight bytes; where the blocks end.
-/
import Derived.Test.YtmpnofbhbglfpaaGreatDoorAid
import Derived.Laws.MakeOwn
import Derived.Test.YtmpnofbhbglfpaaGreatDoorGTRdM
import Derived.Test.YtmpnofbhbglfpaaGreatDoorZMem
import Derived.Test.YtmpnofbhbglfpaaGreatDoorRead
import Derived.Laws.StructEq
import Derived.BigQuiet
namespace Go.Proofs.YtmpnofbhbglfpaaGreatDoor
open Go.RowKit

/-- The cells of a new row of n bytes. -/
def zs (n : Nat) : Array Value := madeCells (Value.int .u8 0).cells n
def zeros (n : Nat) : List UInt8 := List.replicate n 0
theorem zeros_length (n : Nat) : (zeros n).length = n := List.length_replicate
theorem zs_toList (n : Nat) : (zs n).toList = Lib.byteCells (zeros n) := by
  unfold zs zeros Lib.byteCells madeCells
  apply List.ext_getElem?
  intro i
  by_cases h : i < n
  · have h1 : i % 1 = 0 := Nat.mod_one i
    simp [h, Value.cells, h1]
  · simp [h]
theorem make_run (k : IntKind) (n : Nat) (hn : n ≤ 2000000) (w : World) : (Instr.makeSlice 88 (.int k (n : Int)) (.int k (n : Int))).run Tryz.prog w = .ok (.slice (some ⟨w.heap.size, 0, none⟩) n n) (w.alloc (.cells (zs n) 5)) := by
  obtain ⟨i0, hi, hz0, hz1, hz2⟩ := info_parts Tryz.infoByte
  have := run_make (P := Tryz.prog) (w := w) 88 5 i0 (.int .u8 0) Tryz.underlying88 hi hz0 k k (n : Int) (n : Int) (by omega) (by omega) (by rw [hz2]; omega) (by omega)
  rw [Int.toNat_natCast, hz1, Nat.mul_one] at this
  exact this
theorem made_run (n : Nat) (hn : n ≤ 2000000) (W : World) : (convert 88 9 (.slice (some ⟨W.heap.size, 0, none⟩) n n)).run Tryz.prog (W.alloc (.cells (zs n) 5)) = .ok (.string (bstr (zeros n))) (W.alloc (.cells (zs n) 5)) := by
  have hown : (W.alloc (.cells (zs n) 5)).ownsRow W.heap.size 5 1 (.slice (some ⟨W.heap.size, 0, none⟩) n n) n (Lib.byteCells (zeros n)) := by
    have hl : (zs n).size = n := by rw [← Array.length_toList, zs_toList, Lib.byteCells_length, zeros_length]
    refine ⟨by rw [Lib.byteCells_length, zeros_length]; omega, .inr ⟨W.heap.size, n, zs n, rfl, Nat.le_refl _, heap_alloc_new W _, Nat.le_refl _, by unfold maxLen; omega, by omega, ?_⟩⟩
    rw [zs_toList, List.take_of_length_le (by rw [Lib.byteCells_length, zeros_length]; omega)]
  exact run_convert_own hown Tryz.underlying88 Tryz.underlying5 Tryz.underlying9

end Go.Proofs.YtmpnofbhbglfpaaGreatDoor

namespace Go.Proofs.YtmpnofbhbglfpaaGreatDoor
open Go.RowKit
attribute [local go_sem] size_bstr getElem_bstr toList_bstr append_bstr

/-- A place as a value. -/
abbrev plV (p : List UInt8 × List UInt8) : Value := .agg #[.string (bstr p.1), .string (bstr p.2)]
theorem eqFields_pl (a b c d : List UInt8) (w : World) : (Op.equalIn 10000 75 (plV (a, b)) (plV (c, d))).run Tryz.prog w = .ok (a == c && b == d) w := by
  have hS : Tryz.prog.underlying 75 = some (.struct (Tryz.prog.fieldsOf 75)) := by kernel_rfl
  have hp : Tryz.prog.stoodInHeld 75 = false := by kernel_rfl
  have u := Tryz.underlying9
  have ag := Tryz.isAgg9
  have sz := Tryz.sizeOf9
  rw [show (10000 : Nat) = 9999 + 1 from rfl, run_equalIn_agg w 9999 75 _ _ hS hp]
  simp only [Program.fieldsOf, Tryz.underlying75]
  go_simp
  by_cases h1 : a = c <;> by_cases h2 : b = d <;> simp [h1, h2]
theorem pl_neq (a b c d : List UInt8) (w : World) : (binOp .neq 75 (.agg #[.string (bstr a), .string (bstr b)]) (.agg #[.string (bstr c), .string (bstr d)])).run Tryz.prog w = .ok (.bool (!(a == c && b == d))) w := by
  rw [run_neq_struct, eqFields_pl]
  rfl
theorem pl_guard (op : BinOp) (x y : Operand) (xs ys : Array Value) (w : World) : (eqGuard op 75 x y (.agg xs) (.agg ys)).run Tryz.prog w = .ok () w :=
  run_eqGuard_agg w op _ x y xs ys (by kernel_rfl)

set_option maxHeartbeats 1000000 in
set_option maxRecDepth 100000 in
theorem of_any (c : Cl) (w : World) : Calls Tryz.prog 41 #[clV c] w fun e w' => e = .returned (.agg #[.string (bstr c.row), .string (bstr c.col)]) ∧ RowKit.Below w.heap.size w w' := by
  obtain ⟨r, k, v, z, x⟩ := c
  have hB : RowKit.Below w.heap.size w (w.alloc (.cells #[.string (bstr r), .string (bstr k), .int .u64 v, .bool z, .string (bstr x)] 39)) := (RowKit.Below.refl _ _).alloc (Nat.le_refl _) _
  have hB2 : RowKit.Below w.heap.size w ((w.alloc (.cells #[.string (bstr r), .string (bstr k), .int .u64 v, .bool z, .string (bstr x)] 39)).alloc (.cells #[.string (bstr r), .string (bstr k)] 75)) := hB.alloc hB.size _
  have r0 := (RngAt.new2 w (.cells #[.string (bstr r), .string (bstr k), .int .u64 v, .bool z, .string (bstr x)] 39) 75 r k).c0
  have r1 := (RngAt.new2 w (.cells #[.string (bstr r), .string (bstr k), .int .u64 v, .bool z, .string (bstr x)] 39) 75 r k).c1
  go_enter Tryz.func41, Tryz.ntmps41
  go_wp2
  exact bodyPost_ret (v := rngV r k) (by simp [results, Tryz.results41, go_sem, r0, r1]) rfl ⟨rfl, hB2⟩

set_option maxHeartbeats 1000000 in
set_option maxRecDepth 100000 in
theorem key_any (r k : List UInt8) (w : World) (h : r.length + k.length ≤ 4611686018427387904) : Calls Tryz.prog 36 #[.agg #[.string (bstr r), .string (bstr k)]] w fun e w' => e = .returned (.string (bstr (keyL r k))) ∧ RowKit.Below w.heap.size w w' := by
  have hB : RowKit.Below w.heap.size w (w.alloc (.cells #[.string (bstr r), .string (bstr k)] 75)) := (RowKit.Below.refl _ _).alloc (Nat.le_refl _) _
  have h1 : ¬ 9223372036854775807 < r.length + 1 := by omega
  have h2 : ¬ 9223372036854775807 < r.length + 1 + k.length := by omega
  have e0 : (⟨#[0]⟩ : ByteArray) = bstr [0] := rfl
  clear h
  go_enter Tryz.func36, Tryz.ntmps36
  go_wp2
  go_ret
  exact ⟨rfl, hB⟩

set_option maxHeartbeats 1000000 in
set_option maxRecDepth 100000 in
theorem ahead_any (p q : List UInt8 × List UInt8) (w : World) : Calls Tryz.prog 42 #[plV p, plV q] w fun e w' => e = .returned (.bool (decide (cc p.1 p.2 0 q.1 q.2 0 < 0))) ∧ RowKit.Below w.heap.size w w' := by
  obtain ⟨a, b⟩ := p
  obtain ⟨c, d⟩ := q
  have hcon := fun W => Cmp_any a b 0 false [] c d 0 false [] W
  have hB : Below w.heap.size w ((w.alloc (.cells #[.string (bstr a), .string (bstr b)] 75)).alloc (.cells #[.string (bstr c), .string (bstr d)] 75)) := ((Below.refl _ _).alloc (Nat.le_refl _) _).alloc (by simp) _
  have ez : (⟨#[]⟩ : ByteArray) = bstr [] := rfl
  go_enter Tryz.func42, Tryz.ntmps42
  go_wp2_with (first | (go_at_call 48; refine (hcon _).mono ?_; rintro e w' ⟨rfl, hb⟩))
  go_ret
  exact ⟨rfl, below2 hB hb⟩

set_option maxHeartbeats 1000000 in
set_option maxRecDepth 100000 in
/-- Two errors that are none. -/
theorem orE_any (n : Nat) (w : World) (h0 : w.cell? ⟨n, 0, none⟩ = some (.int .i64 0)) (h1 : w.cell? ⟨n, 1, none⟩ = some (.int .i64 0)) :
    Calls Tryz.prog 52 #[.slice (some ⟨n, 0, none⟩) 2 2] w fun e w' => e = .returned (.int .i64 0) ∧ w' = w := by
  go_enter Tryz.func52, Tryz.ntmps52
  go_wp2
  go_loop [8] (fun vi => ∃ i : Nat, vi = .int .i64 i ∧ i ≤ 2) (fun vi => 2 - (intOf vi).toNat)
  case atStart => exact ⟨0, rfl, by omega⟩
  case round =>
    obtain ⟨i, rfl, hi⟩ := hrel
    obtain rfl | rfl | rfl : i = 0 ∨ i = 1 ∨ i = 2 := by omega
    · go_wp2
      go_round
      case rel => exact ⟨1, by go_num, by omega⟩
      case measure => simp [intOf]
    · go_wp2
      go_round
      case rel => exact ⟨2, by go_num, by omega⟩
      case measure => simp [intOf]
    · go_wp2
      go_ret
      exact ⟨rfl, rfl⟩

set_option maxHeartbeats 2000000 in
set_option maxRecDepth 100000 in
theorem indexRow_any (p : List UInt8 × List UInt8) (a z n : Nat) (w : World) (h1 : p.1.length ≤ 1000) (h2 : p.2.length ≤ 1000) (ha : a ≤ 4611686018427387904) (hz : z ≤ 4611686018427387904) (hn : n ≤ 4611686018427387904) :
    Calls Tryz.prog 55 #[plV p, .int .i64 (a : Int), .int .i64 (z : Int), .int .i64 (n : Int)] w fun e w' => e = .returned (.string (bstr (rowI p a z n))) ∧ RowKit.Below w.heap.size w w' := by
  obtain ⟨r, k⟩ := p
  simp only at h1 h2
  have t1 := txt_len (s := r) (by omega)
  have t2 := txt_len (s := k) (by omega)
  have u1 := Lib.uvarint_length64 (x := a) (by omega)
  have u2 := Lib.uvarint_length64 (x := z) (by omega)
  have p1 : ∀ W, Calls Tryz.prog 102 #[.string ⟨#[]⟩, .string (bstr r)] W fun e w' => e = .returned (.string (bstr (txt r))) ∧ Below W.heap.size W w' := fun W => putText [] r W (by simp) (by omega)
  have p2 : ∀ W, Calls Tryz.prog 102 #[.string (bstr (txt r)), .string (bstr k)] W fun e w' => e = .returned (.string (bstr (txt r ++ txt k))) ∧ Below W.heap.size W w' := fun W => putText (txt r) k W (by omega) (by omega)
  have p3 : ∀ W, Calls Tryz.prog 56 #[.string (bstr (txt r ++ txt k)), .int .u64 (a : Int)] W fun e w' => e = .returned (.string (bstr (txt r ++ txt k ++ Lib.uvarint a))) ∧ Below W.heap.size W w' := fun W => putNum _ a W (by omega) (by rw [List.length_append]; omega)
  have p4 : ∀ W, Calls Tryz.prog 56 #[.string (bstr (txt r ++ txt k ++ Lib.uvarint a)), .int .u64 (z : Int)] W fun e w' => e = .returned (.string (bstr (txt r ++ txt k ++ Lib.uvarint a ++ Lib.uvarint z))) ∧ Below W.heap.size W w' := fun W => putNum _ z W (by omega) (by rw [List.length_append, List.length_append]; omega)
  have p5 : ∀ W, Calls Tryz.prog 56 #[.string (bstr (txt r ++ txt k ++ Lib.uvarint a ++ Lib.uvarint z)), .int .u64 (n : Int)] W fun e w' => e = .returned (.string (bstr (txt r ++ txt k ++ Lib.uvarint a ++ Lib.uvarint z ++ Lib.uvarint n))) ∧ Below W.heap.size W w' := fun W => putNum _ n W (by omega) (by rw [List.length_append, List.length_append, List.length_append]; omega)
  have e1 : IntKind.u64.wrap (a : Int) = (a : Int) := by rw [IntKind.wrap_u64]; omega
  have e2 : IntKind.u64.wrap (z : Int) = (z : Int) := by rw [IntKind.wrap_u64]; omega
  have e3 : IntKind.u64.wrap (n : Int) = (n : Int) := by rw [IntKind.wrap_u64]; omega
  have er : rowI (r, k) a z n = txt r ++ txt k ++ Lib.uvarint a ++ Lib.uvarint z ++ Lib.uvarint n := by unfold rowI; simp only [List.append_assoc]
  have hB : Below w.heap.size w (w.alloc (.cells #[.string (bstr r), .string (bstr k)] 75)) := (Below.refl _ _).alloc (Nat.le_refl _) _
  have r0 := (RngAt.new w 75 r k).c0
  have r1 := (RngAt.new w 75 r k).c1
  have HER : Hid _ := er
  have hlt : w.heap.size < (w.alloc (.cells #[.string (bstr r), .string (bstr k)] 75)).heap.size := by simp
  clear er t1 t2 u1 u2 h1 h2
  generalize hx1 : txt r = x1 at *
  generalize hx2 : x1 ++ txt k = x2 at *
  generalize hx3 : x2 ++ Lib.uvarint a = x3 at *
  generalize hx4 : x3 ++ Lib.uvarint z = x4 at *
  generalize hx5 : x4 ++ Lib.uvarint n = x5 at *
  clear hx1 hx2 hx3 hx4 hx5
  go_enter Tryz.func55, Tryz.ntmps55
  go_wp2_with fail
  generalize w.alloc (.cells #[.string (bstr r), .string (bstr k)] 75) = W at *
  have hst : ∀ W1 W2 : World, Below W1.heap.size W1 W2 → w.heap.size < W1.heap.size → W1.cell? ⟨w.heap.size, 0, none⟩ = some (.string (bstr r)) → W1.cell? ⟨w.heap.size, 1, none⟩ = some (.string (bstr k)) → W2.cell? ⟨w.heap.size, 0, none⟩ = some (.string (bstr r)) ∧ W2.cell? ⟨w.heap.size, 1, none⟩ = some (.string (bstr k)) ∧ w.heap.size < W2.heap.size := fun W1 W2 hb hl a b => ⟨by rw [(bcell hb).1 _ _ hl]; exact a, by rw [(bcell hb).1 _ _ hl]; exact b, Nat.lt_of_lt_of_le hl hb.size⟩
  have HST : Hid _ := hst
  clear hst
  have hltd : w.heap.size < W.drew.heap.size := hlt
  have r0d : W.drew.cell? ⟨w.heap.size, 0, none⟩ = some (.string (bstr r)) := r0
  have r1d : W.drew.cell? ⟨w.heap.size, 1, none⟩ = some (.string (bstr k)) := r1
  have hBd : Below w.heap.size w W.drew := hB.drew
  go_region_held3 (fun w' => w'.cell? ⟨w.heap.size, 0, none⟩ = some (.string (bstr r)) ∧ w'.cell? ⟨w.heap.size, 1, none⟩ = some (.string (bstr k)))
    (first | with_reducible exact ⟨r0d, r1d⟩ | with_reducible exact ⟨s0, s1⟩ | with_reducible exact ⟨v0, v1⟩)
    (first
      | (go_at_call 102; with_reducible refine (p1 _).mono ?_; rintro e wa ⟨rfl, ba⟩; obtain ⟨s0, s1, sl⟩ := HST.out _ _ ba hltd r0d r1d)
      | (go_at_call 102; with_reducible refine (p2 _).mono ?_; rintro e wb ⟨rfl, bb⟩; obtain ⟨v0, v1, vl⟩ := HST.out _ _ bb sl s0 s1))
  go_wp2_with (first
    | (go_at_call 56; with_reducible refine (p3 _).mono ?_; rintro e wc ⟨rfl, bc⟩)
    | (go_at_call 56; with_reducible refine (p4 _).mono ?_; rintro e wd ⟨rfl, bd⟩)
    | (go_at_call 56; with_reducible refine (p5 _).mono ?_; rintro e we ⟨rfl, be⟩))
  go_ret
  refine ⟨by rw [HER.out]; rfl, ?_⟩
  have h1 := below2 hBd ba
  have h2 := below2 h1 bb
  have h3 := below2 h2 bc
  have h4 := below2 h3 bd
  exact below2 h4 be

end Go.Proofs.YtmpnofbhbglfpaaGreatDoor
