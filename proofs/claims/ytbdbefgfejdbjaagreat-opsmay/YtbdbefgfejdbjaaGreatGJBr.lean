/-
  Results as bytes, as lists: laid, taken, there and back.
  Bytes in a block, as an argument.
-/
import Derived.Test.YtbdbefgfejdbjaaGreatGVWir
namespace Go.Proofs.YtbdbefgfejdbjaaGreat
open Go.RowKit Go.BigFrame

/-- A result. -/
structure Rz where
  err : Int
  found : Bool
  row : List UInt8
  val : List UInt8
  ver : Nat
abbrev rzV (r : Rz) : Value := .agg #[.int .i64 r.err, .bool r.found, .string (bstr r.row), .string (bstr r.val), .int .u64 (r.ver : Int)]
abbrev rz0 : Rz := ⟨0, false, [], [], 0⟩
/-- May it be? -/
def okR (r : Rz) : Bool := decide (0 ≤ r.err) && decide (r.err ≤ 15) && decide (r.row.length ≤ 32) && decide (r.val.length ≤ 65536) && decide (r.ver ≤ 1099511627776)
theorem okR_iff {r : Rz} : okR r = true ↔ 0 ≤ r.err ∧ r.err ≤ 15 ∧ r.row.length ≤ 32 ∧ r.val.length ≤ 65536 ∧ r.ver ≤ 1099511627776 := by
  unfold okR
  simp only [Bool.and_eq_true, decide_eq_true_eq, and_assoc]

def bolN (b : Bool) : Nat := if b then 1 else 0
def bol (b : Bool) : List UInt8 := if b then [1] else [0]
theorem uvarint_small {x : Nat} (h : x < 128) : Lib.uvarint x = [UInt8.ofNat x] := by
  rw [Lib.uvarint]
  simp [h]
theorem bol_uv (b : Bool) : bol b = Lib.uvarint (bolN b) := by
  cases b
  · rw [show bolN false = 0 from rfl, uvarint_small (by decide)]
    rfl
  · rw [show bolN true = 1 from rfl, uvarint_small (by decide)]
    rfl
/-- A result's bytes. -/
def layR (r : Rz) : List UInt8 := Lib.uvarint r.err.toNat ++ bol r.found ++ (txt r.row ++ txt r.val) ++ Lib.uvarint r.ver
theorem layR_len {r : Rz} (h : okR r = true) : (layR r).length ≤ r.row.length + r.val.length + 41 ∧ 1 ≤ (layR r).length := by
  obtain ⟨h1, h2, h3, h4, h5⟩ := okR_iff.1 h
  have a1 := Lib.uvarint_length64 (x := r.err.toNat) (by omega)
  have a2 := Lib.uvarint_length64 (x := r.ver) (by omega)
  have a3 := txt_len (s := r.row) (by omega)
  have a4 := txt_len (s := r.val) (by omega)
  have a5 : (bol r.found).length = 1 := by cases r.found <;> rfl
  unfold layR
  simp only [List.length_append]
  omega

/-- A number that is taken: whether all is there still, what it is. -/
def nA (a : Bool) (m : Nat) (l : List UInt8) : Bool := a && okN l && decide (nV l ≤ m)
def nX (a : Bool) (m : Nat) (l : List UInt8) : Nat := if nA a m l then nV l else 0
def tA (a : Bool) (l : List UInt8) : Bool := a && okT 1048576 l
def tX (a : Bool) (l : List UInt8) : List UInt8 := if tA a l then tV 1048576 l else []
abbrev tS (l : List UInt8) : List UInt8 := tR 1048576 l
theorem nX_le (a : Bool) (m : Nat) (l : List UInt8) : nX a m l ≤ m := by
  unfold nX
  split
  · rename_i h
    simp only [nA, Bool.and_eq_true, decide_eq_true_eq] at h
    exact h.2
  · omega

/-- The result that bytes begin with; whether there was one, and nothing behind it. -/
def a1 (l : List UInt8) : Bool := nA true 2147483647 l
def a2 (l : List UInt8) : Bool := nA (a1 l) 1 (nR l)
def a3 (l : List UInt8) : Bool := tA (a2 l) (nR (nR l))
def a4 (l : List UInt8) : Bool := tA (a3 l) (tS (nR (nR l)))
def a5 (l : List UInt8) : Bool := nA (a4 l) 18446744073709551615 (tS (tS (nR (nR l))))
def l5 (l : List UInt8) : List UInt8 := nR (tS (tS (nR (nR l))))
def decR (l : List UInt8) : Rz := ⟨(nX true 2147483647 l : Nat), nX (a1 l) 1 (nR l) == 1, tX (a2 l) (nR (nR l)), tX (a3 l) (tS (nR (nR l))), nX (a4 l) 18446744073709551615 (tS (tS (nR (nR l))))⟩
def decO (l : List UInt8) : Bool := a5 l && decide ((l5 l).length = 0) && okR (decR l)

theorem nA_num {x m : Nat} {r : List UInt8} (h : x < 18446744073709551616) (hm : x ≤ m) : nA true m (Lib.uvarint x ++ r) = true ∧ nX true m (Lib.uvarint x ++ r) = x ∧ nR (Lib.uvarint x ++ r) = r := by
  obtain ⟨h1, h2, h3⟩ := okN_num (x := x) (r := r) h
  have ha : nA true m (Lib.uvarint x ++ r) = true := by
    unfold nA
    rw [h1, h2]
    simpa using hm
  refine ⟨ha, ?_, h3⟩
  unfold nX
  rw [ha, if_pos rfl, h2]
theorem tA_txt {s r : List UInt8} (h : s.length ≤ 1048576) : tA true (txt s ++ r) = true ∧ tX true (txt s ++ r) = s ∧ tS (txt s ++ r) = r := by
  obtain ⟨h1, h2, h3⟩ := okT_txt (m := 1048576) (s := s) (r := r) h (by omega)
  have ha : tA true (txt s ++ r) = true := by
    unfold tA
    rw [h1]
    rfl
  refine ⟨ha, ?_, h3⟩
  unfold tX
  rw [ha, if_pos rfl, h2]
theorem dec_lay {r : Rz} (h : okR r = true) (x : List UInt8) : a5 (layR r ++ x) = true ∧ l5 (layR r ++ x) = x ∧ decR (layR r ++ x) = r := by
  obtain ⟨h1, h2, h3, h4, h5⟩ := okR_iff.1 h
  obtain ⟨e, f, ro, va, ve⟩ := r
  simp only at h1 h2 h3 h4 h5
  have he : layR ⟨e, f, ro, va, ve⟩ ++ x = Lib.uvarint e.toNat ++ (Lib.uvarint (bolN f) ++ (txt ro ++ (txt va ++ (Lib.uvarint ve ++ x)))) := by
    unfold layR
    rw [bol_uv]
    simp [List.append_assoc]
  have hb : bolN f ≤ 1 := by cases f <;> decide
  obtain ⟨p1, p2, p3⟩ := nA_num (x := e.toNat) (m := 2147483647) (r := Lib.uvarint (bolN f) ++ (txt ro ++ (txt va ++ (Lib.uvarint ve ++ x)))) (by omega) (by omega)
  obtain ⟨q1, q2, q3⟩ := nA_num (x := bolN f) (m := 1) (r := txt ro ++ (txt va ++ (Lib.uvarint ve ++ x))) (by omega) hb
  obtain ⟨s1, s2, s3⟩ := tA_txt (s := ro) (r := txt va ++ (Lib.uvarint ve ++ x)) (by omega)
  obtain ⟨t1, t2, t3⟩ := tA_txt (s := va) (r := Lib.uvarint ve ++ x) (by omega)
  obtain ⟨u1, u2, u3⟩ := nA_num (x := ve) (m := 18446744073709551615) (r := x) (by omega) (by omega)
  rw [he]
  refine ⟨?_, ?_, ?_⟩
  · unfold a5 a4 a3 a2 a1
    rw [p1, p3, q1, q3, s1, s3, t1, t3, u1]
  · unfold l5
    rw [p3, q3, s3, t3, u3]
  · unfold decR a4 a3 a2 a1
    rw [p1, p2, p3, q1, q2, q3, s1, s2, s3, t1, t2, t3, u2]
    congr 1
    · omega
    · cases f <;> rfl
theorem decO_lay {r : Rz} (h : okR r = true) (x : List UInt8) : decO (layR r ++ x) = decide (x.length = 0) := by
  obtain ⟨h1, h2, h3⟩ := dec_lay h x
  unfold decO
  rw [h1, h2, h3, h]
  simp
theorem nA_back {a : Bool} {m : Nat} {l : List UInt8} (h : nA a m l = true) : a = true ∧ l = Lib.uvarint (nX a m l) ++ nR l ∧ nX a m l ≤ m := by
  have h9 := h
  simp only [nA, Bool.and_eq_true, decide_eq_true_eq] at h
  refine ⟨h.1.1, ?_, nX_le a m l⟩
  unfold nX
  rw [h9, if_pos rfl]
  exact (okN_back h.1.2).1
theorem tA_back {a : Bool} {l : List UInt8} (h : tA a l = true) : a = true ∧ l = txt (tX a l) ++ tS l := by
  have h9 := h
  simp only [tA, Bool.and_eq_true] at h
  refine ⟨h.1, ?_⟩
  unfold tX
  rw [h9, if_pos rfl]
  exact (okT_back h.2).1
theorem bol_num {k : Nat} (h : k ≤ 1) : bol (k == 1) = Lib.uvarint k := by
  rw [bol_uv]
  congr 1
  match k, h with
  | 0, _ => rfl
  | 1, _ => rfl
theorem dec_back {l : List UInt8} (h : decO l = true) : l = layR (decR l) ∧ okR (decR l) = true := by
  simp only [decO, Bool.and_eq_true, decide_eq_true_eq] at h
  obtain ⟨⟨h5, hl⟩, hk⟩ := h
  obtain ⟨h4, e5, _⟩ := nA_back h5
  obtain ⟨h3, e4⟩ := tA_back h4
  obtain ⟨h2, e3⟩ := tA_back h3
  obtain ⟨h1, e2, b2⟩ := nA_back h2
  obtain ⟨_, e1, _⟩ := nA_back h1
  refine ⟨?_, hk⟩
  have hnil : l5 l = [] := List.eq_nil_of_length_eq_zero hl
  unfold layR decR
  simp only [Int.toNat_natCast]
  rw [bol_num b2]
  unfold l5 at hnil
  rw [hnil, List.append_nil] at e5
  rw [← e5, List.append_assoc, List.append_assoc, List.append_assoc, ← e4, ← e3, ← e2]
  exact e1
/-- Bytes that are cut, or have something behind them, are none. -/
theorem decO_more {r : Rz} (h : okR r = true) (b : UInt8) : decO (layR r ++ [b]) = false := by
  rw [decO_lay h]
  rfl
theorem decO_cut {r : Rz} (h : okR r = true) : decO (layR r).dropLast = false := by
  cases hd : decO (layR r).dropLast with
  | false => rfl
  | true =>
    obtain ⟨h1, h2⟩ := dec_back hd
    have hne : layR r ≠ [] := by
      intro e
      have := (layR_len h).2
      rw [e] at this
      simp at this
    have h3 := List.dropLast_concat_getLast hne
    have h4 := decO_lay h []
    rw [List.append_nil, ← h3, h1, decO_more h2] at h4
    exact absurd h4 (by decide)

end Go.Proofs.YtbdbefgfejdbjaaGreat

namespace Go.Proofs.YtbdbefgfejdbjaaGreat
open Go.RowKit

/-- Bytes lie in a block from a place on. -/
def BRow (w : World) (b off : Nat) (l : List UInt8) : Prop := ∀ i (h : i < l.length), w.cell? ⟨b, off + i, none⟩ = some (.int .u8 (l[i].toNat : Int))
theorem BRow.lt {w : World} {b off : Nat} {l : List UInt8} (h : BRow w b off l) (h0 : 0 < l.length) : b < w.heap.size := World.block_lt_of_cell? w _ (h 0 h0)
theorem BRow.block {w w' : World} {b off : Nat} {l : List UInt8} (h : BRow w b off l) (hb : w'.heap[b]? = w.heap[b]?) : BRow w' b off l := fun i hi => (World.cell?_of_block (a := ⟨b, off + i, none⟩) hb).trans (h i hi)
/-- A slice of bytes, as an argument. -/
def BArg (w : World) (q : Option Addr) (l : List UInt8) : Prop := 0 < l.length → ∃ b off, q = some ⟨b, off, none⟩ ∧ BRow w b off l

end Go.Proofs.YtbdbefgfejdbjaaGreat
