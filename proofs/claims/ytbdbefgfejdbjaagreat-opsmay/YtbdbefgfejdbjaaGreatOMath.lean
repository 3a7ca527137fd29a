/-
  Records as rows of literals: laid and taken by their kinds, there and back.
-/
import Derived.Test.YtbdbefgfejdbjaaGreatGJBr
import Derived.DeepKeys2
namespace Go.Proofs.YtbdbefgfejdbjaaGreat
open Go.RowKit Go.BigFrame

/-- Kinds of fields: a whole number, a count, a bool, a text, a number that may be below 0. -/
inductive Fk where
  | I | U | B | S | G
def zig (n : Int) : Nat := if n < 0 then (-n).toNat + (-n).toNat - 1 else n.toNat + n.toNat
def zag (n : Nat) : Int := if n % 2 = 1 then -((n / 2 : Nat) : Int) - 1 else ((n / 2 : Nat) : Int)
theorem zag_zig (n : Int) : zag (zig n) = n := by
  unfold zag zig
  split <;> split <;> omega
theorem zig_zag (n : Nat) : zig (zag n) = n := by
  unfold zag zig
  split <;> split <;> omega
/-- A field's bytes. -/
def layK : Fk → Lit → List UInt8
  | .I, .int _ n => Lib.uvarint n.toNat
  | .U, .int _ n => Lib.uvarint n.toNat
  | .B, .bool b => bol b
  | .S, .string s => txt s
  | .G, .int _ n => Lib.uvarint (zig n)
  | _, _ => []
/-- Where a taker stands: whether all was there, what is left. -/
structure Ps where
  a : Bool
  l : List UInt8
/-- What is taken, and where the taker stands then. -/
def takV : Fk → Ps → Lit
  | .I, s => .int .i64 (nX s.a 2147483647 s.l : Nat)
  | .U, s => .int .u64 (nX s.a 18446744073709551615 s.l : Nat)
  | .B, s => .bool (nX s.a 1 s.l == 1)
  | .S, s => .string (tX s.a s.l)
  | .G, s => .int .i64 (zag (nX s.a 2147483647 s.l))
def takS : Fk → Ps → Ps
  | .I, s => ⟨nA s.a 2147483647 s.l, nR s.l⟩
  | .U, s => ⟨nA s.a 18446744073709551615 s.l, nR s.l⟩
  | .B, s => ⟨nA s.a 1 s.l, nR s.l⟩
  | .S, s => ⟨tA s.a s.l, tS s.l⟩
  | .G, s => ⟨nA s.a 2147483647 s.l, nR s.l⟩
/-- A field that may be laid and taken. -/
def fitK : Fk → Lit → Prop
  | .I, .int .i64 n => 0 ≤ n ∧ n ≤ 2147483647
  | .U, .int .u64 n => 0 ≤ n ∧ n ≤ 18446744073709551615
  | .B, .bool _ => True
  | .S, .string s => s.length ≤ 1048576
  | .G, .int .i64 n => zig n ≤ 2147483647
  | _, _ => False
theorem take_lay {k : Fk} {v : Lit} (h : fitK k v) (r : List UInt8) : takV k ⟨true, layK k v ++ r⟩ = v ∧ takS k ⟨true, layK k v ++ r⟩ = ⟨true, r⟩ := by
  unfold fitK at h
  split at h
  · rename_i n
    obtain ⟨p1, p2, p3⟩ := nA_num (x := n.toNat) (m := 2147483647) (r := r) (by omega) (by omega)
    simp only [layK, takV, takS]
    rw [p1, p2, p3]
    exact ⟨by congr 1; omega, rfl⟩
  · rename_i n
    obtain ⟨p1, p2, p3⟩ := nA_num (x := n.toNat) (m := 18446744073709551615) (r := r) (by omega) (by omega)
    simp only [layK, takV, takS]
    rw [p1, p2, p3]
    exact ⟨by congr 1; omega, rfl⟩
  · rename_i b
    obtain ⟨p1, p2, p3⟩ := nA_num (x := bolN b) (m := 1) (r := r) (by cases b <;> decide) (by cases b <;> decide)
    simp only [layK, takV, takS]
    rw [bol_uv, p1, p2, p3]
    exact ⟨by cases b <;> rfl, rfl⟩
  · rename_i s
    obtain ⟨p1, p2, p3⟩ := tA_txt (s := s) (r := r) (by omega)
    simp only [layK, takV, takS]
    rw [p1, p2, p3]
    exact ⟨rfl, rfl⟩
  · rename_i n
    obtain ⟨p1, p2, p3⟩ := nA_num (x := zig n) (m := 2147483647) (r := r) (by omega) (by omega)
    simp only [layK, takV, takS]
    rw [p1, p2, p3, zag_zig]
    exact ⟨rfl, rfl⟩
  · exact h.elim
theorem take_back {k : Fk} {s : Ps} (h : (takS k s).a = true) : s.a = true ∧ s.l = layK k (takV k s) ++ (takS k s).l ∧ fitK k (takV k s) := by
  obtain ⟨a, l⟩ := s
  cases k
  case I =>
    obtain ⟨h1, h2, h3⟩ := nA_back (show nA a 2147483647 l = true from h)
    refine ⟨h1, ?_, ?_⟩
    · simp only [layK, takV, takS, Int.toNat_natCast]; exact h2
    · simp only [takV, fitK]; omega
  case U =>
    obtain ⟨h1, h2, h3⟩ := nA_back (show nA a 18446744073709551615 l = true from h)
    refine ⟨h1, ?_, ?_⟩
    · simp only [layK, takV, takS, Int.toNat_natCast]; exact h2
    · simp only [takV, fitK]; omega
  case B =>
    obtain ⟨h1, h2, h3⟩ := nA_back (show nA a 1 l = true from h)
    refine ⟨h1, ?_, trivial⟩
    simp only [layK, takV, takS]
    rw [bol_num h3]
    exact h2
  case S =>
    obtain ⟨h1, h2⟩ := tA_back (show tA a l = true from h)
    refine ⟨h1, ?_, ?_⟩
    · simp only [layK, takV, takS]; exact h2
    · simp only [takV, fitK]
      have h9 := h
      simp only [takS, tA, Bool.and_eq_true] at h9
      unfold tX tA
      rw [h9.1, h9.2]
      exact (okT_back h9.2).2
  case G =>
    obtain ⟨h1, h2, h3⟩ := nA_back (show nA a 2147483647 l = true from h)
    refine ⟨h1, ?_, ?_⟩
    · simp only [layK, takV, takS]; rw [zig_zag]; exact h2
    · simp only [takV, fitK]; rw [zig_zag]; exact h3
theorem takS_len (k : Fk) (s : Ps) : (takS k s).l.length ≤ s.l.length := by
  have hn : (nR s.l).length ≤ s.l.length := by
    unfold nR
    split
    · rw [List.length_drop]; omega
    · exact Nat.le_refl _
  have ht : (tS s.l).length ≤ s.l.length := by
    unfold tS tR
    split
    · rw [List.length_drop]; omega
    · exact Nat.le_refl _
  cases k <;> simp only [takS] <;> assumption

/-! ### rows of fields -/
def layKs : List Fk → List Lit → List UInt8
  | [], _ => []
  | k :: ks, v :: vs => layK k v ++ layKs ks vs
  | _ :: _, [] => []
def takVs : List Fk → Ps → List Lit
  | [], _ => []
  | k :: ks, s => takV k s :: takVs ks (takS k s)
def takSs : List Fk → Ps → Ps
  | [], s => s
  | k :: ks, s => takSs ks (takS k s)
def fitKs : List Fk → List Lit → Prop
  | [], [] => True
  | k :: ks, v :: vs => fitK k v ∧ fitKs ks vs
  | _, _ => False
theorem takes_lay : ∀ {ks : List Fk} {vs : List Lit} (r : List UInt8), fitKs ks vs → takVs ks ⟨true, layKs ks vs ++ r⟩ = vs ∧ takSs ks ⟨true, layKs ks vs ++ r⟩ = ⟨true, r⟩
  | [], [], r, _ => ⟨rfl, rfl⟩
  | k :: ks, v :: vs, r, h => by
    obtain ⟨h1, h2⟩ := take_lay h.1 (layKs ks vs ++ r)
    obtain ⟨h3, h4⟩ := takes_lay r h.2
    simp only [layKs, takVs, takSs, List.append_assoc]
    rw [h1, h2, h3, h4]
    exact ⟨rfl, rfl⟩
  | [], _ :: _, _, h => h.elim
  | _ :: _, [], _, h => h.elim
theorem takes_back : ∀ {ks : List Fk} {s : Ps}, (takSs ks s).a = true → s.a = true ∧ s.l = layKs ks (takVs ks s) ++ (takSs ks s).l ∧ fitKs ks (takVs ks s)
  | [], s, h => ⟨h, rfl, trivial⟩
  | k :: ks, s, h => by
    obtain ⟨h1, h2, h3⟩ := takes_back (ks := ks) (s := takS k s) h
    obtain ⟨h4, h5, h6⟩ := take_back h1
    refine ⟨h4, ?_, h6, h3⟩
    simp only [layKs, takVs, takSs, List.append_assoc]
    rw [← h2]
    exact h5
theorem takSs_len : ∀ (ks : List Fk) (s : Ps), (takSs ks s).l.length ≤ s.l.length
  | [], _ => Nat.le_refl _
  | k :: ks, s => Nat.le_trans (takSs_len ks _) (takS_len k s)
theorem takSs_append : ∀ (a b : List Fk) (s : Ps), takSs (a ++ b) s = takSs b (takSs a s)
  | [], _, _ => rfl
  | _ :: a, b, _ => takSs_append a b _
theorem takVs_append : ∀ (a b : List Fk) (s : Ps), takVs (a ++ b) s = takVs a s ++ takVs b (takSs a s)
  | [], _, _ => rfl
  | k :: a, b, s => by
    simp only [List.cons_append, takVs, takSs]
    rw [takVs_append a b]
theorem takVs_length : ∀ (ks : List Fk) (s : Ps), (takVs ks s).length = ks.length
  | [], _ => rfl
  | k :: ks, s => by simp [takVs, takVs_length ks]
theorem layKs_append : ∀ (a b : List Fk) (x y : List Lit), x.length = a.length → layKs (a ++ b) (x ++ y) = layKs a x ++ layKs b y
  | [], b, [], y, _ => rfl
  | k :: a, b, v :: x, y, h => by
    simp only [List.cons_append, layKs, List.append_assoc]
    rw [layKs_append a b x y (by simpa using h)]
  | [], _, _ :: _, _, h => by simp at h
  | _ :: _, _, [], _, h => by simp at h

/-! ### kinds of records -/
abbrev opK : List Fk := [.I, .S, .S, .S, .B, .S]
abbrev wantK : List Fk := [.B, .I, .S, .I, .I]
abbrev resK : List Fk := [.I, .B, .S, .S, .U]
abbrev cmdK : List Fk := [.I, .I, .U, .U, .I, .S, .S, .S, .B, .S, .U, .I, .S, .S, .I, .B, .I, .S, .I, .I]
abbrev reqK : List Fk := [.I, .U, .I, .U, .I, .S, .S, .S, .B, .S]
abbrev repK : List Fk := [.I, .U, .I, .B, .S, .S, .U, .G]
abbrev askK : List Fk := [.I, .I, .I, .U, .U, .I, .S, .S, .S, .B, .S, .U, .I, .S, .S, .I, .B, .I, .S, .I, .I, .G, .G]
abbrev toldK : List Fk := [.I, .U, .I, .I, .G]
/-- Whole numbers, how many first. -/
def layMem (l : List Int) : List UInt8 := Lib.uvarint l.length ++ layKs (List.replicate l.length .I) (l.map (Lit.int .i64))
def memN (s : Ps) : Nat := nX s.a 5 s.l
def memS0 (s : Ps) : Ps := ⟨nA s.a 5 s.l, nR s.l⟩
def memV (s : Ps) : List Lit := takVs (List.replicate (memN s) .I) (memS0 s)
def memS (s : Ps) : Ps := takSs (List.replicate (memN s) .I) (memS0 s)
abbrev entK : List Fk := [.U, .U, .I, .I, .I, .U, .U, .I, .S, .S, .S, .B, .S, .U, .I, .S, .S, .I, .B, .I, .S, .I, .I]
abbrev baseK : List Fk := [.U, .U]
abbrev msgK : List Fk := [.I, .I, .U, .U, .U, .U, .B]
/-- A message's fields behind its base. -/
abbrev tailK : List Fk := [.S, .I, .U, .I, .U, .I, .S, .S, .S, .B, .S, .I, .U, .I, .B, .S, .S, .U, .G, .I, .I, .I, .U, .U, .I, .S, .S, .S, .B, .S, .U, .I, .S, .S, .I, .B, .I, .S, .I, .I, .G, .G, .I, .U, .I, .I, .G]

end Go.Proofs.YtbdbefgfejdbjaaGreat
