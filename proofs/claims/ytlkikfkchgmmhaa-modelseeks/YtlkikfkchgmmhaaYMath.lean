/-
  A model's operations, results, looks at a place, as lists.
-/
import Derived.Test.YtlkikfkchgmmhaaMMem
namespace Go.Proofs.Ytlkikfkchgmmhaa
open Go.RowKit Go.BigFrame Go.Sort

/-- An operation. -/
structure Oq where
  kind : Int
  row : List UInt8
  col : List UInt8
  val : List UInt8
  has : Bool
  exp : List UInt8
  deriving DecidableEq
abbrev oqV (o : Oq) : Value := .agg #[.int .i64 o.kind, .string (bstr o.row), .string (bstr o.col), .string (bstr o.val), .bool o.has, .string (bstr o.exp)]
def oqC (o : Oq) : Array Value := #[.int .i64 o.kind, .string (bstr o.row), .string (bstr o.col), .string (bstr o.val), .bool o.has, .string (bstr o.exp)]
/-- A result. -/
structure Rz where
  err : Int
  found : Bool
  row : List UInt8
  val : List UInt8
  ver : Int
abbrev rzV (r : Rz) : Value := .agg #[.int .i64 r.err, .bool r.found, .string (bstr r.row), .string (bstr r.val), .int .u64 r.ver]
def rzC (r : Rz) : Array Value := #[.int .i64 r.err, .bool r.found, .string (bstr r.row), .string (bstr r.val), .int .u64 r.ver]
abbrev rz0 : Rz := ⟨0, false, [], [], 0⟩
/-- A look at a place: the newest that was seen of it. -/
structure Lk where
  row : List UInt8
  col : List UInt8
  new : Cl
  seen : Bool
def lkC (l : Lk) : Array Value := #[.string (bstr l.row), .string (bstr l.col), .string (bstr l.new.row), .string (bstr l.new.col), .int .u64 l.new.ver, .bool l.new.gone, .string (bstr l.new.val), .bool l.seen]
/-- It lies there. -/
def LkB (w : World) (b : Nat) (l : Lk) : Prop := w.heap[b]? = some (.cells (lkC l) 72 (0, 0))
theorem LkB.below {w w' : World} {b : Nat} {l : Lk} {B : Nat} (h : LkB w b l) (hb : Below B w w') (hB : b < B) : LkB w' b l := (hb.block b hB).trans h
theorem LkB.kept {w w' : World} {b : Nat} {l : Lk} {S : Nat → Prop} (h : LkB w b l) (hk : Kp w w' S) (hS : ¬ S b) : LkB w' b l := (hk.block b (blk_lt h) hS).trans h

def seeL (l : Lk) (c : Cl) : Lk := if c.row = l.row ∧ c.col = l.col ∧ (l.seen = false ∨ l.new.ver < c.ver) then ⟨l.row, l.col, c, true⟩ else l
def thereL (l : Lk) : Bool := l.seen && !l.new.gone
def tellL (l : Lk) : Rz := if thereL l then ⟨0, true, [], l.new.val, l.new.ver⟩ else rz0
def asL (l : Lk) (o : Oq) : Bool := if thereL l then o.has && decide (l.new.val = o.exp) else !o.has
def chgR (o : Oq) (n : Int) : Rz := if 1099511627776 ≤ n then ⟨3, false, [], [], 0⟩ else ⟨0, !(o.kind == 1), [], [], n + 1⟩
def chgC (l : Lk) (o : Oq) (n : Int) : List Cl := if 1099511627776 ≤ n then [] else [⟨l.row, [], n + 1, false, []⟩, ⟨l.row, l.col, n + 1, o.kind == 3, o.val⟩]

/-- Of an operation what its kind may have. -/
def mayQ (o : Oq) : Oq :=
  if o.kind = 2 ∨ o.kind = 3 ∨ o.kind = 5 then ⟨o.kind, o.row, o.col, [], false, []⟩
  else if o.kind = 1 then ⟨o.kind, o.row, o.col, o.val, false, []⟩
  else ⟨o.kind, o.row, o.col, o.val, o.has, if o.has then o.exp else []⟩
/-- May it be? -/
def mayO (o : Oq) : Bool :=
  decide (1 ≤ o.kind ∧ o.kind ≤ 5 ∧ o = mayQ o ∧ (if o.kind = 5 then o.row.length ≤ 32 else 1 ≤ o.row.length ∧ o.row.length ≤ 24) ∧ 1 ≤ o.col.length ∧ o.col.length ≤ 16 ∧ o.val.length ≤ 256 ∧ o.exp.length ≤ 256)

end Go.Proofs.Ytlkikfkchgmmhaa
