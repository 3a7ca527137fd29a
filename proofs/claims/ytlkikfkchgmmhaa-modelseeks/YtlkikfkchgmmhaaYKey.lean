/-
  Places as keys of a map.
-/
import Derived.Test.YtlkikfkchgmmhaaYEff
import Derived.DeepKeys5
import Derived.Maps.OwnSet
namespace Go.Proofs.Ytlkikfkchgmmhaa
open Go.RowKit
open Go.Maps (Keyed)

theorem keyP : Keyed Try.prog 60 := Keyed.of_law (deep_law_gate (by kernel_rfl) (by decide +kernel) (by decide +kernel) (by kernel_rfl) (by rw [Try.underlying60]))
def klP (r c : List UInt8) : Lit := .string (keyBytes [.string r, .string c])
theorem keyLits_two {P : Program} {k s : TypeId} {f g : Field} (hk : P.underlying k = some (.struct #[f, g])) (hs : P.underlying s = some .string) (hf : f.type = s) (hg : g.type = s) (of : f.offset = 0) (og : g.offset = 1) (nf : f.name ≠ "_") (ng : g.name ≠ "_") (ck : P.cellsOf k = 2) (cs : P.cellsOf s = 1) (d : Nat) {a b : ByteArray} (ha : a.size ≤ maxLen) (hb : b.size ≤ maxLen) :
    P.keyLits (d + 2) k [.string a, .string b] = some [.string a.data.toList, .string b.data.toList] := by
  have h1 : ∀ x : ByteArray, x.size ≤ maxLen → P.keyLits (d + 1) s [.string x] = some [.string x.data.toList] := fun x hx => by
    unfold Program.keyLits
    rw [hs]
    exact if_pos hx
  unfold Program.keyLits
  rw [hk]
  simp [ck, cs, hf, hg, of, og, nf, ng, h1 a ha, h1 b hb]
theorem key_two {P : Program} {k s : TypeId} {f g : Field} (hk : P.underlying k = some (.struct #[f, g])) (hs : P.underlying s = some .string) (hf : f.type = s) (hg : g.type = s) (of : f.offset = 0) (og : g.offset = 1) (nf : f.name ≠ "_") (ng : g.name ≠ "_") (ck : P.cellsOf k = 2) (cs : P.cellsOf s = 1) (hlt : 0 < P.types.size) (ht : P.keyType k = true) {a b : ByteArray} (ha : a.size ≤ maxLen) (hb : b.size ≤ maxLen) :
    keyOf P k (.agg #[.string a, .string b]) = some (.string (keyBytes [.string a.data.toList, .string b.data.toList])) := by
  obtain ⟨d, hd⟩ : ∃ d, P.types.size + 1 = d + 2 := ⟨P.types.size - 1, by omega⟩
  have h := keyLits_two hk hs hf hg of og nf ng ck cs d ha hb
  unfold keyOf
  rw [hk]
  simp only [ht, Value.formed, hk, ck, hd]
  show (if _ then Option.map _ (P.keyLits (d + 2) k [.string a, .string b]) else none) = _
  rw [h]
  rfl
theorem key_place {r c : List UInt8} (h1 : r.length ≤ 140737488351232) (h2 : c.length ≤ 140737488351232) : keyOf Try.prog 60 (.agg #[.string (bstr r), .string (bstr c)]) = some (klP r c) := by
  have hm : (140737488351232 : Nat) ≤ maxLen := by decide
  have h := key_two (P := Try.prog) Try.underlying60 Try.underlying9 rfl rfl rfl rfl (by decide) (by decide) (by kernel_rfl) (by kernel_rfl) (by decide +kernel) (by kernel_rfl) (a := bstr r) (b := bstr c) (by rw [size_bstr]; omega) (by rw [size_bstr]; omega)
  rw [data_bstr, data_bstr] at h
  exact h
theorem klP_inj {r c r' c' : List UInt8} (h1 : r.length ≤ 140737488351232) (h2 : c.length ≤ 140737488351232) (h1' : r'.length ≤ 140737488351232) (h2' : c'.length ≤ 140737488351232) (h : klP r c = klP r' c') : r = r' ∧ c = c' := by
  have a := key_place h1 h2
  have b := key_place h1' h2'
  rw [← h] at b
  have e := keyP.inj a b
  injection e with e
  have e1 := congrArg (fun x : Array Value => x[0]?) e
  have e2 := congrArg (fun x : Array Value => x[1]?) e
  simp at e1 e2
  have f1 := congrArg (fun x : ByteArray => x.data.toList) e1
  have f2 := congrArg (fun x : ByteArray => x.data.toList) e2
  simp only [data_bstr] at f1 f2
  exact ⟨f1, f2⟩

/-- How a cell reads, as a map's element. -/
def celElem (v : Value) : Option (DataW Value × List MemPlace) := some (.held v, [])
theorem cel_inv {v u : Value} {ps : List MemPlace} (h : celElem v = some (.held u, ps)) : v = u := by
  unfold celElem at h
  cases h
  rfl
/-- The cell at a place. -/
def clO (x : Option Cl) : Value := clV (x.getD zC)
abbrev Mf := List UInt8 → List UInt8 → Option Cl
abbrev bigL : Nat := 140737488351232
/-- The map's entries are the places' cells. -/
def Mpp (D : DataW Value) (F : Mf) : Prop := (∀ r c : List UInt8, r.length ≤ bigL → c.length ≤ bigL → D.atKey (klP r c) (.held (clV zC)) = .held (clO (F r c)) ∧ Maps.has D (klP r c) = (F r c).isSome) ∧ ∀ kl, Maps.has D kl = true → ∃ r c : List UInt8, r.length ≤ bigL ∧ c.length ≤ bigL ∧ kl = klP r c
def putF (F : Mf) (x : Cl) : Mf := fun r c => if r = x.row ∧ c = x.col then some x else F r c
theorem isKeyP (r c : List UInt8) : WideAt.IsKeyLit (klP r c) := by trivial
theorem Mpp.put {D : DataW Value} {F : Mf} (h : Mpp D F) (hD : Maps.IsMap D) (x : Cl) (h1 : x.row.length ≤ bigL) (h2 : x.col.length ≤ bigL) : Mpp (D.put (klP x.row x.col) (.held (clV x))) (putF F x) := by
  have h9 : ∀ kl, Maps.has (D.put (klP x.row x.col) (.held (clV x))) kl = true → ∃ r c : List UInt8, r.length ≤ bigL ∧ c.length ≤ bigL ∧ kl = klP r c := by
    intro kl hk
    by_cases e : kl = klP x.row x.col
    · exact ⟨x.row, x.col, h1, h2, e⟩
    · rw [Maps.has_put_other e] at hk
      exact h.2 kl hk
  refine ⟨fun r c hr hc => ?_, h9⟩
  unfold putF
  by_cases e : r = x.row ∧ c = x.col
  · obtain ⟨rfl, rfl⟩ := e
    rw [if_pos ⟨rfl, rfl⟩, Maps.atKey_put_same hD (isKeyP _ _), Maps.has_put_same hD (isKeyP _ _)]
    exact ⟨rfl, rfl⟩
  · have hne : klP r c ≠ klP x.row x.col := fun h => e (klP_inj hr hc h1 h2 h)
    rw [if_neg e, Maps.atKey_put_other hne, Maps.has_put_other hne]
    exact h.1 r c hr hc
/-- A model lies there. -/
structure Md (w : World) (g m n : Nat) (F : Mf) : Prop where
  bx : w.heap[g]? = some (.cells #[.map (some m)] 58 (0, 0))
  mp : ∃ D, w.ownsMap Try.prog 60 celElem m n D ∧ Mpp D F
theorem Md.lt {w : World} {g m n : Nat} {F : Mf} (h : Md w g m n F) : g < w.heap.size ∧ m < w.heap.size := by
  obtain ⟨D, h1, _⟩ := h.mp
  exact ⟨blk_lt h.bx, h1.lt⟩
theorem Md.kept {w w' : World} {g m n : Nat} {F : Mf} (h : Md w g m n F) (h1 : w'.heap[g]? = w.heap[g]?) (h2 : w'.heap[m]? = w.heap[m]?) : Md w' g m n F := by
  obtain ⟨D, ⟨es, clock, hb, r⟩, h4⟩ := h.mp
  exact ⟨h1.trans h.bx, D, ⟨es, clock, h2.trans hb, r⟩, h4⟩
theorem Md.below {w w' : World} {g m n : Nat} {F : Mf} {B : Nat} (h : Md w g m n F) (hb : Below B w w') (h1 : g < B) (h2 : m < B) : Md w' g m n F := h.kept (hb.block g h1) (hb.block m h2)
theorem Md.mono {w : World} {g m n n' : Nat} {F : Mf} (h : Md w g m n F) (hn : n ≤ n') : Md w g m n' F := by
  obtain ⟨D, h1, h2⟩ := h.mp
  exact ⟨h.bx, D, h1.mono hn, h2⟩

end Go.Proofs.Ytlkikfkchgmmhaa
