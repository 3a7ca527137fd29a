/-
  Rows of bytes in memory; dice in memory; the contracts of dice.New, none, width, Left, Copy.
  A disk in memory: the block with what is free and the map, the map of pointers to files, the files, the rows of their bytes.
  The contracts of disk.none, find, isName, Free, Synced, Read, Sync, New.
-/
import Derived.Test.YtnfnlfdplnekgaaDoorAid
import Derived.Test.YtnfnlfdplnekgaaDoorGVWir
import Derived.WalkMore
import Derived.ScopeJumps
import Derived.Laws.AppendOwn
import Derived.Laws.AppendOwnNone
import Derived.Laws.EntriesVeiled
import Derived.Test.YtnfnlfdplnekgaaDoorDsXMath
import Derived.Maps.RangeWalk
import Derived.Sort.OwnSorted
import Derived.StringKeys
import Derived.Lib.AppendStr
namespace Go.Proofs.YtnfnlfdplnekgaaDoor.Ds
open Go.RowKit

/-- Bytes lie in a block from a place on. -/
def BRow (w : World) (b off : Nat) (l : List UInt8) : Prop := ∀ i (h : i < l.length), w.cell? ⟨b, off + i, none⟩ = some (.int .u8 (l[i].toNat : Int))
theorem BRow.lt {w : World} {b off : Nat} {l : List UInt8} (h : BRow w b off l) (h0 : 0 < l.length) : b < w.heap.size := World.block_lt_of_cell? w _ (h 0 h0)
theorem BRow.block {w w' : World} {b off : Nat} {l : List UInt8} (h : BRow w b off l) (hb : w'.heap[b]? = w.heap[b]?) : BRow w' b off l := fun i hi => (World.cell?_of_block (a := ⟨b, off + i, none⟩) hb).trans (h i hi)
theorem BRow.drop {w : World} {b off : Nat} {l : List UInt8} (h : BRow w b off l) (k : Nat) : BRow w b (off + k) (l.drop k) := by
  intro i hi
  rw [List.length_drop] at hi
  rw [List.getElem_drop, Nat.add_assoc]
  exact h (k + i) (by omega)
theorem BRow.take {w : World} {b off : Nat} {l : List UInt8} (h : BRow w b off l) (k : Nat) : BRow w b off (l.take k) := by
  intro i hi
  rw [List.length_take] at hi
  rw [List.getElem_take]
  exact h i (by omega)
/-- A slice of bytes, as an argument. -/
def BArg (w : World) (q : Option Addr) (l : List UInt8) : Prop := 0 < l.length → ∃ b off, q = some ⟨b, off, none⟩ ∧ BRow w b off l
theorem BArg.below {w w' : World} {q : Option Addr} {l : List UInt8} (h : BArg w q l) (hb : Below w.heap.size w w') : BArg w' q l := fun h0 => by
  obtain ⟨b, off, hq, hR⟩ := h h0
  exact ⟨b, off, hq, hR.block (hb.block b (hR.lt h0))⟩
theorem BArg.take {w : World} {q : Option Addr} {l : List UInt8} (h : BArg w q l) (k : Nat) : BArg w q (l.take k) := fun h0 => by
  have h1 : 0 < l.length := by rw [List.length_take] at h0; omega
  obtain ⟨b, off, hq, hR⟩ := h h1
  exact ⟨b, off, hq, hR.take k⟩
theorem BArg.nil (w : World) (q : Option Addr) : BArg w q [] := fun h0 => absurd h0 (by simp)
/-- What a call owns, as an argument. -/
theorem own_barg {w : World} {B e : Nat} {v : Value} {n : Nat} {l : List UInt8} (h : w.ownsRow B e 1 v n (Lib.byteCells l)) :
    ∃ q cap, v = .slice q l.length cap ∧ n = l.length ∧ l.length ≤ cap ∧ cap ≤ maxLen ∧ (0 < l.length → ∃ b, q = some ⟨b, 0, none⟩ ∧ B ≤ b ∧ BRow w b 0 l) ∧ (q = none → l = []) := by
  have hn : l.length = n := by have := h.1; rw [Lib.byteCells_length] at this; omega
  subst hn
  rcases h.2 with ⟨rfl, h0⟩ | ⟨g, cap, cur, rfl, hbg, hg, hnc, hcm, hcs, htake⟩
  · refine ⟨none, 0, by rw [h0], rfl, by omega, by decide, fun h1 => by omega, fun _ => List.eq_nil_of_length_eq_zero h0⟩
  · refine ⟨some ⟨g, 0, none⟩, cap, rfl, rfl, hnc, hcm, fun h1 => ⟨g, rfl, hbg, ?_⟩, fun h => by cases h⟩
    intro i hi
    have := h.cells (g := g) rfl i (.int .u8 (l[i].toNat : Int)) (by simp [Lib.byteCells, hi])
    rw [Addr.add_lit] at this
    exact this
theorem BArg.of_own {w : World} {q : Option Addr} {l : List UInt8} {B : Nat} (h : 0 < l.length → ∃ b, q = some ⟨b, 0, none⟩ ∧ B ≤ b ∧ BRow w b 0 l) : BArg w q l := fun h0 => by
  obtain ⟨b, hq, _, hR⟩ := h h0
  exact ⟨b, 0, hq, hR⟩

theorem cells_block {w : World} {g : Nat} {cur : Array Value} {t : TypeId} (h : w.heap[g]? = some (.cells cur t (0, 0))) : (∀ o, w.cell? ⟨g, o, none⟩ = cur[o]?) ∧ ∀ o, w.frozen? ⟨g, o, none⟩ = false :=
  ⟨fun o => by simp [World.cell?, h], fun o => by simp [World.frozen?, h]⟩
theorem block_set {w : World} {g : Nat} {cur : Array Value} {t : TypeId} (h : w.heap[g]? = some (.cells cur t (0, 0))) (o : Nat) (v : Value) : (w.setCell ⟨g, o, none⟩ v).heap[g]? = some (.cells (cur.setIfInBounds o v) t (0, 0)) := by
  have hlt := lt_of_block h
  have h' : w.heap[g] = .cells cur t (0, 0) := by simpa [Array.getElem?_eq_getElem hlt] using h
  show (w.heap.modify g _)[g]? = _
  rw [Array.getElem?_eq_getElem (by simpa using hlt), Array.getElem_modify_self, h']
  rfl
theorem grown_setCell (w : World) (g o : Nat) (v : Value) : w.grownBy (w.setCell ⟨g, o, none⟩ v) (some g) :=
  ⟨rfl, rfl, rfl, by simp [World.setCell], fun k _ hk => Below.heap_setCell _ _ _ _ (fun e => hk (by rw [e]))⟩
theorem grown_trans {a b c : World} {g : Nat} (h : a.grownBy b (some g)) (k : b.grownBy c (some g)) : a.grownBy c (some g) :=
  ⟨k.os.trans h.os, k.tape.trans h.tape, k.output.trans h.output, Nat.le_trans h.size k.size, fun i hi hne => (k.block i (Nat.lt_of_lt_of_le hi h.size) hne).trans (h.block i hi hne)⟩
theorem grown_refl (w : World) (g : Nat) : w.grownBy w (some g) := ⟨rfl, rfl, rfl, Nat.le_refl _, fun _ _ _ => rfl⟩
theorem b_step {B : Nat} {w a b : World} (h : Below B w a) (k : Below a.heap.size a b) (hB : B ≤ w.heap.size) : Below B w b := h.trans (k.mono (Nat.le_trans hB h.size))
theorem b_grown {B : Nat} {w a b : World} {g : Nat} (h : Below B w a) (k : a.grownBy b (some g)) (hB : B ≤ w.heap.size) (hg : B ≤ g) : Below B w b :=
  h.grown k (Nat.le_trans hB h.size) (fun j hj => by cases hj; exact hg)

end Go.Proofs.YtnfnlfdplnekgaaDoor.Ds

namespace Go.Proofs.YtnfnlfdplnekgaaDoor.Ds
open Go.RowKit
open Go.Maps (Keyed)

/-- How a pointer to a file reads, as a map's element. -/
def ptrElem : Value → Option (DataW Unit × List MemPlace)
  | .pointer none => some (.nil, [])
  | .pointer (some ⟨g, 0, none⟩) => some (.lit (.int .i64 g), [])
  | _ => none
def pv : Option Fl → Value
  | none => .pointer none
  | some f => .pointer (some ⟨f.g, 0, none⟩)
def pd : Option Fl → DataW Unit
  | none => .nil
  | some f => .lit (.int .i64 f.g)
theorem ptr_pv (o : Option Fl) : ptrElem (pv o) = some (pd o, []) := by cases o <;> rfl
theorem ptr_at (g : Nat) : ptrElem (.pointer (some ⟨g, 0, none⟩)) = some (.lit (.int .i64 g), []) := rfl
theorem ptr_inv {v : Value} {y : DataW Unit × List MemPlace} (h : ptrElem v = some y) : (v = .pointer none ∧ y = (.nil, [])) ∨ ∃ g : Nat, v = .pointer (some ⟨g, 0, none⟩) ∧ y = (.lit (.int .i64 g), []) := by
  unfold ptrElem at h
  split at h
  · cases h; exact Or.inl ⟨rfl, rfl⟩
  · cases h; exact Or.inr ⟨_, rfl, rfl⟩
  · cases h
theorem pv_of {v : Value} {o : Option Fl} {ps : List MemPlace} (h : ptrElem v = some (pd o, ps)) : v = pv o := by
  rcases ptr_inv h with ⟨rfl, h2⟩ | ⟨g, rfl, h2⟩
  · cases o
    · rfl
    · simp [pd] at h2
  · cases o with
    | none => simp [pd] at h2
    | some f =>
      simp [pd] at h2
      have e : f.g = g := by omega
      simp only [pv, e]

theorem keyT : Keyed Tryd.prog 9 := Maps.string_keyed Tryd.underlying9
theorem key_mk {s : List UInt8} (h : s.length ≤ maxLen) : keyOf Tryd.prog 9 (.string (bstr s)) = some (.string s) := by
  have := Go.WideMaps.keyOf_string_mk (P := Tryd.prog) (k := 9) (s := bstr s) Tryd.underlying9 (by rw [size_bstr]; exact h)
  rw [data_bstr] at this
  exact this
theorem zeroF (w : World) : (zeroValue 56).run Tryd.prog w = .ok (.pointer none) w := by kernel_rfl

/-- The map's entries are the files'. -/
def Mp (D : DataW Unit) (L : List Fl) : Prop := (∀ s, D.atKey (.string s) .nil = pd (lk s L)) ∧ ∀ s, Maps.has D (.string s) = (lk s L).isSome
theorem isKey (s : List UInt8) : WideAt.IsKeyLit (.string s) := by trivial
theorem str_ne {s t : List UInt8} (h : s ≠ t) : Lit.string s ≠ Lit.string t := fun e => h (by cases e; rfl)
theorem Mp.put {D : DataW Unit} {L : List Fl} (h : Mp D L) (hs : Srt L) (hD : Maps.IsMap D) (f : Fl) : Mp (D.put (.string f.name) (.lit (.int .i64 f.g))) (wth f L) := by
  refine ⟨fun s => ?_, fun s => ?_⟩
  · by_cases e : s = f.name
    · subst e
      rw [lk_wth_same hs, Maps.atKey_put_same hD (isKey _)]; rfl
    · rw [lk_wth_other hs e, Maps.atKey_put_other (str_ne e), h.1]
  · by_cases e : s = f.name
    · subst e
      rw [lk_wth_same hs, Maps.has_put_same hD (isKey _)]; rfl
    · rw [lk_wth_other hs e, Maps.has_put_other (str_ne e), h.2]
theorem Mp.del {D : DataW Unit} {L : List Fl} (h : Mp D L) (hs : Srt L) (t : List UInt8) : Mp (D.del (.string t)) (wto t L) := by
  refine ⟨fun s => ?_, fun s => ?_⟩
  · by_cases e : s = t
    · subst e
      rw [lk_wto_same, Maps.atKey_del_same]; rfl
    · rw [lk_wto_other hs e, Maps.atKey_del_other (str_ne e), h.1]
  · by_cases e : s = t
    · subst e
      rw [lk_wto_same, Maps.has_del_same]; rfl
    · rw [lk_wto_other hs e, Maps.has_del_other (str_ne e), h.2]
/-- A file that is put in its own place. -/
theorem Mp.same {D : DataW Unit} {L : List Fl} (h : Mp D L) (hs : Srt L) {f f' : Fl} (hf : lk f.name L = some f) (hn : f'.name = f.name) (hg : f'.g = f.g) : Mp D (wth f' L) := by
  refine ⟨fun s => ?_, fun s => ?_⟩
  · by_cases e : s = f'.name
    · subst e
      rw [lk_wth_same hs, h.1, hn, hf]
      simp only [pd, hg]
    · rw [lk_wth_other hs e, h.1]
  · by_cases e : s = f'.name
    · subst e
      rw [lk_wth_same hs, h.2, hn, hf]; rfl
    · rw [lk_wth_other hs e, h.2]

/-- A file lies there. -/
structure FlAt (w : World) (f : Fl) : Prop where
  blk : w.heap[f.g]? = some (.cells #[f.v, .int .i64 f.syn] 80 (0, 0))
  own : w.ownsRow 0 5 1 f.v f.bytes.length (Lib.byteCells f.bytes)
  syn : f.syn ≤ f.bytes.length
  nm : 0 < f.name.length ∧ f.name.length ≤ 64
/-- The blocks of a disk. -/
def Ft (d m : Nat) (L : List Fl) (i : Nat) : Prop := i = d ∨ i = m ∨ ∃ f ∈ L, i = f.g ∨ f.v.ownBlock = some i
/-- A disk of which so many bytes are free: in block d, its map in block m, the files L. -/
structure Dk (w : World) (d m : Nat) (L : List Fl) (fr N : Nat) : Prop where
  srt : Srt L
  blk : w.heap[d]? = some (.cells #[.int .i64 (fr : Int), .map (some m)] 45 (0, 0))
  mp : ∃ n D, n ≤ N ∧ w.ownsMap Tryd.prog 9 ptrElem m n D ∧ Mp D L
  fl : ∀ f ∈ L, FlAt w f
  apart : ∀ a ∈ L, ∀ b ∈ L, a.name ≠ b.name → a.g ≠ b.g ∧ (a.v.ownBlock = none ∨ a.v.ownBlock ≠ b.v.ownBlock)
  len : L.length ≤ N

theorem own_lt {w : World} {e : TypeId} {v : Value} {n : Nat} {xs : List Value} (h : w.ownsRow 0 e 1 v n xs) {i : Nat} (hi : v.ownBlock = some i) : ∃ cur, w.heap[i]? = some (.cells cur e (0, 0)) := by
  rcases h.2 with ⟨rfl, _⟩ | ⟨g, cap, cur, rfl, _, hg, _⟩
  · cases hi
  · cases hi; exact ⟨cur, hg⟩
theorem FlAt.kept {w w' : World} {f : Fl} (h : FlAt w f) (h1 : w'.heap[f.g]? = w.heap[f.g]?) (h2 : ∀ i, f.v.ownBlock = some i → w'.heap[i]? = w.heap[i]?) : FlAt w' f := by
  refine ⟨h1.trans h.blk, ⟨h.own.1, ?_⟩, h.syn, h.nm⟩
  rcases h.own.2 with a | ⟨g, cap, cur, a1, a2, a3, a4⟩
  · exact Or.inl a
  · exact Or.inr ⟨g, cap, cur, a1, a2, (h2 g (by rw [a1]; rfl)).trans a3, a4⟩
theorem owns_kept {P : Program} {k : TypeId} {R : Value → Option (DataW Unit × List MemPlace)} {w w' : World} {b n : Nat} {D : DataW Unit} (h : w.ownsMap P k R b n D) (hb : w'.heap[b]? = w.heap[b]?) : w'.ownsMap P k R b n D := by
  obtain ⟨es, clock, h1, h2⟩ := h
  exact ⟨es, clock, hb.trans h1, h2⟩
theorem Dk.kept {w w' : World} {d m fr N : Nat} {L : List Fl} (h : Dk w d m L fr N) (hb : ∀ i, Ft d m L i → w'.heap[i]? = w.heap[i]?) : Dk w' d m L fr N := by
  obtain ⟨n, D, h1, h2, h3⟩ := h.mp
  exact ⟨h.srt, (hb d (Or.inl rfl)).trans h.blk, ⟨n, D, h1, owns_kept h2 (hb m (Or.inr (Or.inl rfl))), h3⟩,
    fun f hf => (h.fl f hf).kept (hb _ (Or.inr (Or.inr ⟨f, hf, Or.inl rfl⟩))) (fun i hi => hb i (Or.inr (Or.inr ⟨f, hf, Or.inr hi⟩))), h.apart, h.len⟩
theorem Dk.drew {w : World} {d m fr N : Nat} {L : List Fl} (h : Dk w d m L fr N) : Dk w.drew d m L fr N := h.kept fun _ _ => rfl
theorem Dk.mono {w : World} {d m fr N N' : Nat} {L : List Fl} (h : Dk w d m L fr N) (hN : N ≤ N') : Dk w d m L fr N' := by
  obtain ⟨n, D, h1, h2, h3⟩ := h.mp
  exact ⟨h.srt, h.blk, ⟨n, D, Nat.le_trans h1 hN, h2, h3⟩, h.fl, h.apart, Nat.le_trans h.len hN⟩
/-- What each block of a disk is. -/
theorem Dk.what {w : World} {d m fr N : Nat} {L : List Fl} (h : Dk w d m L fr N) {i : Nat} (hi : Ft d m L i) :
    (∃ es c, w.heap[i]? = some (.map es c)) ∨ ∃ cur t, w.heap[i]? = some (.cells cur t (0, 0)) ∧ (t = 45 ∨ t = 80 ∨ t = 5) := by
  rcases hi with rfl | rfl | ⟨f, hf, rfl | e⟩
  · exact Or.inr ⟨_, _, h.blk, Or.inl rfl⟩
  · obtain ⟨n, D, _, ⟨es, c, hb, _⟩, _⟩ := h.mp
    exact Or.inl ⟨es, c, hb⟩
  · exact Or.inr ⟨_, _, (h.fl f hf).blk, Or.inr (Or.inl rfl)⟩
  · obtain ⟨cur, hc⟩ := own_lt (h.fl f hf).own e
    exact Or.inr ⟨_, _, hc, Or.inr (Or.inr rfl)⟩
theorem Dk.lt {w : World} {d m fr N : Nat} {L : List Fl} (h : Dk w d m L fr N) {i : Nat} (hi : Ft d m L i) : i < w.heap.size := by
  rcases h.what hi with ⟨es, c, e⟩ | ⟨cur, t, e, _⟩ <;> exact (Array.getElem?_eq_some_iff.1 e).1
theorem Dk.other {w : World} {d m fr N : Nat} {L : List Fl} (h : Dk w d m L fr N) {j : Nat} {cur : Array Value} {t : TypeId} {x : Nat × Nat} (hj : w.heap[j]? = some (.cells cur t x))
    (ht : t ≠ 45 ∧ t ≠ 80 ∧ t ≠ 5) : ¬ Ft d m L j := fun hi => by
  rcases h.what hi with ⟨es, c, e⟩ | ⟨cur', t', e, k⟩
  · rw [e] at hj; cases hj
  · rw [e] at hj
    cases hj
    rcases k with k | k | k
    · exact ht.1 k
    · exact ht.2.1 k
    · exact ht.2.2 k
theorem Dk.below {w w' : World} {d m fr N : Nat} {L : List Fl} (h : Dk w d m L fr N) (hb : Below w.heap.size w w') : Dk w' d m L fr N := h.kept fun i hi => hb.block i (h.lt hi)
theorem Dk.ne {w : World} {d m fr N : Nat} {L : List Fl} (h : Dk w d m L fr N) : d ≠ m := fun e => by
  obtain ⟨n, D, _, ⟨es, c, hb, _⟩, _⟩ := h.mp
  rw [← e, h.blk] at hb
  cases hb
theorem Dk.ne_file {w : World} {d m fr N : Nat} {L : List Fl} (h : Dk w d m L fr N) {f : Fl} (hf : f ∈ L) : f.g ≠ d ∧ f.g ≠ m ∧ (∀ x ∈ L, x.v.ownBlock ≠ some f.g) := by
  refine ⟨fun e => ?_, fun e => ?_, fun x hx e => ?_⟩
  · have := (h.fl f hf).blk
    rw [e, h.blk] at this
    simp at this
  · obtain ⟨n, D, _, ⟨es, c, hb, _⟩, _⟩ := h.mp
    rw [← e, (h.fl f hf).blk] at hb
    cases hb
  · obtain ⟨cur, hc⟩ := own_lt (h.fl x hx).own e
    rw [(h.fl f hf).blk] at hc
    simp at hc
theorem Dk.ne_row {w : World} {d m fr N : Nat} {L : List Fl} (h : Dk w d m L fr N) {f : Fl} (hf : f ∈ L) : f.v.ownBlock ≠ some d ∧ f.v.ownBlock ≠ some m := by
  refine ⟨fun e => ?_, fun e => ?_⟩
  · obtain ⟨cur, hc⟩ := own_lt (h.fl f hf).own e
    rw [h.blk] at hc
    simp at hc
  · obtain ⟨cur, hc⟩ := own_lt (h.fl f hf).own e
    obtain ⟨n, D, _, ⟨es, c, hb, _⟩, _⟩ := h.mp
    rw [hb] at hc
    cases hc

/-- 'd.files[name]'. -/
theorem Dk.look {w : World} {d m fr N : Nat} {L : List Fl} (h : Dk w d m L fr N) {s : List UInt8} (hl : s.length ≤ maxLen) :
    (Instr.lookup 43 (.map (some m)) (.string (bstr s)) false).run Tryd.prog w = .ok (pv (lk s L)) w := by
  obtain ⟨n, D, _, h2, h3⟩ := h.mp
  obtain ⟨v, ps, hr, hv⟩ := h2.lookup keyT Tryd.underlying43 (zeroF w) (zd := .nil) (zp := []) rfl (key_mk hl)
  rw [h3.1] at hv
  rw [hr, pv_of hv]

/-- What a call leaves as it was: all but the blocks of which S speaks, and new ones. -/
structure Kp (w w' : World) (S : Nat → Prop) : Prop where
  os : w'.os = w.os
  tape : w'.tape = w.tape
  output : w'.output = w.output
  size : w.heap.size ≤ w'.heap.size
  block : ∀ i, i < w.heap.size → ¬ S i → w'.heap[i]? = w.heap[i]?
theorem Kp.refl (w : World) (S : Nat → Prop) : Kp w w S := ⟨rfl, rfl, rfl, Nat.le_refl _, fun _ _ _ => rfl⟩
theorem Kp.trans {a b c : World} {S S' : Nat → Prop} (h : Kp a b S) (k : Kp b c S') (hS : ∀ i, S' i → S i ∨ a.heap.size ≤ i) : Kp a c S :=
  ⟨k.os.trans h.os, k.tape.trans h.tape, k.output.trans h.output, Nat.le_trans h.size k.size, fun i hi hn => (k.block i (Nat.lt_of_lt_of_le hi h.size) (fun hs => by
    rcases hS i hs with a | a
    · exact hn a
    · omega)).trans (h.block i hi hn)⟩
theorem Kp.mono {a b : World} {S S' : Nat → Prop} (h : Kp a b S) (hS : ∀ i, S i → S' i ∨ a.heap.size ≤ i) : Kp a b S' :=
  ⟨h.os, h.tape, h.output, h.size, fun i hi hn => h.block i hi (fun hs => by
    rcases hS i hs with a | a
    · exact hn a
    · omega)⟩
theorem Kp.of_grown {w w' : World} {k : Nat} {S : Nat → Prop} (h : w.grownBy w' (some k)) (hk : S k) : Kp w w' S :=
  ⟨h.os, h.tape, h.output, h.size, fun i hi hn => h.block i hi (fun e => hn (by cases e; exact hk))⟩
theorem Kp.of_grown' {w w' : World} {r : Option Nat} {S : Nat → Prop} (h : w.grownBy w' r) (hk : ∀ k, r = some k → S k) : Kp w w' S :=
  ⟨h.os, h.tape, h.output, h.size, fun i hi hn => h.block i hi (fun e => hn (hk i e.symm))⟩
theorem Kp.drew {w w' : World} {S : Nat → Prop} (h : Kp w w' S) : Kp w w'.drew S := ⟨h.os, h.tape, h.output, h.size, h.block⟩
theorem Kp.of_below {w w' : World} (S : Nat → Prop) (h : Below w.heap.size w w') : Kp w w' S := ⟨h.os, h.tape, h.output, h.size, fun i hi _ => h.block i hi⟩
theorem Kp.below {w w' : World} {S : Nat → Prop} {B : Nat} (h : Kp w w' S) (hB : B ≤ w.heap.size) (hS : ∀ i, S i → B ≤ i) : Below B w w' :=
  ⟨h.os, h.tape, h.output, h.size, fun k hk => h.block k (by omega) (fun hs => by have := hS k hs; omega)⟩

/-- A file is written in its place: f' for f. -/
theorem Dk.write {w w' : World} {d m fr N : Nat} {L : List Fl} (h : Dk w d m L fr N) {f f' : Fl} (hf : lk f.name L = some f) (hn : f'.name = f.name) (hg : f'.g = f.g) (hF : FlAt w' f')
    (hrow : f'.v.ownBlock = none ∨ f'.v.ownBlock = f.v.ownBlock ∨ ∃ k, f'.v.ownBlock = some k ∧ w.heap.size ≤ k)
    (hk : ∀ i, i < w.heap.size → i ≠ f.g → f.v.ownBlock ≠ some i → i ≠ d → w'.heap[i]? = w.heap[i]?)
    {fr' : Nat} (hd : w'.heap[d]? = some (.cells #[.int .i64 (fr' : Int), .map (some m)] 45 (0, 0))) : Dk w' d m (wth f' L) fr' N := by
  obtain ⟨hm, _⟩ := lk_some hf
  obtain ⟨n, D, h1, h2, h3⟩ := h.mp
  have hq : ∀ x ∈ L, x.name ≠ f.name → w'.heap[x.g]? = w.heap[x.g]? ∧ ∀ i, x.v.ownBlock = some i → w'.heap[i]? = w.heap[i]? := by
    intro x hx hne
    obtain ⟨a1, a2⟩ := h.apart x hx f hm hne
    refine ⟨hk _ (h.lt (Or.inr (Or.inr ⟨x, hx, Or.inl rfl⟩))) a1 ((h.ne_file hx).2.2 f hm) (h.ne_file hx).1, fun i hi => ?_⟩
    refine hk i (h.lt (Or.inr (Or.inr ⟨x, hx, Or.inr hi⟩))) (fun e => (h.ne_file hm).2.2 x hx (e ▸ hi)) (fun e => ?_) (fun e => (h.ne_row hx).1 (e ▸ hi))
    rcases a2 with a2 | a2
    · rw [a2] at hi; cases hi
    · exact a2 (hi.trans e.symm)
  refine ⟨wth_srt h.srt, hd, ⟨n, D, h1, owns_kept h2 ?_, h3.same h.srt hf hn hg⟩, fun x hx => ?_, ?_, ?_⟩
  · exact hk m (h.lt (Or.inr (Or.inl rfl))) (fun e => (h.ne_file hm).2.1 e.symm) (h.ne_row hm).2 (fun e => h.ne e.symm)
  · rcases (wth_mem h.srt).1 hx with rfl | ⟨hx, hne⟩
    · exact hF
    · rw [hn] at hne
      exact (h.fl x hx).kept (hq x hx hne).1 (hq x hx hne).2
  · have key : ∀ x ∈ L, x.name ≠ f.name → x.g ≠ f'.g ∧ (x.v.ownBlock = none ∨ x.v.ownBlock ≠ f'.v.ownBlock) ∧ (f'.v.ownBlock = none ∨ f'.v.ownBlock ≠ x.v.ownBlock) := by
      intro x hx hne
      obtain ⟨a1, a2⟩ := h.apart x hx f hm hne
      refine ⟨by rw [hg]; exact a1, ?_⟩
      rcases hrow with e | e | ⟨k, e, hk2⟩
      · rw [e]
        refine ⟨?_, Or.inl rfl⟩
        cases x.v.ownBlock <;> simp
      · rw [e]
        refine ⟨a2, ?_⟩
        rcases a2 with a2 | a2
        · rw [a2]
          cases f.v.ownBlock <;> simp
        · exact Or.inr (fun e => a2 e.symm)
      · rw [e]
        have hne2 : x.v.ownBlock ≠ some k := fun e2 => by
          have := h.lt (Or.inr (Or.inr ⟨x, hx, Or.inr e2⟩))
          omega
        exact ⟨Or.inr hne2, Or.inr (fun e => hne2 e.symm)⟩
    intro a ha b hb hab
    rcases (wth_mem h.srt).1 ha with rfl | ⟨ha2, hna⟩ <;> rcases (wth_mem h.srt).1 hb with rfl | ⟨hb2, hnb⟩
    · exact absurd rfl hab
    · rw [hn] at hnb
      obtain ⟨k1, k2, k3⟩ := key b hb2 hnb
      exact ⟨fun e => k1 e.symm, k3⟩
    · rw [hn] at hna
      obtain ⟨k1, k2, k3⟩ := key a ha2 hna
      exact ⟨k1, k2⟩
    · exact h.apart a ha2 b hb2 hab
  · rw [len_wth_old h.srt (by rw [hn]; exact hf)]
    exact h.len
/-- The blocks behind such a write. -/
theorem Ft.write {w : World} {d m : Nat} {L : List Fl} {f f' : Fl} (hs : Srt L) (hf : lk f.name L = some f) (hg : f'.g = f.g)
    (hrow : f'.v.ownBlock = none ∨ f'.v.ownBlock = f.v.ownBlock ∨ ∃ k, f'.v.ownBlock = some k ∧ w.heap.size ≤ k) {i : Nat} (hi : Ft d m (wth f' L) i) : Ft d m L i ∨ w.heap.size ≤ i := by
  obtain ⟨hm, _⟩ := lk_some hf
  rcases hi with rfl | rfl | ⟨x, hx, hi⟩
  · exact Or.inl (Or.inl rfl)
  · exact Or.inl (Or.inr (Or.inl rfl))
  · rcases (wth_mem hs).1 hx with rfl | ⟨hx, _⟩
    · rcases hi with rfl | hi
      · exact Or.inl (Or.inr (Or.inr ⟨f, hm, Or.inl hg⟩))
      · rcases hrow with e | e | ⟨k, e, hk2⟩
        · rw [e] at hi; cases hi
        · exact Or.inl (Or.inr (Or.inr ⟨f, hm, Or.inr (e ▸ hi)⟩))
        · rw [e] at hi; cases hi; exact Or.inr hk2
    · exact Or.inl (Or.inr (Or.inr ⟨x, hx, hi⟩))

/-- A file is put to the others. -/
theorem Dk.add {w w' : World} {d m fr N : Nat} {L : List Fl} (h : Dk w d m L fr N) (f : Fl) (hf : lk f.name L = none) (hF : FlAt w f) (hap : ∀ x ∈ L, f.g ≠ x.g ∧ (f.v.ownBlock = none ∨ f.v.ownBlock ≠ x.v.ownBlock))
    (ht : w.mapTurned w' m) (hm : ∃ n D, n ≤ N + 1 ∧ w'.ownsMap Tryd.prog 9 ptrElem m n D ∧ Mp D (wth f L)) : Dk w' d m (wth f L) fr (N + 1) := by
  have hg := ht.grown
  have hmap : ∃ es c, w.heap[m]? = some (.map es c) := by
    obtain ⟨n, D, _, ⟨es, c, hb, _⟩, _⟩ := h.mp
    exact ⟨es, c, hb⟩
  obtain ⟨es, c, hmb⟩ := hmap
  have hk : ∀ (i : Nat) (cur : Array Value) (t : TypeId), w.heap[i]? = some (.cells cur t (0, 0)) → w'.heap[i]? = w.heap[i]? := fun i cur t hi => hg.block i (Array.getElem?_eq_some_iff.1 hi).1 (fun e => by
    cases e
    rw [hmb] at hi
    cases hi)
  refine ⟨wth_srt h.srt, (hk d _ _ h.blk).trans h.blk, hm, fun x hx => ?_, ?_, ?_⟩
  · have hx' : FlAt w x := by
      rcases (wth_mem h.srt).1 hx with rfl | ⟨hx, _⟩
      · exact hF
      · exact h.fl x hx
    refine hx'.kept (hk _ _ _ hx'.blk) (fun i hi => ?_)
    obtain ⟨cur, hc⟩ := own_lt hx'.own hi
    exact hk i _ _ hc
  · intro a ha b hb hab
    rcases (wth_mem h.srt).1 ha with rfl | ⟨ha2, hna⟩ <;> rcases (wth_mem h.srt).1 hb with rfl | ⟨hb2, hnb⟩
    · exact absurd rfl hab
    · exact hap b hb2
    · obtain ⟨k1, k2⟩ := hap a ha2
      refine ⟨fun e => k1 e.symm, ?_⟩
      rcases k2 with k2 | k2
      · rw [k2]; cases a.v.ownBlock <;> simp
      · exact Or.inr (fun e => k2 e.symm)
    · exact h.apart a ha2 b hb2 hab
  · exact Nat.le_trans (len_wth f L) (Nat.succ_le_succ h.len)
/-- A file is taken out. -/
theorem Dk.del {w w' : World} {d m fr N : Nat} {L : List Fl} (h : Dk w d m L fr N) (s : List UInt8) (ht : w.mapTurned w' m) (hm : ∃ n D, n ≤ N ∧ w'.ownsMap Tryd.prog 9 ptrElem m n D ∧ Mp D (wto s L)) : Dk w' d m (wto s L) fr N := by
  have hg := ht.grown
  have hmap : ∃ es c, w.heap[m]? = some (.map es c) := by
    obtain ⟨n, D, _, ⟨es, c, hb, _⟩, _⟩ := h.mp
    exact ⟨es, c, hb⟩
  obtain ⟨es, c, hmb⟩ := hmap
  have hk : ∀ (i : Nat) (cur : Array Value) (t : TypeId), w.heap[i]? = some (.cells cur t (0, 0)) → w'.heap[i]? = w.heap[i]? := fun i cur t hi => hg.block i (Array.getElem?_eq_some_iff.1 hi).1 (fun e => by
    cases e
    rw [hmb] at hi
    cases hi)
  refine ⟨wto_srt h.srt, (hk d _ _ h.blk).trans h.blk, hm, fun x hx => ?_, fun a ha b hb hab => h.apart a (wto_mem.1 ha).1 b (wto_mem.1 hb).1 hab, Nat.le_trans (len_wto s L) h.len⟩
  have hx' := h.fl x (wto_mem.1 hx).1
  refine hx'.kept (hk _ _ _ hx'.blk) (fun i hi => ?_)
  obtain ⟨cur, hc⟩ := own_lt hx'.own hi
  exact hk i _ _ hc
theorem Ft.add {d m : Nat} {L : List Fl} {f : Fl} (hs : Srt L) {i : Nat} (hi : Ft d m (wth f L) i) : Ft d m L i ∨ i = f.g ∨ f.v.ownBlock = some i := by
  rcases hi with rfl | rfl | ⟨x, hx, hi⟩
  · exact Or.inl (Or.inl rfl)
  · exact Or.inl (Or.inr (Or.inl rfl))
  · rcases (wth_mem hs).1 hx with rfl | ⟨hx, _⟩
    · exact Or.inr hi
    · exact Or.inl (Or.inr (Or.inr ⟨x, hx, hi⟩))
theorem Ft.del {d m : Nat} {L : List Fl} {s : List UInt8} {i : Nat} (hi : Ft d m (wto s L) i) : Ft d m L i := by
  rcases hi with rfl | rfl | ⟨x, hx, hi⟩
  · exact Or.inl rfl
  · exact Or.inr (Or.inl rfl)
  · exact Or.inr (Or.inr ⟨x, (wto_mem.1 hx).1, hi⟩)
theorem Dk.free {w w' : World} {d m fr fr' N : Nat} {L : List Fl} (h : Dk w d m L fr N) (hd : w'.heap[d]? = some (.cells #[.int .i64 (fr' : Int), .map (some m)] 45 (0, 0)))
    (hk : ∀ i, i < w.heap.size → i ≠ d → w'.heap[i]? = w.heap[i]?) : Dk w' d m L fr' N := by
  obtain ⟨n, D, h1, h2, h3⟩ := h.mp
  exact ⟨h.srt, hd, ⟨n, D, h1, owns_kept h2 (hk m (h.lt (Or.inr (Or.inl rfl))) (fun e => h.ne e.symm)), h3⟩,
    fun f hf => (h.fl f hf).kept (hk _ (h.lt (Or.inr (Or.inr ⟨f, hf, Or.inl rfl⟩))) (h.ne_file hf).1) (fun i hi => hk i (h.lt (Or.inr (Or.inr ⟨f, hf, Or.inr hi⟩))) (fun e => (h.ne_row hf).1 (e ▸ hi))), h.apart, h.len⟩

/-- 'd.files[name] = f'. -/
theorem Dk.stores {w : World} {d m fr N : Nat} {L : List Fl} (h : Dk w d m L fr N) (f : Fl) (hN : N < maxLen) (hl : f.name.length ≤ maxLen) :
    ∃ w', (Instr.mapUpdate 43 (.map (some m)) (.string (bstr f.name)) (.pointer (some ⟨f.g, 0, none⟩))).run Tryd.prog w = .ok () w' ∧ w.mapTurned w' m ∧ ∃ n D, n ≤ N + 1 ∧ w'.ownsMap Tryd.prog 9 ptrElem m n D ∧ Mp D (wth f L) := by
  obtain ⟨n, D, h1, h2, h3⟩ := h.mp
  obtain ⟨w', hrun, r1, r2⟩ := h2.store keyT Tryd.underlying43 (Nat.lt_of_le_of_lt h1 hN) (key_mk hl) (ptr_at f.g)
  exact ⟨w', hrun, r2, n + 1, _, Nat.succ_le_succ h1, r1, h3.put h.srt h2.isMap f⟩
/-- 'd.files[name] = f', at a step of a region that draws its order. -/
theorem step_store {w : World} {ops : Array Oper} {o : Oper} {a : Act} {K : Act → World → Prop} {Q : Exit → Act → World → Prop} {E : Prop} {d m fr N : Nat} {L : List Fl} (h : Dk w d m L fr N) (f : Fl)
    (hgd : o.guard = none) (mm x v : Operand) (ho : o.op = Op.mapUpdate 43 mm x v) (hm : a.eval mm = .map (some m)) (hx : a.eval x = .string (bstr f.name)) (hv : a.eval v = .pointer (some ⟨f.g, 0, none⟩))
    (hN : N < maxLen) (hl : f.name.length ≤ maxLen)
    (hK : ∀ w', w.mapTurned w' m → (∃ n D, n ≤ N + 1 ∧ w'.ownsMap Tryd.prog 9 ptrElem m n D ∧ Mp D (wth f L)) → K (a.put o.dst undef) w') :
    if Region.wanted o (yielded ops a.tmps) = true then Oper.wp Tryd.prog o a w K Q else E := by
  have hw : Region.wanted o (yielded ops a.tmps) = true := by simp [Region.wanted, hgd]
  rw [if_pos hw]
  obtain ⟨n, D, h1, h2, h3⟩ := h.mp
  obtain ⟨w', hrun, r1, r2⟩ := h2.store keyT Tryd.underlying43 (Nat.lt_of_le_of_lt h1 hN) (key_mk hl) (ptr_at f.g)
  unfold Oper.wp
  simp [execOp, ho, hm, hx, hv, hrun, Result.andThen]
  exact hK w' r2 ⟨n + 1, _, Nat.succ_le_succ h1, r1, h3.put h.srt h2.isMap f⟩
/-- 'delete(d.files, name)', in a list of operations. -/
theorem wpList_del {w : World} {ops : Array Oper} {rest : List Oper} {o : Oper} {a : Act} {Q : Exit → Act → World → Prop} {d m fr N : Nat} {L : List Fl} (h : Dk w d m L fr N) (s : List UInt8)
    (hgd : o.guard = none) (mm x : Operand) (ho : o.op = Op.call { callee := Callee.builtin Builtin.delete, args := #[mm, x], argTypes := #[43, 9] }) (hm : a.eval mm = .map (some m)) (hx : a.eval x = .string (bstr s))
    (hl : s.length ≤ maxLen)
    (hK : ∀ w', w.mapTurned w' m → Dk w' d m (wto s L) fr N → wpList Tryd.prog ops Q rest (a.put o.dst (.tuple #[])) w') :
    wpList Tryd.prog ops Q (o :: rest) a w := by
  obtain ⟨n, D, h1, h2, h3⟩ := h.mp
  exact wpList_delete_own w hgd mm x _ _ ho 56 keyT Tryd.underlying43 ptrElem m n D hm h2 _ _ hx (key_mk hl) (fun w' r1 r2 => hK w' r2 (h.del s r2 ⟨n, _, h1, r1, h3.del h.srt s⟩))

/-- 'append(f.data, data...)': where the new slice lies. -/
theorem append_str_at {P : Program} {w w' : World} {base : Nat} {t u ty e : TypeId} {i : TypeInfo} (ht : P.underlying t = some (.slice e)) (hu : P.underlying u = some .string) (hi : P.info? e = some i) (hz : i.zero = some (.int .u8 0))
    (hsize : i.size = 1) (hby : i.bytes = 1) {v v' : Value} {n : Nat} {xs : List Value} (hown : w.ownsRow base e 1 v n xs) {s : ByteArray} (h63 : n + s.size ≤ maxLen) (hbytes : n + s.size ≤ 140737488355328)
    (hr : (Builtin.append_ #[t, u] ty #[v, .string s]).run P w = .ok v' w') (hnil : v' = .slice none 0 0 ↔ v = .slice none 0 0 ∧ s.size = 0) : v'.ownBlock = none ∨ v'.ownBlock = v.ownBlock ∨ v'.ownBlock = some w.heap.size := by
  have hsmall : n + s.size ≤ 9223372036854775807 := by simp only [maxLen] at h63; omega
  have hxl : xs.length = n := by simpa using hown.1
  rcases hown.2 with ⟨rfl, rfl⟩ | ⟨g, cap, cur, rfl, hbg, hg, hnc, hcm, hcs, htake⟩
  · by_cases hm : s.size = 0
    · rw [hnil.2 ⟨rfl, hm⟩]
      exact Or.inl rfl
    · have hr2 := run_append_nil_string (P := P) w t u ty e i (.int .u8 0) ht hu hi hz s (by omega) (by omega) (by rw [hby]; omega)
      rw [hr2] at hr
      cases hr
      exact Or.inr (Or.inr rfl)
  · by_cases hroom : n + s.size ≤ cap
    · have hcs' : cur.size = cap := by simpa using hcs
      have hr2 := Lib.run_append_room_string (P := P) w t u ty e i ht hu hi hsize g n cap cur hg s hroom (by omega)
      rw [hr2] at hr
      cases hr
      exact Or.inr (Or.inl rfl)
    · have holds : ∀ j u, xs[j]? = some u → w.cell? ((⟨g, 0, none⟩ : Addr).add j) = some u := hown.cells (g := g) rfl
      have hr2 := Lib.run_append_grow_string (P := P) w t u ty e i (.int .u8 0) ht hu hi hz ⟨g, 0, none⟩ n cap xs (by rw [hsize]; simpa using hxl) holds s (by omega) (by omega) (by rw [hby]; exact growslice_fits (by omega) (by omega))
      rw [hr2] at hr
      cases hr
      exact Or.inr (Or.inr rfl)
theorem wpList_app {P : Program} {w : World} {ops : Array Oper} {rest : List Oper} {o : Oper} {a : Act} {Q : Exit → Act → World → Prop} (hgd : o.guard = none) (sl x : Operand) (t u : TypeId)
    (ho : o.op = .call { callee := .builtin .append, args := #[sl, x], argTypes := #[t, u] }) (e : TypeId) (i : TypeInfo) (ht : P.underlying t = some (.slice e)) (hu : P.underlying u = some .string) (hi : P.info? e = some i) (hz : i.zero = some (.int .u8 0))
    (hsize : i.size = 1) (hby : i.bytes = 1) (v : Value) (l b : List UInt8) (hs : a.eval sl = v) (hown : w.ownsRow 0 e 1 v l.length (Lib.byteCells l)) (hx : a.eval x = .string (bstr b)) (hbytes : l.length + b.length ≤ 140737488355328)
    (h : ∀ v' w', w'.ownsRow 0 e 1 v' (l ++ b).length (Lib.byteCells (l ++ b)) → w.grownBy w' v.ownBlock → (v'.ownBlock = none ∨ v'.ownBlock = v.ownBlock ∨ ∃ k, v'.ownBlock = some k ∧ w.heap.size ≤ k) → wpList P ops Q rest (a.put o.dst v') w') : wpList P ops Q (o :: rest) a w := by
  refine wpList_plain hgd fun K hK => ?_
  have h63 : l.length + (bstr b).size ≤ maxLen := by rw [size_bstr]; unfold maxLen; omega
  have h48 : l.length + (bstr b).size ≤ 140737488355328 := by rw [size_bstr]; exact hbytes
  obtain ⟨v', w', hr, h2, h3, h4⟩ := Lib.run_append_own_string (P := P) w 0 t u o.type e i ht hu hi hz hsize hby v l.length (Lib.byteCells l) hown (bstr b) h63 h48 (Nat.zero_le _)
  have h5 := append_str_at (P := P) ht hu hi hz hsize hby hown h63 h48 hr h4
  unfold Oper.wp execOp
  simp only [ho, resolve, invoke, builtin, Sem.run_bind, Sem.run_pure, Result.andThen_ok, List.map_toArray, List.map_cons, List.map_nil, hs, hx, hr]
  refine hK _ _ (h v' w' ?_ h3 ?_)
  · rw [strCells_eq, data_bstr, ← byteCells_append, size_bstr] at h2
    rw [List.length_append]
    exact h2
  · rcases h5 with h5 | h5 | h5
    · exact Or.inl h5
    · exact Or.inr (Or.inl h5)
    · exact Or.inr (Or.inr ⟨_, h5, Nat.le_refl _⟩)

end Go.Proofs.YtnfnlfdplnekgaaDoor.Ds

namespace Go.Proofs.YtnfnlfdplnekgaaDoor.Ds
open Go.RowKit

set_option maxHeartbeats 1000000 in
theorem none_any {d m fr N : Nat} {L : List Fl} (w : World) (h : Dk w d m L fr N) :
    Calls Tryd.prog 30 #[.pointer (some ⟨d, 0, none⟩)] w fun e w' => e = .returned (.bool false) ∧ w' = w := by
  have c1 : w.cell? ⟨d, 1, none⟩ = some (.map (some m)) := (cells_block h.blk).1 1
  clear h
  have qT : ∀ (w : World) (r : Option Nat), (binOp .eql 43 (.map r) (.map none)).run Tryd.prog w = .ok (.bool r.isNone) w := fun w r => run_eql_map_nil w _ _ _ r Tryd.underlying43
  go_enter Tryd.func30, Tryd.ntmps30
  go_wp2
  go_ret
  exact ⟨rfl, rfl⟩

set_option maxHeartbeats 1000000 in
theorem none_nil (w : World) :
    Calls Tryd.prog 30 #[.pointer none] w fun e w' => e = .returned (.bool true) ∧ w' = w := by
  go_enter Tryd.func30, Tryd.ntmps30
  go_wp2
  go_ret
  exact ⟨rfl, rfl⟩

set_option maxHeartbeats 1000000 in
theorem none_zero (d : Nat) (w : World) (c1 : w.cell? ⟨d, 1, none⟩ = some (.map none)) :
    Calls Tryd.prog 30 #[.pointer (some ⟨d, 0, none⟩)] w fun e w' => e = .returned (.bool true) ∧ w' = w := by
  have qT : ∀ (w : World) (r : Option Nat), (binOp .eql 43 (.map r) (.map none)).run Tryd.prog w = .ok (.bool r.isNone) w := fun w r => run_eql_map_nil w _ _ _ r Tryd.underlying43
  go_enter Tryd.func30, Tryd.ntmps30
  go_wp2
  go_ret
  exact ⟨rfl, rfl⟩

/-- Is it a name? -/
def okN (s : List UInt8) : Bool := decide (0 < s.length) && decide (s.length ≤ 64)
set_option maxHeartbeats 1000000 in
theorem isName_any (s : List UInt8) (w : World) :
    Calls Tryd.prog 31 #[.string (bstr s)] w fun e w' => e = .returned (.bool (okN s)) ∧ w' = w := by
  have e1 : (bstr s).size = s.length := size_bstr s
  unfold okN
  by_cases h1 : 0 < s.length
  · by_cases h2 : s.length ≤ 64
    · go_enter Tryd.func31, Tryd.ntmps31
      go_wp2
      go_ret
      exact ⟨by simp [h1, h2]; omega, rfl⟩
    · go_enter Tryd.func31, Tryd.ntmps31
      go_wp2
      go_ret
      exact ⟨by simp [h2]; omega, rfl⟩
  · go_enter Tryd.func31, Tryd.ntmps31
    go_wp2
    go_ret
    exact ⟨by simp [h1], rfl⟩

/-- What find answers. -/

def fc : Option Fl → Int
  | none => 5
  | some _ => 0

set_option maxHeartbeats 1000000 in
theorem find_any {d m fr N : Nat} {L : List Fl} (s : List UInt8) (w : World) (h : Dk w d m L fr N) (hl : s.length ≤ maxLen) :
    Calls Tryd.prog 28 #[.pointer (some ⟨d, 0, none⟩), .string (bstr s)] w fun e w' => e = .returned (.tuple #[pv (lk s L), .int .i64 (fc (lk s L))]) ∧ w' = w := by
  have hlk := h.look hl
  have hn := none_any w h
  have c1 : w.cell? ⟨d, 1, none⟩ = some (.map (some m)) := (cells_block h.blk).1 1
  clear h
  cases e : lk s L with
  | none =>
    rw [e] at hlk
    simp only [pv] at hlk ⊢
    go_enter Tryd.func28, Tryd.ntmps28
    go_wp2_with fail
    refine hn.mono ?_
    rintro e w1 ⟨rfl, rfl⟩
    go_wp2
    go_ret2
    exact ⟨rfl, rfl⟩
  | some f =>
    rw [e] at hlk
    simp only [pv] at hlk ⊢
    go_enter Tryd.func28, Tryd.ntmps28
    go_wp2_with fail
    refine hn.mono ?_
    rintro e w1 ⟨rfl, rfl⟩
    go_wp2
    go_ret2
    exact ⟨rfl, rfl⟩

set_option maxHeartbeats 1000000 in
theorem find_nil (s : List UInt8) (w : World) :
    Calls Tryd.prog 28 #[.pointer none, .string (bstr s)] w fun e w' => e = .returned (.tuple #[.pointer none, .int .i64 1]) ∧ w' = w := by
  go_enter Tryd.func28, Tryd.ntmps28
  go_wp2_with fail
  refine (none_nil _).mono ?_
  rintro e w1 ⟨rfl, rfl⟩
  go_wp2
  go_ret2
  exact ⟨rfl, rfl⟩

set_option maxHeartbeats 1000000 in
theorem find_zero (d : Nat) (s : List UInt8) (w : World) (c1 : w.cell? ⟨d, 1, none⟩ = some (.map none)) :
    Calls Tryd.prog 28 #[.pointer (some ⟨d, 0, none⟩), .string (bstr s)] w fun e w' => e = .returned (.tuple #[.pointer none, .int .i64 1]) ∧ w' = w := by
  go_enter Tryd.func28, Tryd.ntmps28
  go_wp2_with fail
  refine (none_zero d _ c1).mono ?_
  rintro e w1 ⟨rfl, rfl⟩
  go_wp2
  go_ret2
  exact ⟨rfl, rfl⟩



/-- How many bytes of it are synced. -/

def sy : Option Fl → Int
  | none => 0
  | some f => f.syn

/-- The bytes of it. -/

def by_ : Option Fl → List UInt8
  | none => []
  | some f => f.bytes

set_option maxHeartbeats 1000000 in
theorem Read_any {d m fr N : Nat} {L : List Fl} (s : List UInt8) (w : World) (h : Dk w d m L fr N) (hl : s.length ≤ maxLen) :
    Calls Tryd.prog 19 #[.pointer (some ⟨d, 0, none⟩), .string (bstr s)] w fun e w' => e = .returned (.tuple #[.string (bstr (by_ (lk s L))), .int .i64 (fc (lk s L))]) ∧ w' = w := by
  have hf := find_any s w h hl
  cases e : lk s L with
  | none =>
    rw [e] at hf
    simp only [pv, fc] at hf
    go_enter Tryd.func19, Tryd.ntmps19
    go_wp2_with fail
    refine hf.mono ?_
    rintro e w1 ⟨rfl, rfl⟩
    go_wp2
    go_ret2
    exact ⟨rfl, rfl⟩
  | some f =>
    rw [e] at hf
    simp only [pv, fc, by_] at hf ⊢
    have hF := h.fl f (lk_some e).1
    have c0 : w.cell? ⟨f.g, 0, none⟩ = some f.v := (cells_block hF.blk).1 0
    have hcv := run_convert_own (P := Tryd.prog) (src := 30) (dst := 9) hF.own Tryd.underlying30 Tryd.underlying5 Tryd.underlying9
    clear h hF
    generalize f.v = v at *
    generalize f.bytes = l at *
    generalize f.g = g at *
    go_enter Tryd.func19, Tryd.ntmps19
    go_wp2_with fail
    refine hf.mono ?_
    rintro e w1 ⟨rfl, rfl⟩
    go_wp2
    go_ret2
    exact ⟨rfl, rfl⟩

set_option maxHeartbeats 1000000 in
theorem Read_nil (s : List UInt8) (w : World) :
    Calls Tryd.prog 19 #[.pointer none, .string (bstr s)] w fun e w' => e = .returned (.tuple #[.string ⟨#[]⟩, .int .i64 1]) ∧ w' = w := by
  go_enter Tryd.func19, Tryd.ntmps19
  go_wp2_with fail
  refine (find_nil s _).mono ?_
  rintro e w1 ⟨rfl, rfl⟩
  go_wp2
  go_ret2
  exact ⟨rfl, rfl⟩

end Go.Proofs.YtnfnlfdplnekgaaDoor.Ds
