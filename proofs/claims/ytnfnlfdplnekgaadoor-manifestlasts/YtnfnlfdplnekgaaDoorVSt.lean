/-
  The law's disk: no file, or one, all of which is synced.
-/
import Derived.Test.YtnfnlfdplnekgaaDoorGVMad2
import Derived.Test.YtnfnlfdplnekgaaDoorGDsXRen
import Derived.Test.YtnfnlfdplnekgaaDoorGDsXCra
namespace Go.Proofs.YtnfnlfdplnekgaaDoor
open Go.RowKit Go.BigFrame Go.Sort

abbrev nM : List UInt8 := [109]
abbrev nN : List UInt8 := [109, 46, 110, 101, 119]
/-- The files that there are: none, or one of these bytes. -/
def OneF (o : Option (List UInt8)) (L : List Ds.Fl) : Prop := match o with
  | none => L = []
  | some b => ∃ g v, L = [⟨nM, b, b.length, g, v⟩]
structure MDk (w : World) (B d m : Nat) (o : Option (List UInt8)) (R N : Nat) : Prop where
  ex : ∃ (L : List Ds.Fl) (fr : Nat), Ds.Dk w d m L fr N ∧ fr + Ds.tot L = R ∧ OneF o L ∧ ∀ i, Ds.Ft d m L i → B ≤ i
/-- What a call leaves as it was: all blocks ahead of B, and all that are no disk's. -/
structure Lft (w w' : World) (B : Nat) : Prop where
  bl : Below B w w'
  ty : ∀ (g : Nat) (cur : Array Value) (t : TypeId) (x : Nat × Nat), w.heap[g]? = some (Obj.cells cur t x) → (t ≠ 45 ∧ t ≠ 80 ∧ t ≠ 5) → w'.heap[g]? = w.heap[g]?
theorem Lft.refl (w : World) (B : Nat) : Lft w w B := ⟨Below.refl _ _, fun _ _ _ _ _ _ => rfl⟩
theorem Lft.trans {a b c : World} {B : Nat} (h : Lft a b B) (k : Lft b c B) : Lft a c B :=
  ⟨⟨k.bl.os.trans h.bl.os, k.bl.tape.trans h.bl.tape, k.bl.output.trans h.bl.output, Nat.le_trans h.bl.size k.bl.size, fun i hi => (k.bl.block i hi).trans (h.bl.block i hi)⟩,
    fun g cur t x hg ht => (k.ty g cur t x ((h.ty g cur t x hg ht).trans hg) ht).trans (h.ty g cur t x hg ht)⟩
theorem Lft.of {w w' : World} {B : Nat} (h : Below w.heap.size w w') (hB : B ≤ w.heap.size) : Lft w w' B :=
  ⟨⟨h.os, h.tape, h.output, h.size, fun i hi => h.block i (by omega)⟩, fun g _ _ _ hg _ => h.block g (lt_of_block hg)⟩
theorem Lft.of_stp {w w' : World} {B d m fr fr' N N' : Nat} {L L' : List Ds.Fl} (hD : Ds.Dk w d m L fr N) (h : Ds.Stp w w' d m L L' fr' N') (hf : ∀ i, Ds.Ft d m L i → B ≤ i) (hB : B ≤ w.heap.size) : Lft w w' B :=
  ⟨h.kp.below hB hf, fun g _ _ _ hg ht => h.kp.block g (lt_of_block hg) (hD.other hg ht)⟩
theorem ft_of_stp {w w' : World} {B d m fr' N' : Nat} {L L' : List Ds.Fl} (h : Ds.Stp w w' d m L L' fr' N') (hf : ∀ i, Ds.Ft d m L i → B ≤ i) (hB : B ≤ w.heap.size) : ∀ i, Ds.Ft d m L' i → B ≤ i := fun i hi => by
  rcases h.ft i hi with e | e
  · exact hf i e
  · omega
theorem MDk.below {w w' : World} {B d m R N : Nat} {o : Option (List UInt8)} (h : MDk w B d m o R N) (hb : Below w.heap.size w w') : MDk w' B d m o R N := by
  obtain ⟨L, fr, h1, h2⟩ := h.ex
  exact ⟨L, fr, h1.below hb, h2⟩
theorem Own2.left {W W' : World} {B B' i : Nat} {xs : List Nat} {vS : Value} {vs : List Value} (h : Own2 W B xs i vS vs) (hk : Lft W W' B') : Own2 W' B xs i vS vs :=
  h.kept fun g cur t x hg ht => hk.ty g cur t x hg (by rcases ht with rfl | rfl <;> decide)
theorem OneF.lkN {o : Option (List UInt8)} {L : List Ds.Fl} (h : OneF o L) : Ds.lk nN L = none ∧ Ds.lk [] L = none := by
  cases o with
  | none => have h : L = [] := h; subst h; exact ⟨rfl, rfl⟩
  | some b => obtain ⟨g, v, rfl⟩ := h; exact ⟨by simp [Ds.lk], by simp [Ds.lk]⟩
/-- What is read. -/
theorem OneF.rd {o : Option (List UInt8)} {L : List Ds.Fl} (h : OneF o L) : Ds.by_ (Ds.lk nM L) = o.getD [] ∧ Ds.fc (Ds.lk nM L) = if o.isSome then 0 else 5 := by
  cases o with
  | none => have h : L = [] := h; subst h; exact ⟨rfl, rfl⟩
  | some b => obtain ⟨g, v, rfl⟩ := h; exact ⟨by simp [Ds.lk, Ds.by_], by simp [Ds.lk, Ds.fc]⟩
/-- Behind an Append of the spare file: it stands last; synced and renamed it is the one. -/
theorem OneF.spare {o : Option (List UInt8)} {L : List Ds.Fl} (h : OneF o L) (t : List UInt8) (g : Nat) (v : Value) :
    Ds.lk nN (Ds.wth ⟨nN, t, 0, g, v⟩ L) = some ⟨nN, t, 0, g, v⟩ ∧
    Ds.synL nN (Ds.wth ⟨nN, t, 0, g, v⟩ L) = Ds.wth ⟨nN, t, t.length, g, v⟩ L ∧
    Ds.lk nN (Ds.wth ⟨nN, t, t.length, g, v⟩ L) = some ⟨nN, t, t.length, g, v⟩ ∧
    Ds.wth ⟨nM, t, t.length, g, v⟩ (Ds.wto nN (Ds.wto nM (Ds.wth ⟨nN, t, t.length, g, v⟩ L))) = [⟨nM, t, t.length, g, v⟩] ∧
    Ds.by_ (Ds.lk nM (Ds.wth ⟨nN, t, t.length, g, v⟩ L)) = o.getD [] ∧
    Ds.tot (Ds.wth ⟨nN, t, t.length, g, v⟩ L) = (o.getD []).length + t.length ∧ Ds.tot L = (o.getD []).length := by
  cases o with
  | none =>
    have h : L = [] := h
    subst h
    simp [Ds.lk, Ds.wth, Ds.synL, Ds.wto, Ds.by_, Ds.tot]
  | some b =>
    obtain ⟨g0, v0, rfl⟩ := h
    have h1 : ([109] : List UInt8) < [109, 46, 110, 101, 119] := by decide
    have h2 : ¬ ([109, 46, 110, 101, 119] : List UInt8) < [109, 46, 110, 101, 119] := by decide
    simp [Ds.lk, Ds.wth, Ds.synL, Ds.wto, Ds.by_, Ds.tot, h1, h2]

end Go.Proofs.YtnfnlfdplnekgaaDoor
