/-
  A disk in memory: the block with what is free and the map, the map of pointers to files, the files, the rows of their bytes.
  The contracts of disk.none, find, isName, Free, Synced, Read, Sync, New.
  The contracts of disk.New, Sync, drop, Remove.
  The contracts of disk.Remove and disk.Append.
  The contracts of disk.Append, as one, and of disk.Rename.
-/
import Derived.Test.YtpldfakfgngaaaaGreatDoorXMath
import Derived.Test.YtpldfakfgngaaaaGreatDoorDFn
import Derived.Maps.RangeWalk
import Derived.Sort.OwnSorted
import Derived.StringKeys
import Derived.Lib.AppendStr
import Derived.Deep.RegionHeld3
namespace Go.Proofs.YtpldfakfgngaaaaGreatDoor
open Go.RowKit
open Go.Maps (Keyed)

/-- How a pointer to a file reads, as a map's element. -/
def ptrElem : Value → Option (DataW Unit × List MemPlace)
  | .pointer none => some (.nil, [])
  | .pointer (some ⟨g, 0, none⟩) => some (.lit (.int .i64 g), [])
  | _ => none
def pv : Option Fl → Value
  | none => .pointer none
  | some f => .pointer (some ⟨f.g, 0, none⟩)
def pd : Option Fl → DataW Unit
  | none => .nil
  | some f => .lit (.int .i64 f.g)
theorem ptr_pv (o : Option Fl) : ptrElem (pv o) = some (pd o, []) := by cases o <;> rfl
theorem ptr_at (g : Nat) : ptrElem (.pointer (some ⟨g, 0, none⟩)) = some (.lit (.int .i64 g), []) := rfl
theorem ptr_inv {v : Value} {y : DataW Unit × List MemPlace} (h : ptrElem v = some y) : (v = .pointer none ∧ y = (.nil, [])) ∨ ∃ g : Nat, v = .pointer (some ⟨g, 0, none⟩) ∧ y = (.lit (.int .i64 g), []) := by
  unfold ptrElem at h
  split at h
  · cases h; exact Or.inl ⟨rfl, rfl⟩
  · cases h; exact Or.inr ⟨_, rfl, rfl⟩
  · cases h
theorem pv_of {v : Value} {o : Option Fl} {ps : List MemPlace} (h : ptrElem v = some (pd o, ps)) : v = pv o := by
  rcases ptr_inv h with ⟨rfl, h2⟩ | ⟨g, rfl, h2⟩
  · cases o
    · rfl
    · simp [pd] at h2
  · cases o with
    | none => simp [pd] at h2
    | some f =>
      simp [pd] at h2
      have e : f.g = g := by omega
      simp only [pv, e]

theorem keyT : Keyed Tryz.prog 9 := Maps.string_keyed Tryz.underlying9
theorem key_mk {s : List UInt8} (h : s.length ≤ maxLen) : keyOf Tryz.prog 9 (.string (bstr s)) = some (.string s) := by
  have := Go.WideMaps.keyOf_string_mk (P := Tryz.prog) (k := 9) (s := bstr s) Tryz.underlying9 (by rw [size_bstr]; exact h)
  rw [data_bstr] at this
  exact this
theorem zeroF (w : World) : (zeroValue 109).run Tryz.prog w = .ok (.pointer none) w := by kernel_rfl

/-- The map's entries are the files'. -/
def Mp (D : DataW Unit) (L : List Fl) : Prop := (∀ s, D.atKey (.string s) .nil = pd (lk s L)) ∧ ∀ s, Maps.has D (.string s) = (lk s L).isSome
theorem isKey (s : List UInt8) : WideAt.IsKeyLit (.string s) := by trivial
theorem str_ne {s t : List UInt8} (h : s ≠ t) : Lit.string s ≠ Lit.string t := fun e => h (by cases e; rfl)
theorem Mp.put {D : DataW Unit} {L : List Fl} (h : Mp D L) (hs : Srt L) (hD : Maps.IsMap D) (f : Fl) : Mp (D.put (.string f.name) (.lit (.int .i64 f.g))) (wth f L) := by
  refine ⟨fun s => ?_, fun s => ?_⟩
  · by_cases e : s = f.name
    · subst e
      rw [lk_wth_same hs, Maps.atKey_put_same hD (isKey _)]; rfl
    · rw [lk_wth_other hs e, Maps.atKey_put_other (str_ne e), h.1]
  · by_cases e : s = f.name
    · subst e
      rw [lk_wth_same hs, Maps.has_put_same hD (isKey _)]; rfl
    · rw [lk_wth_other hs e, Maps.has_put_other (str_ne e), h.2]
theorem Mp.del {D : DataW Unit} {L : List Fl} (h : Mp D L) (hs : Srt L) (t : List UInt8) : Mp (D.del (.string t)) (wto t L) := by
  refine ⟨fun s => ?_, fun s => ?_⟩
  · by_cases e : s = t
    · subst e
      rw [lk_wto_same, Maps.atKey_del_same]; rfl
    · rw [lk_wto_other hs e, Maps.atKey_del_other (str_ne e), h.1]
  · by_cases e : s = t
    · subst e
      rw [lk_wto_same, Maps.has_del_same]; rfl
    · rw [lk_wto_other hs e, Maps.has_del_other (str_ne e), h.2]
/-- A file that is put in its own place. -/
theorem Mp.same {D : DataW Unit} {L : List Fl} (h : Mp D L) (hs : Srt L) {f f' : Fl} (hf : lk f.name L = some f) (hn : f'.name = f.name) (hg : f'.g = f.g) : Mp D (wth f' L) := by
  refine ⟨fun s => ?_, fun s => ?_⟩
  · by_cases e : s = f'.name
    · subst e
      rw [lk_wth_same hs, h.1, hn, hf]
      simp only [pd, hg]
    · rw [lk_wth_other hs e, h.1]
  · by_cases e : s = f'.name
    · subst e
      rw [lk_wth_same hs, h.2, hn, hf]; rfl
    · rw [lk_wth_other hs e, h.2]

/-- A file lies there. -/
structure FlAt (w : World) (f : Fl) : Prop where
  blk : w.heap[f.g]? = some (.cells #[f.v, .int .i64 f.syn] 112 (0, 0))
  own : w.ownsRow 0 5 1 f.v f.bytes.length (Lib.byteCells f.bytes)
  syn : f.syn ≤ f.bytes.length
  nm : 0 < f.name.length ∧ f.name.length ≤ 64
/-- The blocks of a disk. -/
def Ft (d m : Nat) (L : List Fl) (i : Nat) : Prop := i = d ∨ i = m ∨ ∃ f ∈ L, i = f.g ∨ f.v.ownBlock = some i
/-- A disk of which so many bytes are free: in block d, its map in block m, the files L. -/
structure Dk (w : World) (d m : Nat) (L : List Fl) (fr N : Nat) : Prop where
  srt : Srt L
  blk : w.heap[d]? = some (.cells #[.int .i64 (fr : Int), .map (some m)] 108 (0, 0))
  mp : ∃ n D, n ≤ N ∧ w.ownsMap Tryz.prog 9 ptrElem m n D ∧ Mp D L
  fl : ∀ f ∈ L, FlAt w f
  apart : ∀ a ∈ L, ∀ b ∈ L, a.name ≠ b.name → a.g ≠ b.g ∧ (a.v.ownBlock = none ∨ a.v.ownBlock ≠ b.v.ownBlock)
  len : L.length ≤ N

theorem own_lt {w : World} {e : TypeId} {v : Value} {n : Nat} {xs : List Value} (h : w.ownsRow 0 e 1 v n xs) {i : Nat} (hi : v.ownBlock = some i) : ∃ cur, w.heap[i]? = some (.cells cur e (0, 0)) := by
  rcases h.2 with ⟨rfl, _⟩ | ⟨g, cap, cur, rfl, _, hg, _⟩
  · cases hi
  · cases hi; exact ⟨cur, hg⟩
theorem FlAt.kept {w w' : World} {f : Fl} (h : FlAt w f) (h1 : w'.heap[f.g]? = w.heap[f.g]?) (h2 : ∀ i, f.v.ownBlock = some i → w'.heap[i]? = w.heap[i]?) : FlAt w' f := by
  refine ⟨h1.trans h.blk, ⟨h.own.1, ?_⟩, h.syn, h.nm⟩
  rcases h.own.2 with a | ⟨g, cap, cur, a1, a2, a3, a4⟩
  · exact Or.inl a
  · exact Or.inr ⟨g, cap, cur, a1, a2, (h2 g (by rw [a1]; rfl)).trans a3, a4⟩
theorem owns_kept {P : Program} {k : TypeId} {R : Value → Option (DataW Unit × List MemPlace)} {w w' : World} {b n : Nat} {D : DataW Unit} (h : w.ownsMap P k R b n D) (hb : w'.heap[b]? = w.heap[b]?) : w'.ownsMap P k R b n D := by
  obtain ⟨es, clock, h1, h2⟩ := h
  exact ⟨es, clock, hb.trans h1, h2⟩
theorem Dk.kept {w w' : World} {d m fr N : Nat} {L : List Fl} (h : Dk w d m L fr N) (hb : ∀ i, Ft d m L i → w'.heap[i]? = w.heap[i]?) : Dk w' d m L fr N := by
  obtain ⟨n, D, h1, h2, h3⟩ := h.mp
  exact ⟨h.srt, (hb d (Or.inl rfl)).trans h.blk, ⟨n, D, h1, owns_kept h2 (hb m (Or.inr (Or.inl rfl))), h3⟩,
    fun f hf => (h.fl f hf).kept (hb _ (Or.inr (Or.inr ⟨f, hf, Or.inl rfl⟩))) (fun i hi => hb i (Or.inr (Or.inr ⟨f, hf, Or.inr hi⟩))), h.apart, h.len⟩
theorem Dk.drew {w : World} {d m fr N : Nat} {L : List Fl} (h : Dk w d m L fr N) : Dk w.drew d m L fr N := h.kept fun _ _ => rfl
theorem Dk.mono {w : World} {d m fr N N' : Nat} {L : List Fl} (h : Dk w d m L fr N) (hN : N ≤ N') : Dk w d m L fr N' := by
  obtain ⟨n, D, h1, h2, h3⟩ := h.mp
  exact ⟨h.srt, h.blk, ⟨n, D, Nat.le_trans h1 hN, h2, h3⟩, h.fl, h.apart, Nat.le_trans h.len hN⟩
/-- What each block of a disk is. -/
theorem Dk.what {w : World} {d m fr N : Nat} {L : List Fl} (h : Dk w d m L fr N) {i : Nat} (hi : Ft d m L i) :
    (∃ es c, w.heap[i]? = some (.map es c)) ∨ ∃ cur t, w.heap[i]? = some (.cells cur t (0, 0)) ∧ (t = 108 ∨ t = 112 ∨ t = 5) := by
  rcases hi with rfl | rfl | ⟨f, hf, rfl | e⟩
  · exact Or.inr ⟨_, _, h.blk, Or.inl rfl⟩
  · obtain ⟨n, D, _, ⟨es, c, hb, _⟩, _⟩ := h.mp
    exact Or.inl ⟨es, c, hb⟩
  · exact Or.inr ⟨_, _, (h.fl f hf).blk, Or.inr (Or.inl rfl)⟩
  · obtain ⟨cur, hc⟩ := own_lt (h.fl f hf).own e
    exact Or.inr ⟨_, _, hc, Or.inr (Or.inr rfl)⟩
theorem Dk.lt {w : World} {d m fr N : Nat} {L : List Fl} (h : Dk w d m L fr N) {i : Nat} (hi : Ft d m L i) : i < w.heap.size := by
  rcases h.what hi with ⟨es, c, e⟩ | ⟨cur, t, e, _⟩ <;> exact (Array.getElem?_eq_some_iff.1 e).1
theorem Dk.other {w : World} {d m fr N : Nat} {L : List Fl} (h : Dk w d m L fr N) {j : Nat} {cur : Array Value} {t : TypeId} {x : Nat × Nat} (hj : w.heap[j]? = some (.cells cur t x))
    (ht : t ≠ 108 ∧ t ≠ 112 ∧ t ≠ 5) : ¬ Ft d m L j := fun hi => by
  rcases h.what hi with ⟨es, c, e⟩ | ⟨cur', t', e, k⟩
  · rw [e] at hj; cases hj
  · rw [e] at hj
    cases hj
    rcases k with k | k | k
    · exact ht.1 k
    · exact ht.2.1 k
    · exact ht.2.2 k
theorem Dk.below {w w' : World} {d m fr N : Nat} {L : List Fl} (h : Dk w d m L fr N) (hb : Below w.heap.size w w') : Dk w' d m L fr N := h.kept fun i hi => hb.block i (h.lt hi)
theorem Dk.ne {w : World} {d m fr N : Nat} {L : List Fl} (h : Dk w d m L fr N) : d ≠ m := fun e => by
  obtain ⟨n, D, _, ⟨es, c, hb, _⟩, _⟩ := h.mp
  rw [← e, h.blk] at hb
  cases hb
theorem Dk.ne_file {w : World} {d m fr N : Nat} {L : List Fl} (h : Dk w d m L fr N) {f : Fl} (hf : f ∈ L) : f.g ≠ d ∧ f.g ≠ m ∧ (∀ x ∈ L, x.v.ownBlock ≠ some f.g) := by
  refine ⟨fun e => ?_, fun e => ?_, fun x hx e => ?_⟩
  · have := (h.fl f hf).blk
    rw [e, h.blk] at this
    simp at this
  · obtain ⟨n, D, _, ⟨es, c, hb, _⟩, _⟩ := h.mp
    rw [← e, (h.fl f hf).blk] at hb
    cases hb
  · obtain ⟨cur, hc⟩ := own_lt (h.fl x hx).own e
    rw [(h.fl f hf).blk] at hc
    simp at hc
theorem Dk.ne_row {w : World} {d m fr N : Nat} {L : List Fl} (h : Dk w d m L fr N) {f : Fl} (hf : f ∈ L) : f.v.ownBlock ≠ some d ∧ f.v.ownBlock ≠ some m := by
  refine ⟨fun e => ?_, fun e => ?_⟩
  · obtain ⟨cur, hc⟩ := own_lt (h.fl f hf).own e
    rw [h.blk] at hc
    simp at hc
  · obtain ⟨cur, hc⟩ := own_lt (h.fl f hf).own e
    obtain ⟨n, D, _, ⟨es, c, hb, _⟩, _⟩ := h.mp
    rw [hb] at hc
    cases hc

/-- 'd.files[name]'. -/
theorem Dk.look {w : World} {d m fr N : Nat} {L : List Fl} (h : Dk w d m L fr N) {s : List UInt8} (hl : s.length ≤ maxLen) :
    (Instr.lookup 106 (.map (some m)) (.string (bstr s)) false).run Tryz.prog w = .ok (pv (lk s L)) w := by
  obtain ⟨n, D, _, h2, h3⟩ := h.mp
  obtain ⟨v, ps, hr, hv⟩ := h2.lookup keyT Tryz.underlying106 (zeroF w) (zd := .nil) (zp := []) rfl (key_mk hl)
  rw [h3.1] at hv
  rw [hr, pv_of hv]

/-- What a call leaves as it was: all but the blocks of which S speaks, and new ones. -/
structure Kp (w w' : World) (S : Nat → Prop) : Prop where
  os : w'.os = w.os
  tape : w'.tape = w.tape
  output : w'.output = w.output
  size : w.heap.size ≤ w'.heap.size
  block : ∀ i, i < w.heap.size → ¬ S i → w'.heap[i]? = w.heap[i]?
theorem Kp.refl (w : World) (S : Nat → Prop) : Kp w w S := ⟨rfl, rfl, rfl, Nat.le_refl _, fun _ _ _ => rfl⟩
theorem Kp.trans {a b c : World} {S S' : Nat → Prop} (h : Kp a b S) (k : Kp b c S') (hS : ∀ i, S' i → S i ∨ a.heap.size ≤ i) : Kp a c S :=
  ⟨k.os.trans h.os, k.tape.trans h.tape, k.output.trans h.output, Nat.le_trans h.size k.size, fun i hi hn => (k.block i (Nat.lt_of_lt_of_le hi h.size) (fun hs => by
    rcases hS i hs with a | a
    · exact hn a
    · omega)).trans (h.block i hi hn)⟩
theorem Kp.mono {a b : World} {S S' : Nat → Prop} (h : Kp a b S) (hS : ∀ i, S i → S' i ∨ a.heap.size ≤ i) : Kp a b S' :=
  ⟨h.os, h.tape, h.output, h.size, fun i hi hn => h.block i hi (fun hs => by
    rcases hS i hs with a | a
    · exact hn a
    · omega)⟩
theorem Kp.of_grown {w w' : World} {k : Nat} {S : Nat → Prop} (h : w.grownBy w' (some k)) (hk : S k) : Kp w w' S :=
  ⟨h.os, h.tape, h.output, h.size, fun i hi hn => h.block i hi (fun e => hn (by cases e; exact hk))⟩
theorem Kp.of_grown' {w w' : World} {r : Option Nat} {S : Nat → Prop} (h : w.grownBy w' r) (hk : ∀ k, r = some k → S k) : Kp w w' S :=
  ⟨h.os, h.tape, h.output, h.size, fun i hi hn => h.block i hi (fun e => hn (hk i e.symm))⟩
theorem Kp.drew {w w' : World} {S : Nat → Prop} (h : Kp w w' S) : Kp w w'.drew S := ⟨h.os, h.tape, h.output, h.size, h.block⟩
theorem Kp.of_below {w w' : World} (S : Nat → Prop) (h : Below w.heap.size w w') : Kp w w' S := ⟨h.os, h.tape, h.output, h.size, fun i hi _ => h.block i hi⟩
theorem Kp.below {w w' : World} {S : Nat → Prop} {B : Nat} (h : Kp w w' S) (hB : B ≤ w.heap.size) (hS : ∀ i, S i → B ≤ i) : Below B w w' :=
  ⟨h.os, h.tape, h.output, h.size, fun k hk => h.block k (by omega) (fun hs => by have := hS k hs; omega)⟩

/-- A file is written in its place: f' for f. -/
theorem Dk.write {w w' : World} {d m fr N : Nat} {L : List Fl} (h : Dk w d m L fr N) {f f' : Fl} (hf : lk f.name L = some f) (hn : f'.name = f.name) (hg : f'.g = f.g) (hF : FlAt w' f')
    (hrow : f'.v.ownBlock = none ∨ f'.v.ownBlock = f.v.ownBlock ∨ ∃ k, f'.v.ownBlock = some k ∧ w.heap.size ≤ k)
    (hk : ∀ i, i < w.heap.size → i ≠ f.g → f.v.ownBlock ≠ some i → i ≠ d → w'.heap[i]? = w.heap[i]?)
    {fr' : Nat} (hd : w'.heap[d]? = some (.cells #[.int .i64 (fr' : Int), .map (some m)] 108 (0, 0))) : Dk w' d m (wth f' L) fr' N := by
  obtain ⟨hm, _⟩ := lk_some hf
  obtain ⟨n, D, h1, h2, h3⟩ := h.mp
  have hq : ∀ x ∈ L, x.name ≠ f.name → w'.heap[x.g]? = w.heap[x.g]? ∧ ∀ i, x.v.ownBlock = some i → w'.heap[i]? = w.heap[i]? := by
    intro x hx hne
    obtain ⟨a1, a2⟩ := h.apart x hx f hm hne
    refine ⟨hk _ (h.lt (Or.inr (Or.inr ⟨x, hx, Or.inl rfl⟩))) a1 ((h.ne_file hx).2.2 f hm) (h.ne_file hx).1, fun i hi => ?_⟩
    refine hk i (h.lt (Or.inr (Or.inr ⟨x, hx, Or.inr hi⟩))) (fun e => (h.ne_file hm).2.2 x hx (e ▸ hi)) (fun e => ?_) (fun e => (h.ne_row hx).1 (e ▸ hi))
    rcases a2 with a2 | a2
    · rw [a2] at hi; cases hi
    · exact a2 (hi.trans e.symm)
  refine ⟨wth_srt h.srt, hd, ⟨n, D, h1, owns_kept h2 ?_, h3.same h.srt hf hn hg⟩, fun x hx => ?_, ?_, ?_⟩
  · exact hk m (h.lt (Or.inr (Or.inl rfl))) (fun e => (h.ne_file hm).2.1 e.symm) (h.ne_row hm).2 (fun e => h.ne e.symm)
  · rcases (wth_mem h.srt).1 hx with rfl | ⟨hx, hne⟩
    · exact hF
    · rw [hn] at hne
      exact (h.fl x hx).kept (hq x hx hne).1 (hq x hx hne).2
  · have key : ∀ x ∈ L, x.name ≠ f.name → x.g ≠ f'.g ∧ (x.v.ownBlock = none ∨ x.v.ownBlock ≠ f'.v.ownBlock) ∧ (f'.v.ownBlock = none ∨ f'.v.ownBlock ≠ x.v.ownBlock) := by
      intro x hx hne
      obtain ⟨a1, a2⟩ := h.apart x hx f hm hne
      refine ⟨by rw [hg]; exact a1, ?_⟩
      rcases hrow with e | e | ⟨k, e, hk2⟩
      · rw [e]
        refine ⟨?_, Or.inl rfl⟩
        cases x.v.ownBlock <;> simp
      · rw [e]
        refine ⟨a2, ?_⟩
        rcases a2 with a2 | a2
        · rw [a2]
          cases f.v.ownBlock <;> simp
        · exact Or.inr (fun e => a2 e.symm)
      · rw [e]
        have hne2 : x.v.ownBlock ≠ some k := fun e2 => by
          have := h.lt (Or.inr (Or.inr ⟨x, hx, Or.inr e2⟩))
          omega
        exact ⟨Or.inr hne2, Or.inr (fun e => hne2 e.symm)⟩
    intro a ha b hb hab
    rcases (wth_mem h.srt).1 ha with rfl | ⟨ha2, hna⟩ <;> rcases (wth_mem h.srt).1 hb with rfl | ⟨hb2, hnb⟩
    · exact absurd rfl hab
    · rw [hn] at hnb
      obtain ⟨k1, k2, k3⟩ := key b hb2 hnb
      exact ⟨fun e => k1 e.symm, k3⟩
    · rw [hn] at hna
      obtain ⟨k1, k2, k3⟩ := key a ha2 hna
      exact ⟨k1, k2⟩
    · exact h.apart a ha2 b hb2 hab
  · rw [len_wth_old h.srt (by rw [hn]; exact hf)]
    exact h.len
/-- The blocks behind such a write. -/
theorem Ft.write {w : World} {d m : Nat} {L : List Fl} {f f' : Fl} (hs : Srt L) (hf : lk f.name L = some f) (hg : f'.g = f.g)
    (hrow : f'.v.ownBlock = none ∨ f'.v.ownBlock = f.v.ownBlock ∨ ∃ k, f'.v.ownBlock = some k ∧ w.heap.size ≤ k) {i : Nat} (hi : Ft d m (wth f' L) i) : Ft d m L i ∨ w.heap.size ≤ i := by
  obtain ⟨hm, _⟩ := lk_some hf
  rcases hi with rfl | rfl | ⟨x, hx, hi⟩
  · exact Or.inl (Or.inl rfl)
  · exact Or.inl (Or.inr (Or.inl rfl))
  · rcases (wth_mem hs).1 hx with rfl | ⟨hx, _⟩
    · rcases hi with rfl | hi
      · exact Or.inl (Or.inr (Or.inr ⟨f, hm, Or.inl hg⟩))
      · rcases hrow with e | e | ⟨k, e, hk2⟩
        · rw [e] at hi; cases hi
        · exact Or.inl (Or.inr (Or.inr ⟨f, hm, Or.inr (e ▸ hi)⟩))
        · rw [e] at hi; cases hi; exact Or.inr hk2
    · exact Or.inl (Or.inr (Or.inr ⟨x, hx, hi⟩))

/-- A file is put to the others. -/
theorem Dk.add {w w' : World} {d m fr N : Nat} {L : List Fl} (h : Dk w d m L fr N) (f : Fl) (hf : lk f.name L = none) (hF : FlAt w f) (hap : ∀ x ∈ L, f.g ≠ x.g ∧ (f.v.ownBlock = none ∨ f.v.ownBlock ≠ x.v.ownBlock))
    (ht : w.mapTurned w' m) (hm : ∃ n D, n ≤ N + 1 ∧ w'.ownsMap Tryz.prog 9 ptrElem m n D ∧ Mp D (wth f L)) : Dk w' d m (wth f L) fr (N + 1) := by
  have hg := ht.grown
  have hmap : ∃ es c, w.heap[m]? = some (.map es c) := by
    obtain ⟨n, D, _, ⟨es, c, hb, _⟩, _⟩ := h.mp
    exact ⟨es, c, hb⟩
  obtain ⟨es, c, hmb⟩ := hmap
  have hk : ∀ (i : Nat) (cur : Array Value) (t : TypeId), w.heap[i]? = some (.cells cur t (0, 0)) → w'.heap[i]? = w.heap[i]? := fun i cur t hi => hg.block i (Array.getElem?_eq_some_iff.1 hi).1 (fun e => by
    cases e
    rw [hmb] at hi
    cases hi)
  refine ⟨wth_srt h.srt, (hk d _ _ h.blk).trans h.blk, hm, fun x hx => ?_, ?_, ?_⟩
  · have hx' : FlAt w x := by
      rcases (wth_mem h.srt).1 hx with rfl | ⟨hx, _⟩
      · exact hF
      · exact h.fl x hx
    refine hx'.kept (hk _ _ _ hx'.blk) (fun i hi => ?_)
    obtain ⟨cur, hc⟩ := own_lt hx'.own hi
    exact hk i _ _ hc
  · intro a ha b hb hab
    rcases (wth_mem h.srt).1 ha with rfl | ⟨ha2, hna⟩ <;> rcases (wth_mem h.srt).1 hb with rfl | ⟨hb2, hnb⟩
    · exact absurd rfl hab
    · exact hap b hb2
    · obtain ⟨k1, k2⟩ := hap a ha2
      refine ⟨fun e => k1 e.symm, ?_⟩
      rcases k2 with k2 | k2
      · rw [k2]; cases a.v.ownBlock <;> simp
      · exact Or.inr (fun e => k2 e.symm)
    · exact h.apart a ha2 b hb2 hab
  · exact Nat.le_trans (len_wth f L) (Nat.succ_le_succ h.len)
/-- A file is taken out. -/
theorem Dk.del {w w' : World} {d m fr N : Nat} {L : List Fl} (h : Dk w d m L fr N) (s : List UInt8) (ht : w.mapTurned w' m) (hm : ∃ n D, n ≤ N ∧ w'.ownsMap Tryz.prog 9 ptrElem m n D ∧ Mp D (wto s L)) : Dk w' d m (wto s L) fr N := by
  have hg := ht.grown
  have hmap : ∃ es c, w.heap[m]? = some (.map es c) := by
    obtain ⟨n, D, _, ⟨es, c, hb, _⟩, _⟩ := h.mp
    exact ⟨es, c, hb⟩
  obtain ⟨es, c, hmb⟩ := hmap
  have hk : ∀ (i : Nat) (cur : Array Value) (t : TypeId), w.heap[i]? = some (.cells cur t (0, 0)) → w'.heap[i]? = w.heap[i]? := fun i cur t hi => hg.block i (Array.getElem?_eq_some_iff.1 hi).1 (fun e => by
    cases e
    rw [hmb] at hi
    cases hi)
  refine ⟨wto_srt h.srt, (hk d _ _ h.blk).trans h.blk, hm, fun x hx => ?_, fun a ha b hb hab => h.apart a (wto_mem.1 ha).1 b (wto_mem.1 hb).1 hab, Nat.le_trans (len_wto s L) h.len⟩
  have hx' := h.fl x (wto_mem.1 hx).1
  refine hx'.kept (hk _ _ _ hx'.blk) (fun i hi => ?_)
  obtain ⟨cur, hc⟩ := own_lt hx'.own hi
  exact hk i _ _ hc
theorem Ft.add {d m : Nat} {L : List Fl} {f : Fl} (hs : Srt L) {i : Nat} (hi : Ft d m (wth f L) i) : Ft d m L i ∨ i = f.g ∨ f.v.ownBlock = some i := by
  rcases hi with rfl | rfl | ⟨x, hx, hi⟩
  · exact Or.inl (Or.inl rfl)
  · exact Or.inl (Or.inr (Or.inl rfl))
  · rcases (wth_mem hs).1 hx with rfl | ⟨hx, _⟩
    · exact Or.inr hi
    · exact Or.inl (Or.inr (Or.inr ⟨x, hx, hi⟩))
theorem Ft.del {d m : Nat} {L : List Fl} {s : List UInt8} {i : Nat} (hi : Ft d m (wto s L) i) : Ft d m L i := by
  rcases hi with rfl | rfl | ⟨x, hx, hi⟩
  · exact Or.inl rfl
  · exact Or.inr (Or.inl rfl)
  · exact Or.inr (Or.inr ⟨x, (wto_mem.1 hx).1, hi⟩)
theorem Dk.free {w w' : World} {d m fr fr' N : Nat} {L : List Fl} (h : Dk w d m L fr N) (hd : w'.heap[d]? = some (.cells #[.int .i64 (fr' : Int), .map (some m)] 108 (0, 0)))
    (hk : ∀ i, i < w.heap.size → i ≠ d → w'.heap[i]? = w.heap[i]?) : Dk w' d m L fr' N := by
  obtain ⟨n, D, h1, h2, h3⟩ := h.mp
  exact ⟨h.srt, hd, ⟨n, D, h1, owns_kept h2 (hk m (h.lt (Or.inr (Or.inl rfl))) (fun e => h.ne e.symm)), h3⟩,
    fun f hf => (h.fl f hf).kept (hk _ (h.lt (Or.inr (Or.inr ⟨f, hf, Or.inl rfl⟩))) (h.ne_file hf).1) (fun i hi => hk i (h.lt (Or.inr (Or.inr ⟨f, hf, Or.inr hi⟩))) (fun e => (h.ne_row hf).1 (e ▸ hi))), h.apart, h.len⟩

/-- 'd.files[name] = f'. -/
theorem Dk.stores {w : World} {d m fr N : Nat} {L : List Fl} (h : Dk w d m L fr N) (f : Fl) (hN : N < maxLen) (hl : f.name.length ≤ maxLen) :
    ∃ w', (Instr.mapUpdate 106 (.map (some m)) (.string (bstr f.name)) (.pointer (some ⟨f.g, 0, none⟩))).run Tryz.prog w = .ok () w' ∧ w.mapTurned w' m ∧ ∃ n D, n ≤ N + 1 ∧ w'.ownsMap Tryz.prog 9 ptrElem m n D ∧ Mp D (wth f L) := by
  obtain ⟨n, D, h1, h2, h3⟩ := h.mp
  obtain ⟨w', hrun, r1, r2⟩ := h2.store keyT Tryz.underlying106 (Nat.lt_of_le_of_lt h1 hN) (key_mk hl) (ptr_at f.g)
  exact ⟨w', hrun, r2, n + 1, _, Nat.succ_le_succ h1, r1, h3.put h.srt h2.isMap f⟩
/-- 'd.files[name] = f', at a step of a region that draws its order. -/
theorem step_store {w : World} {ops : Array Oper} {o : Oper} {a : Act} {K : Act → World → Prop} {Q : Exit → Act → World → Prop} {E : Prop} {d m fr N : Nat} {L : List Fl} (h : Dk w d m L fr N) (f : Fl)
    (hgd : o.guard = none) (mm x v : Operand) (ho : o.op = Op.mapUpdate 106 mm x v) (hm : a.eval mm = .map (some m)) (hx : a.eval x = .string (bstr f.name)) (hv : a.eval v = .pointer (some ⟨f.g, 0, none⟩))
    (hN : N < maxLen) (hl : f.name.length ≤ maxLen)
    (hK : ∀ w', w.mapTurned w' m → (∃ n D, n ≤ N + 1 ∧ w'.ownsMap Tryz.prog 9 ptrElem m n D ∧ Mp D (wth f L)) → K (a.put o.dst undef) w') :
    if Region.wanted o (yielded ops a.tmps) = true then Oper.wp Tryz.prog o a w K Q else E := by
  have hw : Region.wanted o (yielded ops a.tmps) = true := by simp [Region.wanted, hgd]
  rw [if_pos hw]
  obtain ⟨n, D, h1, h2, h3⟩ := h.mp
  obtain ⟨w', hrun, r1, r2⟩ := h2.store keyT Tryz.underlying106 (Nat.lt_of_le_of_lt h1 hN) (key_mk hl) (ptr_at f.g)
  unfold Oper.wp
  simp [execOp, ho, hm, hx, hv, hrun, Result.andThen]
  exact hK w' r2 ⟨n + 1, _, Nat.succ_le_succ h1, r1, h3.put h.srt h2.isMap f⟩
/-- 'delete(d.files, name)', in a list of operations. -/
theorem wpList_del {w : World} {ops : Array Oper} {rest : List Oper} {o : Oper} {a : Act} {Q : Exit → Act → World → Prop} {d m fr N : Nat} {L : List Fl} (h : Dk w d m L fr N) (s : List UInt8)
    (hgd : o.guard = none) (mm x : Operand) (ho : o.op = Op.call { callee := Callee.builtin Builtin.delete, args := #[mm, x], argTypes := #[106, 9] }) (hm : a.eval mm = .map (some m)) (hx : a.eval x = .string (bstr s))
    (hl : s.length ≤ maxLen)
    (hK : ∀ w', w.mapTurned w' m → Dk w' d m (wto s L) fr N → wpList Tryz.prog ops Q rest (a.put o.dst (.tuple #[])) w') :
    wpList Tryz.prog ops Q (o :: rest) a w := by
  obtain ⟨n, D, h1, h2, h3⟩ := h.mp
  exact wpList_delete_own w hgd mm x _ _ ho 109 keyT Tryz.underlying106 ptrElem m n D hm h2 _ _ hx (key_mk hl) (fun w' r1 r2 => hK w' r2 (h.del s r2 ⟨n, _, h1, r1, h3.del h.srt s⟩))

/-- 'append(f.data, data...)': where the new slice lies. -/
theorem append_str_at {P : Program} {w w' : World} {base : Nat} {t u ty e : TypeId} {i : TypeInfo} (ht : P.underlying t = some (.slice e)) (hu : P.underlying u = some .string) (hi : P.info? e = some i) (hz : i.zero = some (.int .u8 0))
    (hsize : i.size = 1) (hby : i.bytes = 1) {v v' : Value} {n : Nat} {xs : List Value} (hown : w.ownsRow base e 1 v n xs) {s : ByteArray} (h63 : n + s.size ≤ maxLen) (hbytes : n + s.size ≤ 140737488355328)
    (hr : (Builtin.append_ #[t, u] ty #[v, .string s]).run P w = .ok v' w') (hnil : v' = .slice none 0 0 ↔ v = .slice none 0 0 ∧ s.size = 0) : v'.ownBlock = none ∨ v'.ownBlock = v.ownBlock ∨ v'.ownBlock = some w.heap.size := by
  have hsmall : n + s.size ≤ 9223372036854775807 := by simp only [maxLen] at h63; omega
  have hxl : xs.length = n := by simpa using hown.1
  rcases hown.2 with ⟨rfl, rfl⟩ | ⟨g, cap, cur, rfl, hbg, hg, hnc, hcm, hcs, htake⟩
  · by_cases hm : s.size = 0
    · rw [hnil.2 ⟨rfl, hm⟩]
      exact Or.inl rfl
    · have hr2 := run_append_nil_string (P := P) w t u ty e i (.int .u8 0) ht hu hi hz s (by omega) (by omega) (by rw [hby]; omega)
      rw [hr2] at hr
      cases hr
      exact Or.inr (Or.inr rfl)
  · by_cases hroom : n + s.size ≤ cap
    · have hcs' : cur.size = cap := by simpa using hcs
      have hr2 := Lib.run_append_room_string (P := P) w t u ty e i ht hu hi hsize g n cap cur hg s hroom (by omega)
      rw [hr2] at hr
      cases hr
      exact Or.inr (Or.inl rfl)
    · have holds : ∀ j u, xs[j]? = some u → w.cell? ((⟨g, 0, none⟩ : Addr).add j) = some u := hown.cells (g := g) rfl
      have hr2 := Lib.run_append_grow_string (P := P) w t u ty e i (.int .u8 0) ht hu hi hz ⟨g, 0, none⟩ n cap xs (by rw [hsize]; simpa using hxl) holds s (by omega) (by omega) (by rw [hby]; exact growslice_fits (by omega) (by omega))
      rw [hr2] at hr
      cases hr
      exact Or.inr (Or.inr rfl)
theorem wpList_app {P : Program} {w : World} {ops : Array Oper} {rest : List Oper} {o : Oper} {a : Act} {Q : Exit → Act → World → Prop} (hgd : o.guard = none) (sl x : Operand) (t u : TypeId)
    (ho : o.op = .call { callee := .builtin .append, args := #[sl, x], argTypes := #[t, u] }) (e : TypeId) (i : TypeInfo) (ht : P.underlying t = some (.slice e)) (hu : P.underlying u = some .string) (hi : P.info? e = some i) (hz : i.zero = some (.int .u8 0))
    (hsize : i.size = 1) (hby : i.bytes = 1) (v : Value) (l b : List UInt8) (hs : a.eval sl = v) (hown : w.ownsRow 0 e 1 v l.length (Lib.byteCells l)) (hx : a.eval x = .string (bstr b)) (hbytes : l.length + b.length ≤ 140737488355328)
    (h : ∀ v' w', w'.ownsRow 0 e 1 v' (l ++ b).length (Lib.byteCells (l ++ b)) → w.grownBy w' v.ownBlock → (v'.ownBlock = none ∨ v'.ownBlock = v.ownBlock ∨ ∃ k, v'.ownBlock = some k ∧ w.heap.size ≤ k) → wpList P ops Q rest (a.put o.dst v') w') : wpList P ops Q (o :: rest) a w := by
  refine wpList_plain hgd fun K hK => ?_
  have h63 : l.length + (bstr b).size ≤ maxLen := by rw [size_bstr]; unfold maxLen; omega
  have h48 : l.length + (bstr b).size ≤ 140737488355328 := by rw [size_bstr]; exact hbytes
  obtain ⟨v', w', hr, h2, h3, h4⟩ := Lib.run_append_own_string (P := P) w 0 t u o.type e i ht hu hi hz hsize hby v l.length (Lib.byteCells l) hown (bstr b) h63 h48 (Nat.zero_le _)
  have h5 := append_str_at (P := P) ht hu hi hz hsize hby hown h63 h48 hr h4
  unfold Oper.wp execOp
  simp only [ho, resolve, invoke, builtin, Sem.run_bind, Sem.run_pure, Result.andThen_ok, List.map_toArray, List.map_cons, List.map_nil, hs, hx, hr]
  refine hK _ _ (h v' w' ?_ h3 ?_)
  · rw [strCells_eq, data_bstr, ← byteCells_append, size_bstr] at h2
    rw [List.length_append]
    exact h2
  · rcases h5 with h5 | h5 | h5
    · exact Or.inl h5
    · exact Or.inr (Or.inl h5)
    · exact Or.inr (Or.inr ⟨_, h5, Nat.le_refl _⟩)

end Go.Proofs.YtpldfakfgngaaaaGreatDoor

namespace Go.Proofs.YtpldfakfgngaaaaGreatDoor
open Go.RowKit

set_option maxHeartbeats 1000000 in
theorem none_any {d m fr N : Nat} {L : List Fl} (w : World) (h : Dk w d m L fr N) :
    Calls Tryz.prog 65 #[.pointer (some ⟨d, 0, none⟩)] w fun e w' => e = .returned (.bool false) ∧ w' = w := by
  have c1 : w.cell? ⟨d, 1, none⟩ = some (.map (some m)) := (cells_block h.blk).1 1
  clear h
  have qT : ∀ (w : World) (r : Option Nat), (binOp .eql 106 (.map r) (.map none)).run Tryz.prog w = .ok (.bool r.isNone) w := fun w r => run_eql_map_nil w _ _ _ r Tryz.underlying106
  go_enter Tryz.func65, Tryz.ntmps65
  go_wp2
  go_ret
  exact ⟨rfl, rfl⟩

set_option maxHeartbeats 1000000 in
theorem none_nil (w : World) :
    Calls Tryz.prog 65 #[.pointer none] w fun e w' => e = .returned (.bool true) ∧ w' = w := by
  go_enter Tryz.func65, Tryz.ntmps65
  go_wp2
  go_ret
  exact ⟨rfl, rfl⟩

set_option maxHeartbeats 1000000 in
theorem none_zero (d : Nat) (w : World) (c1 : w.cell? ⟨d, 1, none⟩ = some (.map none)) :
    Calls Tryz.prog 65 #[.pointer (some ⟨d, 0, none⟩)] w fun e w' => e = .returned (.bool true) ∧ w' = w := by
  have qT : ∀ (w : World) (r : Option Nat), (binOp .eql 106 (.map r) (.map none)).run Tryz.prog w = .ok (.bool r.isNone) w := fun w r => run_eql_map_nil w _ _ _ r Tryz.underlying106
  go_enter Tryz.func65, Tryz.ntmps65
  go_wp2
  go_ret
  exact ⟨rfl, rfl⟩

/-- Is it a name? -/
def okN (s : List UInt8) : Bool := decide (0 < s.length) && decide (s.length ≤ 64)
set_option maxHeartbeats 1000000 in
theorem isName_any (s : List UInt8) (w : World) :
    Calls Tryz.prog 66 #[.string (bstr s)] w fun e w' => e = .returned (.bool (okN s)) ∧ w' = w := by
  have e1 : (bstr s).size = s.length := size_bstr s
  unfold okN
  by_cases h1 : 0 < s.length
  · by_cases h2 : s.length ≤ 64
    · go_enter Tryz.func66, Tryz.ntmps66
      go_wp2
      go_ret
      exact ⟨by simp [h1, h2]; omega, rfl⟩
    · go_enter Tryz.func66, Tryz.ntmps66
      go_wp2
      go_ret
      exact ⟨by simp [h2]; omega, rfl⟩
  · go_enter Tryz.func66, Tryz.ntmps66
    go_wp2
    go_ret
    exact ⟨by simp [h1], rfl⟩

/-- What find answers. -/
def fc : Option Fl → Int
  | none => 5
  | some _ => 0
set_option maxHeartbeats 1000000 in
theorem find_any {d m fr N : Nat} {L : List Fl} (s : List UInt8) (w : World) (h : Dk w d m L fr N) (hl : s.length ≤ maxLen) :
    Calls Tryz.prog 68 #[.pointer (some ⟨d, 0, none⟩), .string (bstr s)] w fun e w' => e = .returned (.tuple #[pv (lk s L), .int .i64 (fc (lk s L))]) ∧ w' = w := by
  have hlk := h.look hl
  have hn := none_any w h
  have c1 : w.cell? ⟨d, 1, none⟩ = some (.map (some m)) := (cells_block h.blk).1 1
  clear h
  cases e : lk s L with
  | none =>
    rw [e] at hlk
    simp only [pv] at hlk ⊢
    go_enter Tryz.func68, Tryz.ntmps68
    go_wp2_with fail
    refine hn.mono ?_
    rintro e w1 ⟨rfl, rfl⟩
    go_wp2
    go_ret2
    exact ⟨rfl, rfl⟩
  | some f =>
    rw [e] at hlk
    simp only [pv] at hlk ⊢
    go_enter Tryz.func68, Tryz.ntmps68
    go_wp2_with fail
    refine hn.mono ?_
    rintro e w1 ⟨rfl, rfl⟩
    go_wp2
    go_ret2
    exact ⟨rfl, rfl⟩

set_option maxHeartbeats 1000000 in
theorem find_nil (s : List UInt8) (w : World) :
    Calls Tryz.prog 68 #[.pointer none, .string (bstr s)] w fun e w' => e = .returned (.tuple #[.pointer none, .int .i64 1]) ∧ w' = w := by
  go_enter Tryz.func68, Tryz.ntmps68
  go_wp2_with fail
  refine (none_nil _).mono ?_
  rintro e w1 ⟨rfl, rfl⟩
  go_wp2
  go_ret2
  exact ⟨rfl, rfl⟩

set_option maxHeartbeats 1000000 in
theorem find_zero (d : Nat) (s : List UInt8) (w : World) (c1 : w.cell? ⟨d, 1, none⟩ = some (.map none)) :
    Calls Tryz.prog 68 #[.pointer (some ⟨d, 0, none⟩), .string (bstr s)] w fun e w' => e = .returned (.tuple #[.pointer none, .int .i64 1]) ∧ w' = w := by
  go_enter Tryz.func68, Tryz.ntmps68
  go_wp2_with fail
  refine (none_zero d _ c1).mono ?_
  rintro e w1 ⟨rfl, rfl⟩
  go_wp2
  go_ret2
  exact ⟨rfl, rfl⟩

set_option maxHeartbeats 1000000 in
theorem Free_any {d m fr N : Nat} {L : List Fl} (w : World) (h : Dk w d m L fr N) :
    Calls Tryz.prog 49 #[.pointer (some ⟨d, 0, none⟩)] w fun e w' => e = .returned (.int .i64 (fr : Int)) ∧ w' = w := by
  have hn := none_any w h
  have c0 : w.cell? ⟨d, 0, none⟩ = some (.int .i64 (fr : Int)) := (cells_block h.blk).1 0
  clear h
  go_enter Tryz.func49, Tryz.ntmps49
  go_wp2_with fail
  refine hn.mono ?_
  rintro e w1 ⟨rfl, rfl⟩
  go_wp2
  go_ret
  exact ⟨rfl, rfl⟩

set_option maxHeartbeats 1000000 in
theorem Free_nil (w : World) :
    Calls Tryz.prog 49 #[.pointer none] w fun e w' => e = .returned (.int .i64 0) ∧ w' = w := by
  go_enter Tryz.func49, Tryz.ntmps49
  go_wp2_with fail
  refine (none_nil _).mono ?_
  rintro e w1 ⟨rfl, rfl⟩
  go_wp2
  go_ret
  exact ⟨rfl, rfl⟩

/-- How many bytes of it are synced. -/
def sy : Option Fl → Int
  | none => 0
  | some f => f.syn
set_option maxHeartbeats 1000000 in
theorem Synced_any {d m fr N : Nat} {L : List Fl} (s : List UInt8) (w : World) (h : Dk w d m L fr N) (hl : s.length ≤ maxLen) :
    Calls Tryz.prog 34 #[.pointer (some ⟨d, 0, none⟩), .string (bstr s)] w fun e w' => e = .returned (.int .i64 (sy (lk s L))) ∧ w' = w := by
  have hf := find_any s w h hl
  cases e : lk s L with
  | none =>
    rw [e] at hf
    simp only [pv, fc] at hf
    go_enter Tryz.func34, Tryz.ntmps34
    go_wp2_with fail
    refine hf.mono ?_
    rintro e w1 ⟨rfl, rfl⟩
    go_wp2
    go_ret
    exact ⟨rfl, rfl⟩
  | some f =>
    rw [e] at hf
    simp only [pv, fc, sy] at hf ⊢
    have c1 : w.cell? ⟨f.g, 1, none⟩ = some (.int .i64 f.syn) := (cells_block (h.fl f (lk_some e).1).blk).1 1
    clear h
    generalize f.syn = n at *
    generalize f.g = g at *
    go_enter Tryz.func34, Tryz.ntmps34
    go_wp2_with fail
    refine hf.mono ?_
    rintro e w1 ⟨rfl, rfl⟩
    go_wp2
    go_ret
    exact ⟨rfl, rfl⟩

set_option maxHeartbeats 1000000 in
theorem Synced_nil (s : List UInt8) (w : World) :
    Calls Tryz.prog 34 #[.pointer none, .string (bstr s)] w fun e w' => e = .returned (.int .i64 0) ∧ w' = w := by
  go_enter Tryz.func34, Tryz.ntmps34
  go_wp2_with fail
  refine (find_nil s _).mono ?_
  rintro e w1 ⟨rfl, rfl⟩
  go_wp2
  go_ret
  exact ⟨rfl, rfl⟩

/-- The bytes of it. -/
def by_ : Option Fl → List UInt8
  | none => []
  | some f => f.bytes
set_option maxHeartbeats 1000000 in
theorem Read_any {d m fr N : Nat} {L : List Fl} (s : List UInt8) (w : World) (h : Dk w d m L fr N) (hl : s.length ≤ maxLen) :
    Calls Tryz.prog 33 #[.pointer (some ⟨d, 0, none⟩), .string (bstr s)] w fun e w' => e = .returned (.tuple #[.string (bstr (by_ (lk s L))), .int .i64 (fc (lk s L))]) ∧ w' = w := by
  have hf := find_any s w h hl
  cases e : lk s L with
  | none =>
    rw [e] at hf
    simp only [pv, fc] at hf
    go_enter Tryz.func33, Tryz.ntmps33
    go_wp2_with fail
    refine hf.mono ?_
    rintro e w1 ⟨rfl, rfl⟩
    go_wp2
    go_ret2
    exact ⟨rfl, rfl⟩
  | some f =>
    rw [e] at hf
    simp only [pv, fc, by_] at hf ⊢
    have hF := h.fl f (lk_some e).1
    have c0 : w.cell? ⟨f.g, 0, none⟩ = some f.v := (cells_block hF.blk).1 0
    have hcv := run_convert_own (P := Tryz.prog) (src := 73) (dst := 9) hF.own Tryz.underlying73 Tryz.underlying5 Tryz.underlying9
    clear h hF
    generalize f.v = v at *
    generalize f.bytes = l at *
    generalize f.g = g at *
    go_enter Tryz.func33, Tryz.ntmps33
    go_wp2_with fail
    refine hf.mono ?_
    rintro e w1 ⟨rfl, rfl⟩
    go_wp2
    go_ret2
    exact ⟨rfl, rfl⟩

set_option maxHeartbeats 1000000 in
theorem Read_nil (s : List UInt8) (w : World) :
    Calls Tryz.prog 33 #[.pointer none, .string (bstr s)] w fun e w' => e = .returned (.tuple #[.string ⟨#[]⟩, .int .i64 1]) ∧ w' = w := by
  go_enter Tryz.func33, Tryz.ntmps33
  go_wp2_with fail
  refine (find_nil s _).mono ?_
  rintro e w1 ⟨rfl, rfl⟩
  go_wp2
  go_ret2
  exact ⟨rfl, rfl⟩

end Go.Proofs.YtpldfakfgngaaaaGreatDoor

namespace Go.Proofs.YtpldfakfgngaaaaGreatDoor
open Go.RowKit

/-- What a call makes of a disk. -/
structure Stp (w w' : World) (d m : Nat) (L L' : List Fl) (fr' N' : Nat) : Prop where
  dk : Dk w' d m L' fr' N'
  kp : Kp w w' (Ft d m L)
  ft : ∀ i, Ft d m L' i → Ft d m L i ∨ w.heap.size ≤ i
theorem Stp.refl {w : World} {d m fr N : Nat} {L : List Fl} (h : Dk w d m L fr N) : Stp w w d m L L fr N := ⟨h, Kp.refl _ _, fun _ h => Or.inl h⟩
theorem Stp.trans {a b c : World} {d m : Nat} {L L' L'' : List Fl} {x y x' y' : Nat} (h : Stp a b d m L L' x y) (k : Stp b c d m L' L'' x' y') : Stp a c d m L L'' x' y' :=
  ⟨k.dk, h.kp.trans k.kp h.ft, fun i hi => by
    rcases k.ft i hi with e | e
    · exact h.ft i e
    · exact Or.inr (Nat.le_trans h.kp.size e)⟩
theorem Stp.below {a b c : World} {d m : Nat} {L L' : List Fl} {x y : Nat} (h : Stp a b d m L L' x y) (hb : Below b.heap.size b c) : Stp a c d m L L' x y :=
  ⟨h.dk.below hb, h.kp.trans (Kp.of_below (fun _ => False) hb) (fun _ h => h.elim), h.ft⟩
theorem own_shape {w : World} {e : TypeId} {v : Value} {l : List UInt8} (h : w.ownsRow 0 e 1 v l.length (Lib.byteCells l)) : ∃ q cap, v = .slice q l.length cap := by
  obtain ⟨q, cap, hv, _⟩ := own_barg h
  exact ⟨q, cap, hv⟩

set_option maxHeartbeats 1000000 in
theorem New_any (room : Int) (w : World) :
    Calls Tryz.prog 30 #[.int .i64 room] w fun e w' => ∃ d m, e = .returned (.pointer (some ⟨d, 0, none⟩)) ∧ Dk w' d m [] room.toNat 0 ∧ Below w.heap.size w w' ∧ ∀ i, Ft d m [] i → w.heap.size ≤ i := by
  have hmm := @run_makeMap Tryz.prog
  go_enter Tryz.func30, Tryz.ntmps30
  go_wp2
  go_ret
  refine ⟨w.heap.size + 1, w.heap.size, rfl, ?_, ((Below.refl _ _).alloc (Nat.le_refl _) _).alloc (by simp) _, ?_⟩
  · have e : ((room.toNat : Nat) : Int) = max room 0 := by omega
    refine ⟨List.Pairwise.nil, ?_, ⟨0, .map [], Nat.le_refl _, (World.ownsMap_made w _ _ _).alloc _, fun s => rfl, fun s => rfl⟩, by simp, by simp, Nat.le_refl _⟩
    rw [e]
    have := heap_alloc_new (w.alloc (.map #[] 0)) (.cells #[.int .i64 (max room 0), .map (some w.heap.size)] 108 (0, 0))
    simpa using this
  · rintro i (rfl | rfl | ⟨f, hf, _⟩)
    · omega
    · omega
    · simp at hf

/-- What Sync makes of the files. -/
def synL (s : List UInt8) (L : List Fl) : List Fl :=
  match lk s L with
  | none => L
  | some f => wth { f with syn := f.bytes.length } L
set_option maxHeartbeats 1000000 in
theorem Sync_any {d m fr N : Nat} {L : List Fl} (s : List UInt8) (w : World) (h : Dk w d m L fr N) (hl : s.length ≤ maxLen) :
    Calls Tryz.prog 58 #[.pointer (some ⟨d, 0, none⟩), .string (bstr s)] w fun e w' => e = .returned (.int .i64 (fc (lk s L))) ∧ Stp w w' d m L (synL s L) fr N := by
  have hf := find_any s w h hl
  unfold synL
  cases e : lk s L with
  | none =>
    rw [e] at hf
    simp only [pv, fc] at hf
    go_enter Tryz.func58, Tryz.ntmps58
    go_wp2_with fail
    refine hf.mono ?_
    rintro e w1 ⟨rfl, rfl⟩
    go_wp2
    go_ret
    exact ⟨rfl, Stp.refl h⟩
  | some f =>
    rw [e] at hf
    obtain ⟨hm, rfl⟩ := lk_some e
    simp only [pv, fc] at hf ⊢
    have hF := h.fl f hm
    obtain ⟨q, cap, hv⟩ := own_shape hF.own
    have c0 : w.cell? ⟨f.g, 0, none⟩ = some (.slice q f.bytes.length cap) := hv ▸ (cells_block hF.blk).1 0
    have c1 : w.cell? ⟨f.g, 1, none⟩ = some (.int .i64 f.syn) := (cells_block hF.blk).1 1
    have f1 : w.frozen? ⟨f.g, 1, none⟩ = false := (cells_block hF.blk).2 1
    have key : Stp w (w.setCell ⟨f.g, 1, none⟩ (.int .i64 (f.bytes.length : Int))) d m L (wth { f with syn := f.bytes.length } L) fr N := by
      have hrow : ({ f with syn := f.bytes.length } : Fl).v.ownBlock = none ∨ ({ f with syn := f.bytes.length } : Fl).v.ownBlock = f.v.ownBlock ∨ ∃ k, ({ f with syn := f.bytes.length } : Fl).v.ownBlock = some k ∧ w.heap.size ≤ k := Or.inr (Or.inl rfl)
      have hk : ∀ i, i ≠ f.g → (w.setCell ⟨f.g, 1, none⟩ (.int .i64 (f.bytes.length : Int))).heap[i]? = w.heap[i]? := fun i hi => Below.heap_setCell _ _ _ _ hi
      refine ⟨h.write (f' := { f with syn := f.bytes.length }) e rfl rfl ⟨?_, ?_, Nat.le_refl _, hF.nm⟩ hrow (fun i _ hi _ _ => hk i hi) ((hk d (fun e => (h.ne_file hm).1 e.symm)).trans h.blk), Kp.of_grown (grown_setCell w f.g 1 _) (Or.inr (Or.inr ⟨f, hm, Or.inl rfl⟩)), fun i hi => Ft.write (f' := { f with syn := f.bytes.length }) h.srt e rfl hrow hi⟩
      · rw [block_set hF.blk 1]; rfl
      · refine hF.own.kept (grown_setCell w f.g 1 _) ?_
        have := (h.ne_file hm).2.2 f hm
        exact Or.inr this
    clear h hF
    generalize hF : wth { f with syn := f.bytes.length } L = L' at *
    clear hF
    generalize f.bytes.length = n at *
    generalize f.syn = y at *
    generalize f.g = g at *
    go_enter Tryz.func58, Tryz.ntmps58
    go_wp2_with fail
    refine hf.mono ?_
    rintro e w1 ⟨rfl, rfl⟩
    go_wp2
    go_ret
    exact ⟨rfl, key⟩

set_option maxHeartbeats 1000000 in
theorem Sync_zero (d : Nat) (s : List UInt8) (w : World) (c1 : w.cell? ⟨d, 1, none⟩ = some (.map none)) :
    Calls Tryz.prog 58 #[.pointer (some ⟨d, 0, none⟩), .string (bstr s)] w fun e w' => e = .returned (.int .i64 1) ∧ w' = w := by
  go_enter Tryz.func58, Tryz.ntmps58
  go_wp2_with fail
  refine (find_zero d s _ c1).mono ?_
  rintro e w1 ⟨rfl, rfl⟩
  go_wp2
  go_ret
  exact ⟨rfl, rfl⟩

set_option maxHeartbeats 2000000 in
theorem drop_any {d m fr N : Nat} {L : List Fl} (s : List UInt8) (w : World) (h : Dk w d m L fr N) (hl : s.length ≤ maxLen) (hfit : fr + tot L ≤ 9223372036854775807) :
    Calls Tryz.prog 90 #[.pointer (some ⟨d, 0, none⟩), .string (bstr s)] w fun e w' => e = .returned (.tuple #[]) ∧ Stp w w' d m L (wto s L) (fr + (by_ (lk s L)).length) N := by
  have hlk := h.look hl
  have d0 : w.cell? ⟨d, 0, none⟩ = some (.int .i64 (fr : Int)) := (cells_block h.blk).1 0
  have d1 : w.cell? ⟨d, 1, none⟩ = some (.map (some m)) := (cells_block h.blk).1 1
  have df : w.frozen? ⟨d, 0, none⟩ = false := (cells_block h.blk).2 0
  cases e : lk s L with
  | none =>
    have e2 := wto_none e
    rw [e] at hlk
    rw [e2]
    simp only [pv, by_] at hlk ⊢
    go_enter Tryz.func90, Tryz.ntmps90
    go_wp2
    go_end0
    exact ⟨rfl, Stp.refl h⟩
  | some f =>
    rw [e] at hlk
    obtain ⟨hm, rfl⟩ := lk_some e
    simp only [pv, by_] at hlk ⊢
    have hF := h.fl f hm
    obtain ⟨q, cap, hv⟩ := own_shape hF.own
    have c0 : w.cell? ⟨f.g, 0, none⟩ = some (.slice q f.bytes.length cap) := hv ▸ (cells_block hF.blk).1 0
    have hb : fr + f.bytes.length ≤ 9223372036854775807 := by have := tot_mem hm; omega
    have key : Dk (w.setCell ⟨d, 0, none⟩ (.int .i64 ((fr : Int) + (f.bytes.length : Int)))) d m L (fr + f.bytes.length) N :=
      h.free (by rw [block_set h.blk 0]; simp) (fun i _ hi => Below.heap_setCell _ _ _ _ hi)
    have kp1 : Kp w (w.setCell ⟨d, 0, none⟩ (.int .i64 ((fr : Int) + (f.bytes.length : Int)))) (Ft d m L) := Kp.of_grown (grown_setCell w d 0 _) (Or.inl rfl)
    generalize hnm : f.name = s at *
    clear hF hv h
    generalize f.bytes.length = n at *
    generalize f.g = g at *
    go_enter Tryz.func90, Tryz.ntmps90
    go_wp2_with fail
    go_region
    go_wp2_with (at_delete; refine wpList_del key.drew s rfl _ _ rfl rfl rfl hl ?_; intro w2 ht2 hD2)
    go_end0
    exact ⟨rfl, hD2, kp1.drew.trans (Kp.of_grown (S := Ft d m L) ht2.grown (Or.inr (Or.inl rfl))) (fun i hi => Or.inl hi), fun i hi => Or.inl hi.del⟩

end Go.Proofs.YtpldfakfgngaaaaGreatDoor

namespace Go.Proofs.YtpldfakfgngaaaaGreatDoor
open Go.RowKit

set_option maxHeartbeats 1000000 in
theorem Remove_any {d m fr N : Nat} {L : List Fl} (s : List UInt8) (w : World) (h : Dk w d m L fr N) (hl : s.length ≤ maxLen) (hfit : fr + tot L ≤ 9223372036854775807) :
    Calls Tryz.prog 59 #[.pointer (some ⟨d, 0, none⟩), .string (bstr s)] w fun e w' => e = .returned (.int .i64 (fc (lk s L))) ∧ Stp w w' d m L (wto s L) (fr + (by_ (lk s L)).length) N := by
  have hf := find_any s w h hl
  have hd := drop_any s w h hl hfit
  cases e : lk s L with
  | none =>
    have e2 := wto_none e
    rw [e] at hf
    rw [e2]
    simp only [pv, fc, by_] at hf ⊢
    go_enter Tryz.func59, Tryz.ntmps59
    go_wp2_with fail
    refine hf.mono ?_
    rintro e w1 ⟨rfl, rfl⟩
    go_wp2
    go_ret
    exact ⟨rfl, Stp.refl h⟩
  | some f =>
    rw [e] at hf hd
    simp only [pv, fc, by_] at hf hd ⊢
    generalize f.g = g at *
    generalize f.bytes.length = n at *
    go_enter Tryz.func59, Tryz.ntmps59
    go_wp2_with fail
    refine hf.mono ?_
    rintro e w1 ⟨rfl, rfl⟩
    go_wp2_with fail
    refine hd.mono ?_
    rintro e w1 ⟨rfl, hS⟩
    go_wp2
    go_ret
    exact ⟨rfl, hS⟩

set_option maxHeartbeats 1000000 in
theorem Remove_nil (s : List UInt8) (w : World) :
    Calls Tryz.prog 59 #[.pointer none, .string (bstr s)] w fun e w' => e = .returned (.int .i64 1) ∧ w' = w := by
  go_enter Tryz.func59, Tryz.ntmps59
  go_wp2_with fail
  refine (find_nil s _).mono ?_
  rintro e w1 ⟨rfl, rfl⟩
  go_wp2
  go_ret
  exact ⟨rfl, rfl⟩

set_option maxHeartbeats 1000000 in
theorem Append_nil (s t : List UInt8) (w : World) :
    Calls Tryz.prog 31 #[.pointer none, .string (bstr s), .string (bstr t)] w fun e w' => e = .returned (.int .i64 1) ∧ w' = w := by
  go_enter Tryz.func31, Tryz.ntmps31
  go_wp2_with fail
  refine (none_nil _).mono ?_
  rintro e w1 ⟨rfl, rfl⟩
  go_wp2
  go_ret
  exact ⟨rfl, rfl⟩

set_option maxHeartbeats 1000000 in
theorem Append_zero (d : Nat) (s t : List UInt8) (w : World) (c1 : w.cell? ⟨d, 1, none⟩ = some (.map none)) :
    Calls Tryz.prog 31 #[.pointer (some ⟨d, 0, none⟩), .string (bstr s), .string (bstr t)] w fun e w' => e = .returned (.int .i64 1) ∧ w' = w := by
  go_enter Tryz.func31, Tryz.ntmps31
  go_wp2_with fail
  refine (none_zero d _ c1).mono ?_
  rintro e w1 ⟨rfl, rfl⟩
  go_wp2
  go_ret
  exact ⟨rfl, rfl⟩

set_option maxHeartbeats 1000000 in
theorem Append_arg {d m fr N : Nat} {L : List Fl} (s t : List UInt8) (w : World) (h : Dk w d m L fr N) (hs : okN s = false) :
    Calls Tryz.prog 31 #[.pointer (some ⟨d, 0, none⟩), .string (bstr s), .string (bstr t)] w fun e w' => e = .returned (.int .i64 2) ∧ w' = w := by
  have hn := none_any w h
  have hi := isName_any s w
  rw [hs] at hi
  clear h
  go_enter Tryz.func31, Tryz.ntmps31
  go_wp2_with fail
  refine hn.mono ?_
  rintro e w1 ⟨rfl, rfl⟩
  go_wp2_with fail
  refine hi.mono ?_
  rintro e w1 ⟨rfl, rfl⟩
  go_wp2
  go_ret
  exact ⟨rfl, rfl⟩

set_option maxHeartbeats 1000000 in
theorem Append_full {d m fr N : Nat} {L : List Fl} (s t : List UInt8) (w : World) (h : Dk w d m L fr N) (hs : okN s = true) (ht : fr < t.length) :
    Calls Tryz.prog 31 #[.pointer (some ⟨d, 0, none⟩), .string (bstr s), .string (bstr t)] w fun e w' => e = .returned (.int .i64 7) ∧ w' = w := by
  have hn := none_any w h
  have hi := isName_any s w
  rw [hs] at hi
  have d0 : w.cell? ⟨d, 0, none⟩ = some (.int .i64 (fr : Int)) := (cells_block h.blk).1 0
  have e1 : (bstr t).size = t.length := size_bstr t
  have hg : (fr : Int) < (t.length : Int) := by omega
  clear h
  go_enter Tryz.func31, Tryz.ntmps31
  go_wp2_with fail
  refine hn.mono ?_
  rintro e w1 ⟨rfl, rfl⟩
  go_wp2_with fail
  refine hi.mono ?_
  rintro e w1 ⟨rfl, rfl⟩
  go_wp2
  go_ret
  exact ⟨rfl, rfl⟩

/-- Bytes are put behind a file's, and so many fewer are free. -/
theorem Dk.behind {w w1 : World} {d m fr N : Nat} {L : List Fl} (h : Dk w d m L fr N) {f : Fl} (e : lk f.name L = some f) {t : List UInt8} (ht : t.length ≤ fr) {v' : Value}
    (own1 : w1.ownsRow 0 5 1 v' (f.bytes ++ t).length (Lib.byteCells (f.bytes ++ t))) (grow1 : w.grownBy w1 f.v.ownBlock) (loc1 : v'.ownBlock = none ∨ v'.ownBlock = f.v.ownBlock ∨ ∃ k, v'.ownBlock = some k ∧ w.heap.size ≤ k) :
    Stp w ((w1.setCell ⟨f.g, 0, none⟩ v').setCell ⟨d, 0, none⟩ (.int .i64 ((fr : Int) - (t.length : Int)))) d m L (wth { f with bytes := f.bytes ++ t, v := v' } L) (fr - t.length) N := by
  obtain ⟨hm, _⟩ := lk_some e
  have hF := h.fl f hm
  obtain ⟨n1, n2, n3⟩ := h.ne_file hm
  have hdw : d < w.heap.size := h.lt (Or.inl rfl)
  have hgw : f.g < w.heap.size := h.lt (Or.inr (Or.inr ⟨f, hm, Or.inl rfl⟩))
  have b1 : w1.heap[f.g]? = some (.cells #[f.v, .int .i64 f.syn] 112 (0, 0)) := (grow1.block f.g hgw (fun e => n3 f hm e.symm)).trans hF.blk
  have b2 : w1.heap[d]? = some (.cells #[.int .i64 (fr : Int), .map (some m)] 108 (0, 0)) := (grow1.block d hdw (fun e => (h.ne_row hm).1 e.symm)).trans h.blk
  have hcast : ((fr - t.length : Nat) : Int) = (fr : Int) - (t.length : Int) := by omega
  have k2 : ∀ i, i ≠ f.g → i ≠ d → ((w1.setCell ⟨f.g, 0, none⟩ v').setCell ⟨d, 0, none⟩ (.int .i64 ((fr : Int) - (t.length : Int)))).heap[i]? = w1.heap[i]? := fun i h1 h2 => by
    rw [Below.heap_setCell _ _ _ _ h2, Below.heap_setCell _ _ _ _ h1]
  have hv'g : v'.ownBlock ≠ some f.g := by
    rcases loc1 with a | a | ⟨k, a, b⟩
    · rw [a]; simp
    · rw [a]; exact n3 f hm
    · rw [a]; intro e; cases e; omega
  have hv'd : v'.ownBlock ≠ some d := by
    rcases loc1 with a | a | ⟨k, a, b⟩
    · rw [a]; simp
    · rw [a]; exact (h.ne_row hm).1
    · rw [a]; intro e; cases e; omega
  refine ⟨h.write (f' := { f with bytes := f.bytes ++ t, v := v' }) e rfl rfl ⟨?_, ?_, ?_, hF.nm⟩ loc1 (fun i hi h1 h2 h3 => (k2 i h1 h3).trans (grow1.block i hi (fun e => h2 e.symm))) ?_, ?_, fun i hi => Ft.write (f' := { f with bytes := f.bytes ++ t, v := v' }) h.srt e rfl loc1 hi⟩
  · show ((w1.setCell ⟨f.g, 0, none⟩ v').setCell ⟨d, 0, none⟩ _).heap[f.g]? = _
    rw [Below.heap_setCell _ _ _ _ n1, block_set b1 0]; rfl
  · exact (own1.kept (grown_setCell w1 f.g 0 v') (Or.inr hv'g)).kept (grown_setCell _ d 0 _) (Or.inr hv'd)
  · have := hF.syn
    simp only [List.length_append]; omega
  · rw [hcast]
    have b3 : (w1.setCell ⟨f.g, 0, none⟩ v').heap[d]? = some (.cells #[.int .i64 (fr : Int), .map (some m)] 108 (0, 0)) := (Below.heap_setCell _ _ _ _ (fun e => n1 e.symm)).trans b2
    rw [block_set b3 0]; rfl
  · exact ((Kp.of_grown' (S := Ft d m L) grow1 (fun k hk => Or.inr (Or.inr ⟨f, hm, Or.inr hk⟩))).trans (Kp.of_grown (S := Ft d m L) (grown_setCell w1 f.g 0 v') (Or.inr (Or.inr ⟨f, hm, Or.inl rfl⟩))) (fun _ h => Or.inl h)).trans (Kp.of_grown (S := Ft d m L) (grown_setCell _ d 0 _) (Or.inl rfl)) (fun _ h => Or.inl h)

theorem Tryz.infoU8 : (Tryz.prog.info? 5).map (fun i => (i.zero, i.size, i.bytes)) = some (some (.int .u8 0), 1, 1) := by kernel_rfl

set_option maxHeartbeats 2000000 in
set_option maxRecDepth 100000 in
theorem Append_old {d m fr N : Nat} {L : List Fl} (t : List UInt8) (w : World) (h : Dk w d m L fr N) {f : Fl} (e : lk f.name L = some f) (ht : t.length ≤ fr) (hb : f.bytes.length + t.length ≤ 140737488355328) (hfr : fr ≤ 9223372036854775807) :
    Calls Tryz.prog 31 #[.pointer (some ⟨d, 0, none⟩), .string (bstr f.name), .string (bstr t)] w fun e w' => e = .returned (.int .i64 0) ∧ ∃ v', Stp w w' d m L (wth { f with bytes := f.bytes ++ t, v := v' } L) (fr - t.length) N := by
  obtain ⟨hm, _⟩ := lk_some e
  have hF := h.fl f hm
  have hs : okN f.name = true := by
    unfold okN
    have := hF.nm
    simp [this.1, this.2]
  have hn := none_any w h
  have hi := isName_any f.name w
  rw [hs] at hi
  have hlk := h.look (s := f.name) (by have := hF.nm.2; unfold maxLen; omega)
  rw [e] at hlk
  simp only [pv] at hlk
  have d0 : w.cell? ⟨d, 0, none⟩ = some (.int .i64 (fr : Int)) := (cells_block h.blk).1 0
  have d1 : w.cell? ⟨d, 1, none⟩ = some (.map (some m)) := (cells_block h.blk).1 1
  have c0 : w.cell? ⟨f.g, 0, none⟩ = some f.v := (cells_block hF.blk).1 0
  have e1 : (bstr t).size = t.length := size_bstr t
  have hle : ¬ ((fr : Int) < (t.length : Int)) := by omega
  have hng : d ≠ f.g := fun e => (h.ne_file hm).1 e.symm
  obtain ⟨i0, hi0, hz0, hz1, hz2⟩ := info_parts Tryz.infoU8
  have facts : ∀ w1 : World, w.grownBy w1 f.v.ownBlock → w1.cell? ⟨f.g, 0, none⟩ = some f.v ∧ w1.frozen? ⟨f.g, 0, none⟩ = false ∧ w1.cell? ⟨d, 0, none⟩ = some (.int .i64 (fr : Int)) ∧ w1.frozen? ⟨d, 0, none⟩ = false := fun w1 g1 => by
    have b1 := (g1.block f.g (h.lt (Or.inr (Or.inr ⟨f, hm, Or.inl rfl⟩))) (fun e => (h.ne_file hm).2.2 f hm e.symm)).trans hF.blk
    have b2 := (g1.block d (h.lt (Or.inl rfl)) (fun e => (h.ne_row hm).1 e.symm)).trans h.blk
    exact ⟨(cells_block b1).1 0, (cells_block b1).2 0, (cells_block b2).1 0, (cells_block b2).2 0⟩
  have fin := fun (v' : Value) (w1 : World) o1 g1 l1 => h.behind (w1 := w1) (v' := v') e ht o1 g1 l1
  have own0 := hF.own
  clear hF hm
  generalize hv : f.v = fv at *
  generalize hg : f.g = g at *
  generalize hnm : f.name = nm at *
  go_enter Tryz.func31, Tryz.ntmps31
  go_wp2_with fail
  refine hn.mono ?_
  rintro e w1 ⟨rfl, rfl⟩
  go_wp2_with fail
  refine hi.mono ?_
  rintro e w1 ⟨rfl, rfl⟩
  clear hn hi h
  go_wp2_with (at_builtin; refine wpList_app rfl _ _ 73 9 rfl 5 i0 Tryz.underlying73 Tryz.underlying9 hi0 hz0 hz1 hz2 _ f.bytes t rfl own0 rfl hb ?_; intro v' w1 own1 grow1 loc1; obtain ⟨q1, cap1, rfl⟩ := own_shape own1; obtain ⟨k1, k2, k3, k4⟩ := facts w1 grow1; replace fin := fin _ w1 own1 grow1 loc1; clear own1 grow1 loc1 facts own0 c0 d0)
  go_ret
  rw [List.length_append] at fin
  exact ⟨rfl, _, fin⟩

theorem CClone_any (l : List UInt8) (w : World) (hl : l.length ≤ 281474976710656) :
    Calls Tryz.prog 39 #[.string (bstr l)] w fun e w' => e = .returned (.string (bstr l)) ∧ Below w.heap.size w w' := by
  go_enter Tryz.func39, Tryz.ntmps39
  go_wp2_with fail
  refine (Tryz.stringslite_Clone (bstr l) _ (by rw [size_bstr]; exact hl)).mono ?_
  rintro e w' ⟨rfl, hb⟩
  go_wp2
  go_ret
  exact ⟨rfl, hb⟩

/-- A new file is put to the others. -/
theorem Dk.fresh {w w1 w2 : World} {d m fr N : Nat} {L : List Fl} (h : Dk w d m L fr N) (s : List UInt8) (e : lk s L = none) (hs : 0 < s.length ∧ s.length ≤ 64)
    (b1 : w1.heap[w.heap.size]? = some (.cells #[.slice none 0 0, .int .i64 0] 112 (0, 0))) (hb : Below w.heap.size w w1)
    (ht : w1.mapTurned w2 m) (hm : ∃ n D, n ≤ N + 1 ∧ w2.ownsMap Tryz.prog 9 ptrElem m n D ∧ Mp D (wth ⟨s, [], 0, w.heap.size, .slice none 0 0⟩ L)) :
    Stp w w2 d m L (wth ⟨s, [], 0, w.heap.size, .slice none 0 0⟩ L) fr (N + 1) := by
  have h1 := h.below hb
  refine ⟨h1.add ⟨s, [], 0, w.heap.size, .slice none 0 0⟩ e ⟨b1, World.ownsRow_nil _ _ _ _, Nat.le_refl _, hs⟩ (fun x hx => ⟨fun e => ?_, Or.inl rfl⟩) ht hm, (Kp.of_below _ hb).trans (Kp.of_grown (S := Ft d m L) ht.grown (Or.inr (Or.inl rfl))) (fun _ h => Or.inl h), fun i hi => ?_⟩
  · have := h.lt (Or.inr (Or.inr ⟨x, hx, Or.inl rfl⟩))
    simp only at e
    omega
  · rcases Ft.add h.srt hi with a | a | a
    · exact Or.inl a
    · exact Or.inr (by simp only at a; omega)
    · cases a

set_option maxHeartbeats 4000000 in
set_option maxRecDepth 100000 in
theorem Append_new {d m fr N : Nat} {L : List Fl} (s t : List UInt8) (w : World) (h : Dk w d m L fr N) (e : lk s L = none) (hs : okN s = true) (ht : t.length ≤ fr) (hb : t.length ≤ 140737488355328) (hfr : fr ≤ 9223372036854775807) (hN : N < maxLen) :
    Calls Tryz.prog 31 #[.pointer (some ⟨d, 0, none⟩), .string (bstr s), .string (bstr t)] w fun e w' => e = .returned (.int .i64 0) ∧ ∃ v', Stp w w' d m L (wth ⟨s, t, 0, w.heap.size, v'⟩ L) (fr - t.length) (N + 1) := by
  have hs2 : 0 < s.length ∧ s.length ≤ 64 := by simpa [okN] using hs
  have hn := none_any w h
  have hi := isName_any s w
  rw [hs] at hi
  have hlk := h.look (s := s) (by unfold maxLen; omega)
  rw [e] at hlk
  simp only [pv] at hlk
  have d0 : w.cell? ⟨d, 0, none⟩ = some (.int .i64 (fr : Int)) := (cells_block h.blk).1 0
  have d1 : w.cell? ⟨d, 1, none⟩ = some (.map (some m)) := (cells_block h.blk).1 1
  have e1 : (bstr t).size = t.length := size_bstr t
  have hle : ¬ ((fr : Int) < (t.length : Int)) := by omega
  obtain ⟨i0, hi0, hz0, hz1, hz2⟩ := info_parts Tryz.infoU8
  go_enter Tryz.func31, Tryz.ntmps31
  go_wp2_with fail
  refine hn.mono ?_
  rintro e w1 ⟨rfl, rfl⟩
  go_wp2_with fail
  refine hi.mono ?_
  rintro e w1 ⟨rfl, rfl⟩
  clear hn hi
  go_wp2_with fail
  have hB0 : Below w1.heap.size w1 (w1.alloc (.cells #[.slice none 0 0, .int .i64 0] 112)) := (Below.refl _ _).alloc (Nat.le_refl _) _
  have hb0 : (w1.alloc (.cells #[.slice none 0 0, .int .i64 0] 112)).heap[w1.heap.size]? = some (.cells #[.slice none 0 0, .int .i64 0] 112 (0, 0)) := heap_alloc_new w1 _
  generalize w1.alloc (.cells #[.slice none 0 0, .int .i64 0] 112) = W at *
  have hD := h.below hB0
  have dW : W.cell? ⟨d, 1, none⟩ = some (.map (some m)) := (cells_block hD.blk).1 1
  have hbz : w1.heap.size < W.heap.size := (Array.getElem?_eq_some_iff.1 hb0).1
  go_region_held3 (fun w' => w'.cell? ⟨d, 1, none⟩ = some (.map (some m))) (first | with_reducible exact dW | with_reducible exact dV | go_keep)
    ((go_at_call 39; refine (CClone_any s _ (by omega)).mono ?_; rintro e wf ⟨rfl, hbf⟩; have hDf : Dk wf d m L fr N := hD.drew.below hbf; clear dW; have dW : wf.cell? ⟨d, 1, none⟩ = some (.map (some m)) := (cells_block hDf.blk).1 1; have hBf : Below w1.heap.size w1 wf := b_step hB0.drew hbf (Nat.le_refl _); have hbF := (hbf.block _ hbz).trans hb0; clear hbf; obtain ⟨w2, hrun, ht2, hm2⟩ := hDf.stores ⟨s, [], 0, w1.heap.size, .slice none 0 0⟩ hN (by simp only [maxLen]; omega); simp only at hrun; have dV : w2.cell? ⟨d, 1, none⟩ = some (.map (some m)) := (World.cell?_of_block (ht2.grown.block d (hDf.lt (Or.inl rfl)) (fun e => hDf.ne (by cases e; rfl)))).trans dW))
  have hS := h.fresh s e hs2 hbF hBf ht2 hm2
  clear ht2 hm2 hDf hBf hbF hrun dV
  have hD2 := hS.dk
  have e0 : lk (Fl.name ⟨s, [], 0, w1.heap.size, .slice none 0 0⟩) (wth ⟨s, [], 0, w1.heap.size, .slice none 0 0⟩ L) = some ⟨s, [], 0, w1.heap.size, .slice none 0 0⟩ := lk_wth_same h.srt _
  obtain ⟨hm, _⟩ := lk_some e0
  have hF := hD2.fl _ hm
  clear d0 d1 hlk hD dW hB0 hb0 hbz
  have c0 : w2.cell? ⟨w1.heap.size, 0, none⟩ = some (.slice none 0 0) := (cells_block hF.blk).1 0
  have hng : d ≠ w1.heap.size := fun e => (hD2.ne_file hm).1 e.symm
  have facts : ∀ w3 : World, w2.grownBy w3 (Value.ownBlock (.slice none 0 0)) → w3.cell? ⟨w1.heap.size, 0, none⟩ = some (.slice none 0 0) ∧ w3.frozen? ⟨w1.heap.size, 0, none⟩ = false ∧ w3.cell? ⟨d, 0, none⟩ = some (.int .i64 (fr : Int)) ∧ w3.frozen? ⟨d, 0, none⟩ = false := fun w3 g1 => by
    have b1 := (g1.block w1.heap.size (hD2.lt (Or.inr (Or.inr ⟨_, hm, Or.inl rfl⟩))) (fun e => by cases e)).trans hF.blk
    have b2 := (g1.block d (hD2.lt (Or.inl rfl)) (fun e => by cases e)).trans hD2.blk
    exact ⟨(cells_block b1).1 0, (cells_block b1).2 0, (cells_block b2).1 0, (cells_block b2).2 0⟩
  have fin := fun (v' : Value) (w3 : World) o1 g1 l1 => hD2.behind (w1 := w3) (v' := v') e0 ht o1 g1 l1
  have own0 := hF.own
  clear hF hm e0 hD2
  generalize hg : w1.heap.size = g at *
  go_wp2_with (at_builtin; refine wpList_app rfl _ _ 73 9 rfl 5 i0 Tryz.underlying73 Tryz.underlying9 hi0 hz0 hz1 hz2 _ [] t rfl own0 rfl (by simpa using hb) ?_; intro v' w3 own1 grow1 loc1; obtain ⟨q1, cap1, rfl⟩ := own_shape own1; obtain ⟨k1, k2, k3, k4⟩ := facts w3 grow1; replace fin := fin _ w3 own1 grow1 loc1; clear own1 grow1 loc1 facts own0 c0)
  go_ret
  simp only [List.nil_append] at fin
  have fin2 := hS.trans fin
  rw [wth_wth (by rfl)] at fin2
  exact ⟨rfl, _, fin2⟩

end Go.Proofs.YtpldfakfgngaaaaGreatDoor

namespace Go.Proofs.YtpldfakfgngaaaaGreatDoor
open Go.RowKit

/-- How many bytes of it are synced. -/
def syN : Option Fl → Nat
  | none => 0
  | some f => f.syn
theorem sy_syN (o : Option Fl) : sy o = (syN o : Int) := by cases o <;> rfl

theorem Append_ok {d m fr N : Nat} {L : List Fl} (s t : List UInt8) (w : World) (h : Dk w d m L fr N) (hs : okN s = true) (ht : t.length ≤ fr) (hb : tot L + t.length ≤ 140737488355328) (hfr : fr ≤ 9223372036854775807) (hN : N < maxLen) :
    Calls Tryz.prog 31 #[.pointer (some ⟨d, 0, none⟩), .string (bstr s), .string (bstr t)] w fun e w' => e = .returned (.int .i64 0) ∧ ∃ f' : Fl, f'.name = s ∧ f'.bytes = by_ (lk s L) ++ t ∧ f'.syn = syN (lk s L) ∧ Stp w w' d m L (wth f' L) (fr - t.length) (N + 1) := by
  cases e : lk s L with
  | none =>
    refine (Append_new s t w h e hs ht (by omega) hfr hN).mono ?_
    rintro e w' ⟨rfl, v', hS⟩
    exact ⟨rfl, ⟨s, t, 0, w.heap.size, v'⟩, rfl, rfl, rfl, hS⟩
  | some f =>
    obtain ⟨hm, rfl⟩ := lk_some e
    refine (Append_old t w h e ht (by have := tot_mem hm; omega) hfr).mono ?_
    rintro e w' ⟨rfl, v', hS⟩
    exact ⟨rfl, { f with bytes := f.bytes ++ t, v := v' }, rfl, rfl, rfl, hS.dk.mono (Nat.le_succ _), hS.kp, hS.ft⟩

set_option maxHeartbeats 1000000 in
theorem Rename_nil (s t : List UInt8) (w : World) :
    Calls Tryz.prog 74 #[.pointer none, .string (bstr s), .string (bstr t)] w fun e w' => e = .returned (.int .i64 1) ∧ w' = w := by
  go_enter Tryz.func74, Tryz.ntmps74
  go_wp2_with fail
  refine (find_nil s _).mono ?_
  rintro e w1 ⟨rfl, rfl⟩
  go_wp2
  go_ret
  exact ⟨rfl, rfl⟩

set_option maxHeartbeats 1000000 in
theorem Rename_none {d m fr N : Nat} {L : List Fl} (s t : List UInt8) (w : World) (h : Dk w d m L fr N) (hl : s.length ≤ maxLen) (e : lk s L = none) :
    Calls Tryz.prog 74 #[.pointer (some ⟨d, 0, none⟩), .string (bstr s), .string (bstr t)] w fun e w' => e = .returned (.int .i64 5) ∧ w' = w := by
  have hf := find_any s w h hl
  rw [e] at hf
  simp only [pv, fc] at hf
  go_enter Tryz.func74, Tryz.ntmps74
  go_wp2_with fail
  refine hf.mono ?_
  rintro e w1 ⟨rfl, rfl⟩
  go_wp2
  go_ret
  exact ⟨rfl, rfl⟩

set_option maxHeartbeats 1000000 in
theorem Rename_arg {d m fr N : Nat} {L : List Fl} (s t : List UInt8) (w : World) (h : Dk w d m L fr N) (hl : s.length ≤ maxLen) {f : Fl} (e : lk s L = some f) (ht : okN t = false) :
    Calls Tryz.prog 74 #[.pointer (some ⟨d, 0, none⟩), .string (bstr s), .string (bstr t)] w fun e w' => e = .returned (.int .i64 2) ∧ w' = w := by
  have hf := find_any s w h hl
  rw [e] at hf
  simp only [pv, fc] at hf
  have hi := isName_any t w
  rw [ht] at hi
  generalize f.g = g at *
  go_enter Tryz.func74, Tryz.ntmps74
  go_wp2_with fail
  refine hf.mono ?_
  rintro e w1 ⟨rfl, rfl⟩
  go_wp2_with fail
  refine hi.mono ?_
  rintro e w1 ⟨rfl, rfl⟩
  go_wp2
  go_ret
  exact ⟨rfl, rfl⟩

set_option maxHeartbeats 1000000 in
theorem Rename_same {d m fr N : Nat} {L : List Fl} (s : List UInt8) (w : World) (h : Dk w d m L fr N) (hl : s.length ≤ maxLen) {f : Fl} (e : lk s L = some f) :
    Calls Tryz.prog 74 #[.pointer (some ⟨d, 0, none⟩), .string (bstr s), .string (bstr s)] w fun e w' => e = .returned (.int .i64 0) ∧ w' = w := by
  have hf := find_any s w h hl
  have hs : okN s = true := by
    obtain ⟨hm, rfl⟩ := lk_some e
    unfold okN
    have := (h.fl f hm).nm
    simp [this.1, this.2]
  rw [e] at hf
  simp only [pv, fc] at hf
  have hi := isName_any s w
  rw [hs] at hi
  generalize f.g = g at *
  go_enter Tryz.func74, Tryz.ntmps74
  go_wp2_with fail
  refine hf.mono ?_
  rintro e w1 ⟨rfl, rfl⟩
  go_wp2_with fail
  refine hi.mono ?_
  rintro e w1 ⟨rfl, rfl⟩
  go_wp2
  go_ret
  exact ⟨rfl, rfl⟩

theorem grown_drew {a b : World} {r : Option Nat} (h : a.grownBy b r) : a.grownBy b.drew r := ⟨h.os, h.tape, h.output, h.size, h.block⟩
/-- A file that was taken out is put back under another name. -/
theorem Dk.renamed {w w1 w2 wf w3 : World} {d m fr fr' N : Nat} {L : List Fl} (h : Dk w d m L fr N) {f : Fl} {s t : List UInt8} (e : lk s L = some f) (hst : s ≠ t) (ht : 0 < t.length ∧ t.length ≤ 64)
    (h1 : Stp w w1 d m L (wto t L) fr' N) (hD2 : Dk w2 d m (wto s (wto t L)) fr' N) (g2 : w1.grownBy w2 (some m)) (hbf : Below w2.heap.size w2 wf) (ht3 : wf.mapTurned w3 m)
    (hm : ∃ n D, n ≤ N + 1 ∧ w3.ownsMap Tryz.prog 9 ptrElem m n D ∧ Mp D (wth { f with name := t } (wto s (wto t L)))) :
    Stp w w3 d m L (wth { f with name := t } (wto s (wto t L))) fr' (N + 1) := by
  obtain ⟨hm0, hn0⟩ := lk_some e
  have hm1 : f ∈ wto t L := wto_mem.2 ⟨hm0, by rw [hn0]; exact hst⟩
  have hF1 := h1.dk.fl f hm1
  have hDf := hD2.below hbf
  have hF2 : FlAt w2 f := by
    have hmb : ∀ (i : Nat) (cur : Array Value) (ty : TypeId), w1.heap[i]? = some (.cells cur ty (0, 0)) → w2.heap[i]? = w1.heap[i]? := fun i cur ty hi => g2.block i (Array.getElem?_eq_some_iff.1 hi).1 (fun e => by
      cases e
      obtain ⟨n, D, _, ⟨es, c, hb, _⟩, _⟩ := h1.dk.mp
      rw [hb] at hi
      cases hi)
    exact hF1.kept (hmb _ _ _ hF1.blk) (fun i hi => by
      obtain ⟨cur, hc⟩ := own_lt hF1.own hi
      exact hmb i _ _ hc)
  have hFf : FlAt wf f := by
    refine hF2.kept (hbf.block _ (Array.getElem?_eq_some_iff.1 hF2.blk).1) (fun i hi => ?_)
    obtain ⟨cur, hc⟩ := own_lt hF2.own hi
    exact hbf.block i (Array.getElem?_eq_some_iff.1 hc).1
  refine ⟨hDf.add { f with name := t } (lk_eq_none fun x hx => (wto_mem.1 (wto_mem.1 hx).1).2) ⟨hFf.blk, hFf.own, hFf.syn, ht⟩ (fun x hx => ?_) ht3 hm, ?_, fun i hi => ?_⟩
  · have hx2 := wto_mem.1 hx
    have hx1 := (wto_mem.1 hx2.1).1
    exact h.apart f hm0 x hx1 (by rw [hn0]; exact fun e => hx2.2 e.symm)
  · exact ((h1.kp.trans (Kp.of_grown (S := Ft d m L) g2 (Or.inr (Or.inl rfl))) (fun _ h => Or.inl h)).trans (Kp.of_below (Ft d m L) hbf) (fun _ h => Or.inl h)).trans (Kp.of_grown (S := Ft d m L) ht3.grown (Or.inr (Or.inl rfl))) (fun _ h => Or.inl h)
  · rcases Ft.add hD2.srt hi with a | a | a
    · exact Or.inl a.del.del
    · exact Or.inl (Or.inr (Or.inr ⟨f, hm0, Or.inl a⟩))
    · exact Or.inl (Or.inr (Or.inr ⟨f, hm0, Or.inr a⟩))

set_option maxHeartbeats 4000000 in
set_option maxRecDepth 100000 in
theorem Rename_ok {d m fr N : Nat} {L : List Fl} (s t : List UInt8) (w : World) (h : Dk w d m L fr N) (hl : s.length ≤ maxLen) {f : Fl} (e : lk s L = some f) (hst : s ≠ t) (ht : okN t = true) (hfit : fr + tot L ≤ 9223372036854775807) (hN : N < maxLen) :
    Calls Tryz.prog 74 #[.pointer (some ⟨d, 0, none⟩), .string (bstr s), .string (bstr t)] w fun e w' => e = .returned (.int .i64 0) ∧ Stp w w' d m L (wth { f with name := t } (wto s (wto t L))) (fr + (by_ (lk t L)).length) (N + 1) := by
  have hf := find_any s w h hl
  rw [e] at hf
  simp only [pv, fc] at hf
  have ht2 : 0 < t.length ∧ t.length ≤ 64 := by simpa [okN] using ht
  have hi := isName_any t w
  rw [ht] at hi
  have hd := drop_any t w h (by unfold maxLen; omega) hfit
  have fin := fun (w1 w2 wf w3 : World) => h.renamed (w1 := w1) (w2 := w2) (wf := wf) (w3 := w3) (fr' := fr + (by_ (lk t L)).length) e hst ht2
  have hb3 : ((bstr s).toList == (bstr t).toList) = false := by rw [toList_bstr, toList_bstr]; simpa using hst
  generalize fr + (by_ (lk t L)).length = fr' at *
  generalize hg : f.g = g at *
  go_enter Tryz.func74, Tryz.ntmps74
  go_wp2_with fail
  refine hf.mono ?_
  rintro e w1 ⟨rfl, rfl⟩
  go_wp2_with fail
  refine hi.mono ?_
  rintro e w1 ⟨rfl, rfl⟩
  go_wp2_with fail
  refine hd.mono ?_
  rintro e w1 ⟨rfl, hS1⟩
  have hD1 := hS1.dk
  have d1 : w1.cell? ⟨d, 1, none⟩ = some (.map (some m)) := (cells_block hD1.blk).1 1
  clear hf hi hd h
  go_wp2_with (at_delete; refine wpList_del hD1 s rfl _ _ rfl rfl rfl hl ?_; intro w2 ht2 hD2; clear d1; have dW : w2.cell? ⟨d, 1, none⟩ = some (.map (some m)) := (cells_block hD2.blk).1 1)
  go_region_held3 (fun w' => w'.cell? ⟨d, 1, none⟩ = some (.map (some m))) (first | with_reducible exact dW | with_reducible exact dV | go_keep)
    ((go_at_call 39; refine (CClone_any t _ (by omega)).mono ?_; rintro e wf ⟨rfl, hbf⟩; have hDf : Dk wf d m (wto s (wto t L)) fr' N := hD2.drew.below hbf; clear dW; have dW : wf.cell? ⟨d, 1, none⟩ = some (.map (some m)) := (cells_block hDf.blk).1 1; obtain ⟨w3, hrun, ht3, hm3⟩ := hDf.stores { f with name := t } hN (by simp only [maxLen]; omega); simp only [hg] at hrun; have dV : w3.cell? ⟨d, 1, none⟩ = some (.map (some m)) := (World.cell?_of_block (ht3.grown.block d (hDf.lt (Or.inl rfl)) (fun e => hDf.ne (by cases e; rfl)))).trans dW))
  go_wp2
  go_ret
  subst hg
  exact ⟨rfl, fin w1 w2.drew wf w3 hS1 hD2.drew (grown_drew ht2.grown) hbf ht3 hm3⟩

end Go.Proofs.YtpldfakfgngaaaaGreatDoor

