/-
  A list's towers in memory: each in a block of its own, chained level by level; a tower put in, one level higher, given another cell; the list's own block.
-/
import Derived.Test.YtijfmgpipnhkkaaSMath
import Derived.Test.YtijfmgpipnhkkaaCRow
import Derived.Test.YtijfmgpipnhkkaaCFresh
import Derived.Test.YtijfmgpipnhkkaaGPure
namespace Go.Proofs.Ytijfmgpipnhkkaa
open Go.RowKit Go.BigFrame Go.Sort

/-- What a call leaves as it was: all but the blocks of which S speaks, and new ones. -/
structure Kp (w w' : World) (S : Nat → Prop) : Prop where
  os : w'.os = w.os
  tape : w'.tape = w.tape
  output : w'.output = w.output
  size : w.heap.size ≤ w'.heap.size
  block : ∀ i, i < w.heap.size → ¬ S i → w'.heap[i]? = w.heap[i]?
theorem Kp.refl (w : World) (S : Nat → Prop) : Kp w w S := ⟨rfl, rfl, rfl, Nat.le_refl _, fun _ _ _ => rfl⟩
theorem Kp.trans {a b c : World} {S S' : Nat → Prop} (h : Kp a b S) (k : Kp b c S') (hS : ∀ i, S' i → S i ∨ a.heap.size ≤ i) : Kp a c S :=
  ⟨k.os.trans h.os, k.tape.trans h.tape, k.output.trans h.output, Nat.le_trans h.size k.size, fun i hi hn => (k.block i (Nat.lt_of_lt_of_le hi h.size) (fun hs => by
    rcases hS i hs with a | a
    · exact hn a
    · omega)).trans (h.block i hi hn)⟩
theorem Kp.mono {a b : World} {S S' : Nat → Prop} (h : Kp a b S) (hS : ∀ i, S i → S' i ∨ a.heap.size ≤ i) : Kp a b S' :=
  ⟨h.os, h.tape, h.output, h.size, fun i hi hn => h.block i hi (fun hs => by
    rcases hS i hs with a | a
    · exact hn a
    · omega)⟩
theorem Kp.drew {w w' : World} {S : Nat → Prop} (h : Kp w w' S) : Kp w w'.drew S := ⟨h.os, h.tape, h.output, h.size, h.block⟩
theorem Kp.of_below {w w' : World} (S : Nat → Prop) (h : Below w.heap.size w w') : Kp w w' S := ⟨h.os, h.tape, h.output, h.size, fun i hi _ => h.block i hi⟩
theorem Kp.below {w w' : World} {S : Nat → Prop} {B : Nat} (h : Kp w w' S) (hB : B ≤ w.heap.size) (hS : ∀ i, S i → B ≤ i) : Below B w w' :=
  ⟨h.os, h.tape, h.output, h.size, fun k hk => h.block k (by omega) (fun hs => by have := hS k hs; omega)⟩
theorem Kp.alloc {w w' : World} {S : Nat → Prop} (h : Kp w w' S) (o : Obj) : Kp w (w'.alloc o) S :=
  h.trans (Kp.of_below (fun _ => False) ((Below.refl _ _).alloc (Nat.le_refl _) o)) (fun _ h => h.elim)
theorem Kp.of_grown {w w' : World} {r : Option Nat} {S : Nat → Prop} (h : w.grownBy w' r) (hk : ∀ k, r = some k → S k) : Kp w w' S :=
  ⟨h.os, h.tape, h.output, h.size, fun i hi hn => h.block i hi (fun e => hn (hk i e.symm))⟩

theorem heap_set_same {w : World} {b o : Nat} {cs : Array Value} {t : TypeId} {fz : Nat × Nat} (h : w.heap[b]? = some (.cells cs t fz)) (v : Value) : (w.setCell ⟨b, o, none⟩ v).heap[b]? = some (.cells (cs.setIfInBounds o v) t fz) := by
  show (w.heap.modify b _)[b]? = _
  rw [Array.getElem?_modify, if_pos rfl, h]
  rfl
theorem heap_set_other {w : World} {b o i : Nat} (v : Value) (h : i ≠ b) : (w.setCell ⟨b, o, none⟩ v).heap[i]? = w.heap[i]? := Below.heap_setCell w ⟨b, o, none⟩ v i h
theorem Kp.setCell {w w' : World} {S : Nat → Prop} (h : Kp w w' S) {b o : Nat} (v : Value) (hb : S b ∨ w.heap.size ≤ b) : Kp w (w'.setCell ⟨b, o, none⟩ v) S := by
  refine h.trans (S' := fun i => i = b) ⟨rfl, rfl, rfl, ?_, fun i _ hi => heap_set_other v hi⟩ (fun i e => by subst e; exact hb)
  show _ ≤ (w'.heap.modify _ _).size
  rw [Array.size_modify]
  exact Nat.le_refl _
theorem blk_lt {w : World} {b : Nat} {o : Obj} (h : w.heap[b]? = some o) : b < w.heap.size := (Array.getElem?_eq_some_iff.1 h).1

/-- A pointer to a block, or none. -/
def pt : Option Nat → Value
  | none => .pointer none
  | some b => .pointer (some ⟨b, 0, none⟩)
theorem pt_none : pt none = .pointer none := rfl
theorem pt_some (b : Nat) : pt (some b) = .pointer (some ⟨b, 0, none⟩) := rfl
def upd {α : Type} (f : Nat → α) (n : Nat) (v : α) : Nat → α := fun k => if k = n then v else f k
theorem upd_same {α : Type} (f : Nat → α) (n : Nat) (v : α) : upd f n v n = v := by simp [upd]
theorem upd_other {α : Type} {f : Nat → α} {n k : Nat} {v : α} (h : k ≠ n) : upd f n v k = f k := by simp [upd, h]
abbrev zC : Cl := ⟨[], [], 0, false, []⟩

def a12 (g : Nat → Value) : Array Value := #[g 0, g 1, g 2, g 3, g 4, g 5, g 6, g 7, g 8, g 9, g 10, g 11]
theorem a12_set {g : Nat → Value} {n : Nat} (h : n < 12) (v : Value) : (a12 g).setIfInBounds n v = a12 (upd g n v) := by
  rcases n with _ | _ | _ | _ | _ | _ | _ | _ | _ | _ | _ | _ | n
  all_goals first | rfl | omega
theorem a12_get {g : Nat → Value} {n : Nat} (h : n < 12) : (a12 g)[n]? = some (g n) := by
  rcases n with _ | _ | _ | _ | _ | _ | _ | _ | _ | _ | _ | _ | n
  all_goals first | rfl | omega
theorem a12_congr {g g' : Nat → Value} (h : ∀ n, n < 12 → g n = g' n) : a12 g = a12 g' := by
  simp only [a12, h 0 (by omega), h 1 (by omega), h 2 (by omega), h 3 (by omega), h 4 (by omega), h 5 (by omega), h 6 (by omega), h 7 (by omega), h 8 (by omega), h 9 (by omega), h 10 (by omega), h 11 (by omega)]
/-- A tower's seventeen cells of memory. -/
def tw17 (c : Cl) (f : Nat → Option Nat) : Array Value := #[.string (bstr c.row), .string (bstr c.col), .int .u64 c.ver, .bool c.gone, .string (bstr c.val), pt (f 0), pt (f 1), pt (f 2), pt (f 3), pt (f 4), pt (f 5), pt (f 6), pt (f 7), pt (f 8), pt (f 9), pt (f 10), pt (f 11)]
theorem tw17_set {c : Cl} {f : Nat → Option Nat} {n : Nat} (h : n < 12) (v : Option Nat) : (tw17 c f).setIfInBounds (5 + n) (pt v) = tw17 c (upd f n v) := by
  rcases n with _ | _ | _ | _ | _ | _ | _ | _ | _ | _ | _ | _ | n
  all_goals first | rfl | omega
theorem tw17_get {c : Cl} {f : Nat → Option Nat} {n : Nat} (h : n < 12) : (tw17 c f)[5 + n]? = some (pt (f n)) := by
  rcases n with _ | _ | _ | _ | _ | _ | _ | _ | _ | _ | _ | _ | n
  all_goals first | rfl | omega
theorem tw17_congr {c : Cl} {f f' : Nat → Option Nat} (h : ∀ n, n < 12 → f n = f' n) : tw17 c f = tw17 c f' := by
  simp only [tw17, h 0 (by omega), h 1 (by omega), h 2 (by omega), h 3 (by omega), h 4 (by omega), h 5 (by omega), h 6 (by omega), h 7 (by omega), h 8 (by omega), h 9 (by omega), h 10 (by omega), h 11 (by omega)]

/-- A tower lies in a block. -/
def TwAt (w : World) (b : Nat) (c : Cl) (f : Nat → Option Nat) : Prop := w.heap[b]? = some (.cells (tw17 c f) 54 (0, 0))
theorem TwAt.lt {w : World} {b : Nat} {c : Cl} {f : Nat → Option Nat} (h : TwAt w b c f) : b < w.heap.size := blk_lt h
theorem TwAt.cells {w : World} {b : Nat} {c : Cl} {f : Nat → Option Nat} (h : TwAt w b c f) : w.cell? ⟨b, 0, none⟩ = some (.string (bstr c.row)) ∧ w.cell? ⟨b, 1, none⟩ = some (.string (bstr c.col)) ∧ w.cell? ⟨b, 2, none⟩ = some (.int .u64 c.ver) ∧ w.cell? ⟨b, 3, none⟩ = some (.bool c.gone) ∧ w.cell? ⟨b, 4, none⟩ = some (.string (bstr c.val)) := by
  have hb : w.heap[b]? = _ := h
  refine ⟨?_, ?_, ?_, ?_, ?_⟩ <;> (simp only [World.cell?, hb]; rfl)
theorem TwAt.next {w : World} {b : Nat} {c : Cl} {f : Nat → Option Nat} (h : TwAt w b c f) {n : Nat} (hn : n < 12) : w.cell? ⟨b, 5 + n, none⟩ = some (pt (f n)) := by
  have hb : w.heap[b]? = _ := h
  simp only [World.cell?, hb]
  exact tw17_get hn
theorem TwAt.free {w : World} {b : Nat} {c : Cl} {f : Nat → Option Nat} (h : TwAt w b c f) (o : Nat) : w.frozen? ⟨b, o, none⟩ = false := by
  have hb : w.heap[b]? = _ := h
  simp [World.frozen?, hb]
theorem TwAt.congr {w : World} {b : Nat} {c : Cl} {f f' : Nat → Option Nat} (h : TwAt w b c f) (e : ∀ n, n < 12 → f n = f' n) : TwAt w b c f' := by
  unfold TwAt at h ⊢
  rw [h, tw17_congr e]
theorem TwAt.set {w : World} {b : Nat} {c : Cl} {f : Nat → Option Nat} (h : TwAt w b c f) {n : Nat} (hn : n < 12) (v : Option Nat) : TwAt (w.setCell ⟨b, 5 + n, none⟩ (pt v)) b c (upd f n v) := by
  unfold TwAt at h ⊢
  rw [heap_set_same h, tw17_set hn]
theorem TwAt.put {w : World} {b : Nat} {c : Cl} {f : Nat → Option Nat} (h : TwAt w b c f) (d : Cl) : TwAt (((((w.setCell ⟨b, 0, none⟩ (.string (bstr d.row))).setCell ⟨b, 1, none⟩ (.string (bstr d.col))).setCell ⟨b, 2, none⟩ (.int .u64 d.ver)).setCell ⟨b, 3, none⟩ (.bool d.gone)).setCell ⟨b, 4, none⟩ (.string (bstr d.val))) b d f := by
  unfold TwAt at h ⊢
  rw [heap_set_same (heap_set_same (heap_set_same (heap_set_same (heap_set_same h _) _) _) _) _]
  rfl

/-- Towers that are chained. -/
structure Chn (w : World) (H : List Tw) : Prop where
  at_ : ∀ A t B, H = A ++ t :: B → TwAt w t.b t.c (lnk t B)
  nd : (H.map (fun t => t.b)).Nodup
theorem Chn.kept {w w' : World} {H : List Tw} (h : Chn w H) (hk : ∀ t ∈ H, w'.heap[t.b]? = w.heap[t.b]?) : Chn w' H :=
  ⟨fun A t B e => (hk t (by rw [e]; simp)).trans (h.at_ A t B e), h.nd⟩
theorem Chn.lt {w : World} {H : List Tw} (h : Chn w H) {t : Tw} (ht : t ∈ H) : t.b < w.heap.size := by
  obtain ⟨A, B, e⟩ := List.append_of_mem ht
  exact (h.at_ A t B e).lt
theorem nodup_ne {A B : List Tw} {t : Tw} (h : ((A ++ t :: B).map (fun t => t.b)).Nodup) : (∀ x ∈ A, x.b ≠ t.b) ∧ (∀ x ∈ B, x.b ≠ t.b) := by
  rw [List.map_append, List.map_cons] at h
  have h1 := List.nodup_append.1 h
  have h2 := List.nodup_cons.1 h1.2.1
  refine ⟨fun x hx => h1.2.2 x.b (List.mem_map.2 ⟨x, hx, rfl⟩) t.b (by simp), fun x hx e => h2.1 (List.mem_map.2 ⟨x, hx, e⟩)⟩
/-- Where a tower stands. -/
def posOf (H : List Tw) : Value → Nat
  | .pointer (some ⟨b, _, _⟩) => (H.map (fun t => t.b)).idxOf b
  | _ => 0
theorem posOf_at {A B : List Tw} {t : Tw} (h : ((A ++ t :: B).map (fun t => t.b)).Nodup) : posOf (A ++ t :: B) (pt (some t.b)) = A.length := by
  have h1 := (nodup_ne h).1
  show ((A ++ t :: B).map (fun t => t.b)).idxOf t.b = A.length
  rw [List.map_append, List.map_cons, List.idxOf_append, if_neg (by
    intro hm
    obtain ⟨x, hx, e⟩ := List.mem_map.1 hm
    exact h1 x hx e), List.idxOf_cons_self]
  simp

/-- A tower of height 0 is new. -/
theorem Chn.add {w : World} {A B : List Tw} (h : Chn w (A ++ B)) (c : Cl) : Chn (w.alloc (.cells (tw17 c (fun _ => none)) 54)) (A ++ ⟨w.heap.size, c, 0⟩ :: B) := by
  have hk : ∀ t ∈ A ++ B, (w.alloc (.cells (tw17 c (fun _ => none)) 54)).heap[t.b]? = w.heap[t.b]? := fun t ht => Below.heap_alloc _ _ _ (h.lt ht)
  have h2 := h.kept hk
  refine ⟨fun X t Y e => ?_, ?_⟩
  · rcases parts e with ⟨Z, e1, e2⟩ | ⟨e1, e2, e3⟩ | ⟨Z, e1, e2⟩
    · subst e1 e2
      refine (h2.at_ X t (Z ++ B) (by simp)).congr fun n _ => ?_
      unfold lnk
      rw [nxt_flat]
    · subst e1 e2 e3
      have : TwAt (w.alloc (.cells (tw17 c (fun _ => none)) 54)) w.heap.size c (fun _ => none) := heap_alloc_new _ _
      exact this.congr fun n _ => by simp [lnk]
    · subst e1 e2
      exact h2.at_ (A ++ Z) t Y (by simp)
  · have h3 := h.nd
    rw [List.map_append] at h3 ⊢
    rw [List.map_cons]
    have h4 := List.nodup_append.1 h3
    have hfr : ∀ x ∈ A ++ B, x.b ≠ w.heap.size := fun x hx => by have := h.lt hx; omega
    refine List.nodup_append.2 ⟨h4.1, List.nodup_cons.2 ⟨fun hm => ?_, h4.2.1⟩, fun a ha b hb => ?_⟩
    · obtain ⟨x, hx, e⟩ := List.mem_map.1 hm
      exact hfr x (by simp [hx]) e
    · rcases List.mem_cons.1 hb with rfl | hb
      · obtain ⟨x, hx, rfl⟩ := List.mem_map.1 ha
        exact hfr x (by simp [hx])
      · exact h4.2.2 a ha b hb
/-- A tower is linked one level higher. -/
theorem Chn.link {w w' : World} {HA B : List Tw} {b k : Nat} {c : Cl} {t : Tw} (h : Chn w (HA ++ ⟨b, c, k⟩ :: B)) (hk : k < 12) (ht : Last k HA t)
    (hw : w' = (w.setCell ⟨b, 5 + k, none⟩ (pt (nxt k B))).setCell ⟨t.b, 5 + k, none⟩ (pt (some b))) :
    Chn w' (HA ++ ⟨b, c, k + 1⟩ :: B) := by
  obtain ⟨X, Y, eA, htk, hY⟩ := ht
  have hne := nodup_ne h.nd
  have htb : t.b ≠ b := hne.1 t (by rw [eA]; simp)
  have hother : ∀ i, i ≠ b → i ≠ t.b → w'.heap[i]? = w.heap[i]? := fun i h1 h2 => by
    rw [hw, heap_set_other _ h2, heap_set_other _ h1]
  have hnd : ((HA ++ ⟨b, c, k + 1⟩ :: B).map (fun t => t.b)) = ((HA ++ ⟨b, c, k⟩ :: B).map (fun t => t.b)) := by simp
  refine ⟨fun P u Q e => ?_, by rw [hnd]; exact h.nd⟩
  rcases parts e with ⟨Z, e1, e2⟩ | ⟨e1, e2, e3⟩ | ⟨Z, e1, e2⟩
  · -- ahead of the new one
    subst e2
    have hu := h.at_ P u (Z ++ ⟨b, c, k⟩ :: B) (by rw [e1]; simp)
    have hub : u.b ≠ b := hne.1 u (by rw [e1]; simp)
    rw [eA] at e1
    rcases parts e1 with ⟨V, f1, f2⟩ | ⟨f1, f2, f3⟩ | ⟨V, f1, f2⟩
    · -- u ahead of t
      subst f2
      have hut : u.b ≠ t.b := by
        have hn := h.nd
        rw [eA] at hn
        have := (nodup_ne (A := X) (t := t) (B := Y ++ ⟨b, c, k⟩ :: B) (by simpa using hn)).1 u (by rw [f1]; simp)
        exact this
      have : TwAt w' u.b u.c (lnk u ((V ++ t :: Y) ++ ⟨b, c, k⟩ :: B)) := (hother _ hub hut).trans hu
      refine this.congr fun n _ => ?_
      unfold lnk
      rw [nxt_grow (Or.inr ⟨t, by simp, htk⟩)]
    · -- u is t
      subst f2 f3
      have h1 : TwAt (w.setCell ⟨b, 5 + k, none⟩ (pt (nxt k B))) t.b t.c (lnk t (Y ++ ⟨b, c, k⟩ :: B)) := (heap_set_other _ hub).trans hu
      have h2 := h1.set hk (some b)
      rw [← hw] at h2
      refine h2.congr fun n _ => ?_
      unfold lnk
      by_cases e : n = k
      · subst e
        rw [upd_same, if_pos htk, nxt_grown hY]
      · rw [upd_other e, nxt_grow (Or.inl e)]
    · -- u behind t
      subst f2
      have hut : u.b ≠ t.b := by
        have hn := h.nd
        rw [eA] at hn
        exact (nodup_ne (A := X) (t := t) (B := (V ++ u :: Z) ++ ⟨b, c, k⟩ :: B) (by simpa using hn)).2 u (by simp)
      have : TwAt w' u.b u.c (lnk u (Z ++ ⟨b, c, k⟩ :: B)) := (hother _ hub hut).trans hu
      refine this.congr fun n _ => ?_
      have huk : u.h ≤ k := hY u (by simp)
      unfold lnk
      by_cases q : n < u.h
      · rw [if_pos q, if_pos q, nxt_grow (Or.inl (by omega))]
      · rw [if_neg q, if_neg q]
  · -- the new one
    subst e1 e2 e3
    have hu := h.at_ HA ⟨b, c, k⟩ B rfl
    have h1 := hu.set hk (nxt k B)
    have h2 : TwAt w' b c (upd (lnk ⟨b, c, k⟩ B) k (nxt k B)) := by
      rw [hw]
      exact (heap_set_other _ (fun e => htb e.symm)).trans h1
    refine h2.congr fun n _ => ?_
    by_cases e : n = k
    · subst e
      rw [upd_same]
      simp [lnk]
    · rw [upd_other e]
      unfold lnk
      by_cases q : n < k
      · rw [if_pos q, if_pos (by simp; omega)]
      · rw [if_neg q, if_neg (by simp; omega)]
  · -- behind it
    subst e2
    have hu := h.at_ (HA ++ ⟨b, c, k⟩ :: Z) u Q (by simp)
    have hub : u.b ≠ b := hne.2 u (by simp)
    have hut : u.b ≠ t.b := by
      have hn := h.nd
      rw [eA] at hn
      exact (nodup_ne (A := X) (t := t) (B := Y ++ ⟨b, c, k⟩ :: (Z ++ u :: Q)) (by simpa using hn)).2 u (by simp)
    exact (hother _ hub hut).trans hu
/-- What the last one at a level has next. -/
theorem Chn.last {w : World} {HA B : List Tw} {k : Nat} {t : Tw} (h : Chn w (HA ++ B)) (ht : Last k HA t) : ∃ f, TwAt w t.b t.c f ∧ f k = nxt k B := by
  obtain ⟨X, Y, eA, htk, hY⟩ := ht
  refine ⟨_, h.at_ X t (Y ++ B) (by rw [eA]; simp), ?_⟩
  unfold lnk
  rw [if_pos htk, nxt_skip hY]
/-- A tower is given another cell. -/
theorem Chn.put {w w' : World} {A B : List Tw} {t : Tw} (h : Chn w (A ++ t :: B)) (d : Cl)
    (hw : w' = ((((w.setCell ⟨t.b, 0, none⟩ (.string (bstr d.row))).setCell ⟨t.b, 1, none⟩ (.string (bstr d.col))).setCell ⟨t.b, 2, none⟩ (.int .u64 d.ver)).setCell ⟨t.b, 3, none⟩ (.bool d.gone)).setCell ⟨t.b, 4, none⟩ (.string (bstr d.val))) :
    Chn w' (A ++ ⟨t.b, d, t.h⟩ :: B) := by
  have hne := nodup_ne h.nd
  have hother : ∀ i, i ≠ t.b → w'.heap[i]? = w.heap[i]? := fun i h1 => by
    rw [hw, heap_set_other _ h1, heap_set_other _ h1, heap_set_other _ h1, heap_set_other _ h1, heap_set_other _ h1]
  refine ⟨fun P u Q e => ?_, by simpa using h.nd⟩
  rcases parts e with ⟨Z, e1, e2⟩ | ⟨e1, e2, e3⟩ | ⟨Z, e1, e2⟩
  · subst e2
    have hu := h.at_ P u (Z ++ t :: B) (by rw [e1]; simp)
    have : TwAt w' u.b u.c (lnk u (Z ++ t :: B)) := (hother _ (hne.1 u (by rw [e1]; simp))).trans hu
    refine this.congr fun n _ => ?_
    unfold lnk
    rw [nxt_congr (t := t) (u := ⟨t.b, d, t.h⟩) rfl rfl]
  · subst e1 e2 e3
    have hu := (h.at_ A t B rfl).put d
    rw [← hw] at hu
    exact hu
  · subst e2
    exact (hother _ (hne.2 u (by simp))).trans (h.at_ (A ++ t :: Z) u Q (by simp))

/-! ### The list's own block -/
def ls14 (hd : Nat) (f : Nat → Int) (v : Value) : Array Value := #[pt (some hd), .int .i64 (f 0), .int .i64 (f 1), .int .i64 (f 2), .int .i64 (f 3), .int .i64 (f 4), .int .i64 (f 5), .int .i64 (f 6), .int .i64 (f 7), .int .i64 (f 8), .int .i64 (f 9), .int .i64 (f 10), .int .i64 (f 11), v]
theorem ls14_set {hd : Nat} {f : Nat → Int} {v : Value} {n : Nat} (h : n < 12) (x : Int) : (ls14 hd f v).setIfInBounds (1 + n) (.int .i64 x) = ls14 hd (upd f n x) v := by
  rcases n with _ | _ | _ | _ | _ | _ | _ | _ | _ | _ | _ | _ | n
  all_goals first | rfl | omega
theorem ls14_get {hd : Nat} {f : Nat → Int} {v : Value} {n : Nat} (h : n < 12) : (ls14 hd f v)[1 + n]? = some (.int .i64 (f n)) := by
  rcases n with _ | _ | _ | _ | _ | _ | _ | _ | _ | _ | _ | _ | n
  all_goals first | rfl | omega
theorem ls14_congr {hd : Nat} {f f' : Nat → Int} {v : Value} (h : ∀ n, n < 12 → f n = f' n) : ls14 hd f v = ls14 hd f' v := by
  simp only [ls14, h 0 (by omega), h 1 (by omega), h 2 (by omega), h 3 (by omega), h 4 (by omega), h 5 (by omega), h 6 (by omega), h 7 (by omega), h 8 (by omega), h 9 (by omega), h 10 (by omega), h 11 (by omega)]
/-- The head stands ahead of all towers. -/
abbrev hdT (hd : Nat) : Tw := ⟨hd, zC, 12⟩
def LsAt (w : World) (l hd : Nat) (f : Nat → Int) (v : Value) : Prop := w.heap[l]? = some (.cells (ls14 hd f v) 58 (0, 0))
theorem LsAt.lt {w : World} {l hd : Nat} {f : Nat → Int} {v : Value} (h : LsAt w l hd f v) : l < w.heap.size := blk_lt h
theorem LsAt.head {w : World} {l hd : Nat} {f : Nat → Int} {v : Value} (h : LsAt w l hd f v) : w.cell? ⟨l, 0, none⟩ = some (.pointer (some ⟨hd, 0, none⟩)) := by
  have hb : w.heap[l]? = _ := h
  simp only [World.cell?, hb]; rfl
theorem LsAt.above {w : World} {l hd : Nat} {f : Nat → Int} {v : Value} (h : LsAt w l hd f v) {n : Nat} (hn : n < 12) : w.cell? ⟨l, 1 + n, none⟩ = some (.int .i64 (f n)) := by
  have hb : w.heap[l]? = _ := h
  simp only [World.cell?, hb]
  exact ls14_get hn
theorem LsAt.walks {w : World} {l hd : Nat} {f : Nat → Int} {v : Value} (h : LsAt w l hd f v) : w.cell? ⟨l, 13, none⟩ = some v := by
  have hb : w.heap[l]? = _ := h
  simp only [World.cell?, hb]; rfl
theorem LsAt.free {w : World} {l hd : Nat} {f : Nat → Int} {v : Value} (h : LsAt w l hd f v) (o : Nat) : w.frozen? ⟨l, o, none⟩ = false := by
  have hb : w.heap[l]? = _ := h
  simp [World.frozen?, hb]
theorem LsAt.setA {w : World} {l hd : Nat} {f : Nat → Int} {v : Value} (h : LsAt w l hd f v) {n : Nat} (hn : n < 12) (x : Int) : LsAt (w.setCell ⟨l, 1 + n, none⟩ (.int .i64 x)) l hd (upd f n x) v := by
  unfold LsAt at h ⊢
  rw [heap_set_same h, ls14_set hn]
theorem LsAt.setW {w : World} {l hd : Nat} {f : Nat → Int} {v : Value} (h : LsAt w l hd f v) (u : Value) : LsAt (w.setCell ⟨l, 13, none⟩ u) l hd f u := by
  unfold LsAt at h ⊢
  rw [heap_set_same h]
  rfl
theorem LsAt.congr {w : World} {l hd : Nat} {f f' : Nat → Int} {v : Value} (h : LsAt w l hd f v) (e : ∀ n, n < 12 → f n = f' n) : LsAt w l hd f' v := by
  unfold LsAt at h ⊢
  rw [h, ls14_congr e]

def mayCl (c : Cl) : Bool := mayC c.row c.col c.ver c.gone c.val
/-- A list in memory: its block l, its head, its towers, the walks under way. -/
structure Ls (w : World) (l hd : Nat) (T : List Tw) (v : Value) (xs : List Value) : Prop where
  blk : LsAt w l hd (fun n => (cnt n T : Int)) v
  ch : Chn w (hdT hd :: T)
  asc : Asc (T.map (fun t => t.c))
  hgt : ∀ t ∈ T, 0 < t.h ∧ t.h ≤ 12
  may : ∀ t ∈ T, mayCl t.c = true
  row : Rw w 72 v xs
/-- The blocks of a list. -/
def Ow (l hd : Nat) (T : List Tw) (v : Value) (i : Nat) : Prop := i = l ∨ i = hd ∨ (∃ t ∈ T, i = t.b) ∨ v.ownBlock = some i
theorem own_at {w : World} {e : TypeId} {v : Value} {n : Nat} {xs : List Value} (h : w.ownsRow 0 e 1 v n xs) {i : Nat} (hi : v.ownBlock = some i) : ∃ cur, w.heap[i]? = some (.cells cur e (0, 0)) := by
  rcases h.2 with ⟨rfl, _⟩ | ⟨g, cap, cur, rfl, _, hg, _⟩
  · cases hi
  · cases hi; exact ⟨cur, hg⟩
theorem own_kept {w w' : World} {B sz : Nat} {e : TypeId} {v : Value} {n : Nat} {xs : List Value} (h : w.ownsRow B e sz v n xs) (hk : ∀ i, v.ownBlock = some i → w'.heap[i]? = w.heap[i]?) : w'.ownsRow B e sz v n xs := by
  rcases h.2 with h0 | ⟨g, cap, cur, hv, hbg, hg, r⟩
  · exact ⟨h.1, .inl h0⟩
  · exact ⟨h.1, .inr ⟨g, cap, cur, hv, hbg, (hk g (by rw [hv]; rfl)).trans hg, r⟩⟩
theorem Ls.kept {w w' : World} {l hd : Nat} {T : List Tw} {v : Value} {xs : List Value} (h : Ls w l hd T v xs) (hk : ∀ i, Ow l hd T v i → w'.heap[i]? = w.heap[i]?) : Ls w' l hd T v xs :=
  ⟨(hk l (Or.inl rfl)).trans h.blk, h.ch.kept fun t ht => by
    rcases List.mem_cons.1 ht with rfl | ht
    · exact hk _ (Or.inr (Or.inl rfl))
    · exact hk _ (Or.inr (Or.inr (Or.inl ⟨t, ht, rfl⟩))), h.asc, h.hgt, h.may, h.row.kept fun i hi => hk i (Or.inr (Or.inr (Or.inr hi)))⟩
theorem Ls.what {w : World} {l hd : Nat} {T : List Tw} {v : Value} {xs : List Value} (h : Ls w l hd T v xs) {i : Nat} (hi : Ow l hd T v i) :
    ∃ cur t, w.heap[i]? = some (.cells cur t (0, 0)) ∧ (t = 58 ∨ t = 54 ∨ t = 72) := by
  rcases hi with rfl | rfl | ⟨t, ht, rfl⟩ | hi
  · exact ⟨_, _, h.blk, Or.inl rfl⟩
  · exact ⟨_, _, h.ch.at_ [] (hdT i) T rfl, Or.inr (Or.inl rfl)⟩
  · obtain ⟨A, B, e⟩ := List.append_of_mem ht
    exact ⟨_, _, h.ch.at_ (hdT hd :: A) t B (by rw [e]; rfl), Or.inr (Or.inl rfl)⟩
  · obtain ⟨cur, hc⟩ := h.row.blk hi
    exact ⟨_, _, hc, Or.inr (Or.inr rfl)⟩
theorem Ls.lt {w : World} {l hd : Nat} {T : List Tw} {v : Value} {xs : List Value} (h : Ls w l hd T v xs) {i : Nat} (hi : Ow l hd T v i) : i < w.heap.size := by
  obtain ⟨cur, t, e, _⟩ := h.what hi
  exact blk_lt e
theorem Ls.below {w w' : World} {l hd : Nat} {T : List Tw} {v : Value} {xs : List Value} (h : Ls w l hd T v xs) (hb : Below w.heap.size w w') : Ls w' l hd T v xs := h.kept fun i hi => hb.block i (h.lt hi)
theorem Ls.other {w : World} {l hd : Nat} {T : List Tw} {v : Value} {xs : List Value} (h : Ls w l hd T v xs) {j : Nat} {cur : Array Value} {t : TypeId} {x : Nat × Nat} (hj : w.heap[j]? = some (.cells cur t x))
    (ht : t ≠ 58 ∧ t ≠ 54 ∧ t ≠ 72) : ¬ Ow l hd T v j := fun hi => by
  obtain ⟨cur', t', e, k⟩ := h.what hi
  rw [e] at hj
  cases hj
  rcases k with k | k | k
  · exact ht.1 k
  · exact ht.2.1 k
  · exact ht.2.2 k

end Go.Proofs.Ytijfmgpipnhkkaa
