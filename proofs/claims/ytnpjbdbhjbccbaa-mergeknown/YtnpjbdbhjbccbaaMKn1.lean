/-
  The law MergeKnown: its calls, each for any state of it.
-/
import Derived.Test.YtnpjbdbhjbccbaaMNw
namespace Go.Proofs.Ytnpjbdbhjbccbaa
open Go.RowKit Go.BigFrame Go.Sort
attribute [local go_sem] size_bstr toList_bstr ls_def

abbrev cC1 : Cl := xc [99] 1 false
theorem fn_neq (g : Nat) (caps : Array Value) (w : World) : (binOp .neq 25 (.func (.func g) #[] caps) .nilFunc).run Try.prog w = .ok (.bool true) w := by
  simp only [binOp]
  simp [Op.equal, Op.maxDepth, fn_equalIn 9999 g caps w]
/-- A row that is nil, as it is handed to All. -/
def nilIn : InR := ⟨.nilFunc, fun _ => False, [], fun _ _ => True⟩
theorem nil_row (w : World) : RowW nilIn w := Or.inl ⟨rfl, rfl, fun _ h => h⟩
theorem lit_fits {l : List Cl} (h : ∀ c ∈ l, c.row.length ≤ 1 ∧ c.col.length ≤ 1 ∧ c.val.length ≤ 1) : ∀ c ∈ l, Fits c := fun c hc => ⟨by have := (h c hc).1; omega, by have := (h c hc).2.1; omega, by have := (h c hc).2.2; omega⟩
/-- Where the law stands: its list lies as it did; b: its row s was not asked yet. -/
structure PK (wl : World) (Fs : Nat → Prop) (Js : Nat → World → Prop) (b : Bool) (W : World) : Prop where
  t : ∃ g caps, Tlr g caps Fs [] Js
  k : Below wl.heap.size wl W
  j : b = true → Js 0 W
theorem PK.next {wl W W' : World} {Fs : Nat → Prop} {Js : Nat → World → Prop} {b : Bool} (h : PK wl Fs Js b W) (hb : Below W.heap.size W W') : PK wl Fs Js b W' := by
  obtain ⟨g, caps, hT⟩ := h.t
  exact ⟨h.t, below2 h.k hb, fun e => hT.below (h.j e) hb⟩
theorem PK.drew {wl W : World} {Fs : Nat → Prop} {Js : Nat → World → Prop} {b : Bool} (h : PK wl Fs Js b W) : PK wl Fs Js b W.drew := by
  obtain ⟨g, caps, hT⟩ := h.t
  exact ⟨h.t, ⟨h.k.os, h.k.tape, h.k.output, h.k.size, h.k.block⟩, fun e => hT.kept _ _ _ (h.j e) (fun _ _ => rfl)⟩
/-- A row that was made meanwhile. -/
def RK (wl : World) (Fs : Nat → Prop) (Js : Nat → World → Prop) (b : Bool) (g : Nat) (caps : Array Value) (cs : List Cl) (W : World) : Prop :=
  ∃ B F J, PK wl Fs Js b B ∧ Tlr g caps F cs J ∧ J 0 W ∧ (∀ i, F i → B.heap.size ≤ i) ∧ Below B.heap.size B W
theorem RK.k {wl W : World} {Fs : Nat → Prop} {Js : Nat → World → Prop} {b : Bool} {g : Nat} {caps : Array Value} {cs : List Cl} (h : RK wl Fs Js b g caps cs W) : PK wl Fs Js b W := by
  obtain ⟨B, F, J, h1, _, _, _, h5⟩ := h
  exact h1.next h5
section
variable {wl : World} {Fs : Nat → Prop} {Js : Nat → World → Prop} {b : Bool}
theorem kn_works {W : World} (h : PK wl Fs Js b W) : Calls Try.prog 14 #[] W fun e W' => e = .returned (.bool true) ∧ PK wl Fs Js b W' :=
  (works12_any W).mono fun _ _ ⟨h1, h2⟩ => ⟨h1, h.next h2⟩
theorem kn_at {W : World} (h : PK wl Fs Js b W) (r : List UInt8) (v : Int) (z : Bool) : Calls Try.prog 29 #[.string (bstr r), .int .u64 v, .bool z] W fun e W' => e = .returned (clV (xc r v z)) ∧ PK wl Fs Js b W' :=
  (at_any r v z W).mono fun _ _ ⟨h1, h2⟩ => ⟨h1, h.next h2⟩
theorem kn_lit {W : World} (h : PK wl Fs Js b W) (l : List Cl) (hf : ∀ c ∈ l, Fits c) (hn : l.length ≤ 3) :
    Calls Try.prog 16 #[.slice (some ⟨W.heap.size, 0, none⟩) l.length l.length] (W.alloc (.cells (ccells l).toArray 39)) fun e W' => ∃ vb, e = .returned (.func (.func 43) #[] #[.pointer (some ⟨vb, 0, none⟩)]) ∧ RK wl Fs Js b 43 #[.pointer (some ⟨vb, 0, none⟩)] l W' := by
  refine (Of_any (some ⟨W.heap.size, 0, none⟩) W.heap.size 0 l.length l _ (fun _ => ⟨rfl, CRow.lit W l _, by simp⟩) hf (by omega)).mono ?_
  rintro e w' ⟨vb, lb, rfl, hJ, hne, hv, hl, hb⟩
  simp at hv hl
  refine ⟨vb, rfl, W, _, _, h, Of_tlr vb lb l hne hf, hJ, fun i hi => ?_, below2 ((Below.refl _ _).alloc (Nat.le_refl _) _) hb⟩
  rcases hi with rfl | ⟨_, rfl⟩ <;> omega
theorem kn_of {W : World} (h : PK wl Fs Js b W) (q : Option Addr) (gb off cap : Nat) (l : List Cl) (hf : ∀ c ∈ l, Fits c) (hn : l.length ≤ 3) (hq : 0 < l.length → q = some ⟨gb, off, none⟩ ∧ CRow W gb off l ∧ gb < W.heap.size) :
    Calls Try.prog 16 #[.slice q l.length cap] W fun e W' => ∃ vb, e = .returned (.func (.func 43) #[] #[.pointer (some ⟨vb, 0, none⟩)]) ∧ RK wl Fs Js b 43 #[.pointer (some ⟨vb, 0, none⟩)] l W' := by
  refine (Of_any q gb off cap l W hq hf (by omega)).mono ?_
  rintro e w' ⟨vb, lb, rfl, hJ, hne, hv, hl, hb⟩
  refine ⟨vb, rfl, W, _, _, h, Of_tlr vb lb l hne hf, hJ, fun i hi => ?_, hb⟩
  rcases hi with rfl | ⟨_, rfl⟩ <;> omega
theorem kn_alive {W : World} {g : Nat} {caps : Array Value} {cs : List Cl} (h : RK wl Fs Js b g caps cs W) : Calls Try.prog 18 #[.func (.func g) #[] caps] W fun e W' => ∃ caps', e = .returned (.func (.func 45) #[] caps') ∧ RK wl Fs Js b 45 caps' (alvL (siftL newF none cs)) W' := by
  obtain ⟨B, F, J, h1, h2, h3, h4, h5⟩ := h
  refine (alive_rv (Or.inr ⟨_, _, rfl, h2⟩) W h3).mono ?_
  rintro e w9 ⟨c9, F9, J9, rfl, hT9, hJ9, hF9, hb9⟩
  refine ⟨c9, rfl, B, F9, J9, h1, hT9, hJ9, fun i hi => ?_, below2 h5 hb9⟩
  rcases hF9 i hi with k | k
  · exact h4 i k
  · have := h5.size; omega
theorem kn_alive0 {W : World} (h : PK wl Fs Js b W) : Calls Try.prog 18 #[.nilFunc] W fun e W' => ∃ caps', e = .returned (.func (.func 45) #[] caps') ∧ RK wl Fs Js b 45 caps' [] W' := by
  refine (alive_rv (F := fun _ => False) (cs := []) (J := fun _ _ => True) (Or.inl ⟨rfl, rfl, fun _ h => h⟩) W trivial).mono ?_
  rintro e w9 ⟨c9, F9, J9, rfl, hT9, hJ9, hF9, hb9⟩
  refine ⟨c9, rfl, W, F9, J9, h, hT9, hJ9, fun i hi => ?_, hb9⟩
  rcases hF9 i hi with k | k
  · exact k.elim
  · exact k
theorem kn_new0 {W : World} (h : PK wl Fs Js b W) : Calls Try.prog 15 #[.nilFunc] W fun e W' => ∃ caps', e = .returned (.func (.func 60) #[] caps') ∧ RK wl Fs Js b 60 caps' [] W' := by
  refine (newest_rv (F := fun _ => False) (cs := []) (J := fun _ _ => True) (Or.inl ⟨rfl, rfl, fun _ h => h⟩) W trivial).mono ?_
  rintro e w9 ⟨c9, F9, J9, rfl, hT9, hJ9, hF9, hb9, _⟩
  refine ⟨c9, rfl, W, F9, J9, h, hT9, hJ9, fun i hi => ?_, hb9⟩
  rcases hF9 i hi with k | k
  · exact k.elim
  · exact k
theorem kn_all0 {W : World} (h : PK wl Fs Js b W) : Calls Try.prog 11 #[.slice none 0 0] W fun e W' => ∃ vb, e = .returned (.func (.func 31) #[] #[.pointer (some ⟨vb, 0, none⟩)]) ∧ RK wl Fs Js b 31 #[.pointer (some ⟨vb, 0, none⟩)] [] W' := by
  refine (All_any none 0 0 0 [] W (fun h => absurd h (by simp)) (fun x hx => absurd hx (by simp)) List.Pairwise.nil (by simp) (fun x hx => absurd hx (by simp))).mono ?_
  rintro e w' ⟨vb, F, J, rfl, hT, hJ, hF, hb, _⟩
  refine ⟨vb, rfl, W, F, J, h, hT, hJ, fun i hi => ?_, hb⟩
  rcases hF i hi with ⟨x, hx, _⟩ | k
  · exact absurd hx (by simp)
  · exact k
theorem kn_all1 {W : World} {g : Nat} {caps : Array Value} {cs : List Cl} (h : RK wl Fs Js b g caps cs W) : Calls Try.prog 11 #[.slice (some ⟨W.heap.size, 0, none⟩) 1 1] (W.alloc (.cells #[.func (.func g) #[] caps] 25)) fun e W' => ∃ vb, e = .returned (.func (.func 31) #[] #[.pointer (some ⟨vb, 0, none⟩)]) ∧ RK wl Fs Js b 31 #[.pointer (some ⟨vb, 0, none⟩)] (sortL (siftL upF none cs)) W' := by
  obtain ⟨B, F, J, h1, h2, h3, h4, h5⟩ := h
  have hb1 : Below W.heap.size W (W.alloc (.cells #[.func (.func g) #[] caps] 25)) := (Below.refl _ _).alloc (Nat.le_refl _) _
  have hJ1 := h2.below h3 hb1
  have hc := (mcells (heap_alloc_new W (.cells #[.func (.func g) #[] caps] 25))).1 0
  refine (All_any (some ⟨W.heap.size, 0, none⟩) W.heap.size 0 1 [⟨.func (.func g) #[] caps, F, cs, J⟩] _ (fun _ => ⟨rfl, by simp, fun k x hx => by
      match k, hx with
      | 0, hx => cases hx; exact hc⟩) (fun x hx => by simp at hx; subst hx; exact Or.inr ⟨g, caps, rfl, h2, hJ1⟩) (by simp) (by simp) (fun x hx => by simp at hx; subst hx; exact h2.fits)).mono ?_
  rintro e w' ⟨vb, F', J', rfl, hT, hJ, hF, hb, _⟩
  have e1 : allL [⟨.func (.func g) #[] caps, F, cs, J⟩] = sortL (siftL upF none cs) := by simp [allL]
  rw [e1] at hT
  refine ⟨vb, rfl, B, F', J', h1, hT, hJ, fun i hi => ?_, below2 h5 (below2 hb1 hb)⟩
  rcases hF i hi with ⟨x, hx, k⟩ | k
  · simp at hx; subst hx; exact h4 i k
  · have := h5.size; simp at k; omega
theorem kn_list {W : World} {g : Nat} {caps : Array Value} {cs : List Cl} (h : RK wl Fs Js b g caps cs W) (most : Int) (hn : cs.length ≤ 100) (hm : most ≤ 1000) :
    Calls Try.prog 21 #[.func (.func g) #[] caps, .int .i64 most] W fun e W' => ∃ q gb cap, e = .returned (.slice q (cs.take most.toNat).length cap) ∧ Hid (0 < (cs.take most.toNat).length → q = some ⟨gb, 0, none⟩ ∧ CRow W' gb 0 (cs.take most.toNat) ∧ gb < W'.heap.size) ∧ PK wl Fs Js b W' := by
  obtain ⟨B, F, J, h1, h2, h3, h4, h5⟩ := h
  refine (List_row h2 0 most W h3 (by omega) (by omega)).mono ?_
  rintro e w' ⟨v, rfl, hown, _, hk⟩
  rw [List.drop_zero] at hown
  obtain ⟨q, gb, cap, rfl, _, hr⟩ := own_tells hown
  exact ⟨q, gb, cap, rfl, hr, h1.next (below2' h5 hk h4)⟩
theorem kn_tells {W : World} {g : Nat} {caps : Array Value} (h : RK wl Fs Js b g caps [] W) : Calls Try.prog 10 #[.func (.func g) #[] caps, .slice none 0 0] W fun e W' => e = .returned (.bool true) ∧ PK wl Fs Js b W' := by
  obtain ⟨B, F, J, h1, h2, h3, h4, h5⟩ := h
  refine (tells_yes h2 0 none 0 0 0 [] W h3 rfl (fun h => absurd h (by simp)) (by decide)).mono ?_
  rintro e w' ⟨rfl, hk⟩
  exact ⟨rfl, h1.next (below2' h5 hk h4)⟩
theorem kn_same {W : World} (h : PK wl Fs Js b W) (q q' : Option Addr) (gb cap gb' off' cap' : Nat) (cs : List Cl) (h1 : Hid (0 < cs.length → q = some ⟨gb, 0, none⟩ ∧ CRow W gb 0 cs ∧ gb < W.heap.size)) (h2 : 0 < cs.length → q' = some ⟨gb', off', none⟩ ∧ CRow W gb' off' cs) (hn : cs.length ≤ 100) :
    Calls Try.prog 24 #[.slice q cs.length cap, .slice q' cs.length cap'] W fun e W' => e = .returned (.bool true) ∧ PK wl Fs Js b W' :=
  (same_yes q q' gb 0 cap gb' off' cap' cs W (fun h0 => ⟨(h1.out h0).1, (h1.out h0).2.1⟩) h2 (by omega)).mono fun _ _ ⟨a, c⟩ => ⟨a, h.next c⟩
end
theorem kn_s {wl : World} {Fs : Nat → Prop} {Js : Nat → World → Prop} {W : World} {g : Nat} {caps : Array Value} (h : PK wl Fs Js true W) (hT : Tlr g caps Fs [] Js) (hF : ∀ i, Fs i → wl.heap.size ≤ i) : Calls Try.prog 10 #[.func (.func g) #[] caps, .slice none 0 0] W fun e W' => e = .returned (.bool true) ∧ PK wl Fs Js false W' := by
  refine (tells_yes hT 0 none 0 0 0 [] W (h.j rfl) rfl (fun h => absurd h (by simp)) (by decide)).mono ?_
  rintro e w' ⟨rfl, hk⟩
  exact ⟨rfl, h.t, below2' h.k hk hF, fun e => by cases e⟩
end Go.Proofs.Ytnpjbdbhjbccbaa
