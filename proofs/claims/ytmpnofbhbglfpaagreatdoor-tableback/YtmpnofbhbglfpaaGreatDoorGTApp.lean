/-
  What put has under way: the file, the index, the table, the names; what is kept of it.
  Drawn regions that read cells and then store into them: what is read is held up to the store.
  An append within a drawn region; what put's appends and stores leave.
-/
import Derived.Test.YtmpnofbhbglfpaaGreatDoorGTRnd
import Derived.Test.YtmpnofbhbglfpaaGreatDoorGZMk
namespace Go.Proofs.YtmpnofbhbglfpaaGreatDoor
open Go.RowKit

/-- Places as cells. -/
def plCells (ls : List (List UInt8 × List UInt8)) : List Value := ls.flatMap fun p => [.string (bstr p.1), .string (bstr p.2)]
theorem plCells_length (ls : List (List UInt8 × List UInt8)) : (plCells ls).length = ls.length * 2 := by
  unfold plCells
  induction ls with
  | nil => rfl
  | cons p ls ih => simp at ih ⊢; omega
theorem plCells_snoc (ls : List (List UInt8 × List UInt8)) (p : List UInt8 × List UInt8) : plCells (ls ++ [p]) = plCells ls ++ [.string (bstr p.1), .string (bstr p.2)] := by
  unfold plCells
  simp
/-- The rows of what is under way: file, index, bodies, lasts, names. -/
structure PV where
  f : Value
  i : Value
  b : Value
  l : Value
  n : Value
/-- What they hold. -/
structure PC where
  f : List UInt8
  i : List UInt8
  b : List (List UInt8)
  l : List (List UInt8 × List UInt8)
  n : List (List UInt8)
  p : List UInt8 × List UInt8
  k : Nat
/-- The blocks of what is under way. -/
def PO (b : Nat) (V : PV) (i : Nat) : Prop := (b ≤ i ∧ i < b + 8) ∨ V.f.ownBlock = some i ∨ V.i.ownBlock = some i ∨ V.b.ownBlock = some i ∨ V.l.ownBlock = some i ∨ V.n.ownBlock = some i
structure PS (w0 : World) (b : Nat) (V : PV) (C : PC) (W : World) : Prop where
  hb : b = w0.heap.size
  f : Bd W (b + 8) b V.f C.f
  i : Bd W (b + 8) (b + 1) V.i C.i
  e : W.heap[b + 1 + 1]? = some (.cells #[.int .i64 0] 24 (0, 0))
  l : W.heap[b + 1 + 1 + 1]? = some (.cells #[layV b (b + 1 + 1)] 106 (0, 0))
  t : W.heap[b + 1 + 1 + 1 + 1]? = some (.cells #[V.b, V.l, .string ⟨#[]⟩, .int .i64 (C.k : Int)] 79 (0, 0))
  q : W.heap[b + 1 + 1 + 1 + 1 + 1]? = some (.cells #[.pointer (some ⟨b + 1 + 1 + 1 + 1, 0, none⟩)] 30 (0, 0))
  m : W.heap[b + 1 + 1 + 1 + 1 + 1 + 1]? = some (.cells #[V.n] 65 (0, 0))
  z : W.heap[b + 1 + 1 + 1 + 1 + 1 + 1 + 1]? = some (.cells #[.string (bstr C.p.1), .string (bstr C.p.2)] 75 (0, 0))
  rn : W.ownsRow (b + 8) 9 1 V.n C.n.length (strCells C.n)
  rb : W.ownsRow (b + 8) 9 1 V.b C.b.length (strCells C.b)
  rl : W.ownsRow (b + 8) 75 2 V.l C.l.length (plCells C.l)
  s1 : ∀ i, V.n.ownBlock = some i → V.b.ownBlock ≠ some i
  s2 : ∀ i, V.f.ownBlock = some i → V.i.ownBlock ≠ some i
  be : Below w0.heap.size w0 W
  iv : C.i = [] → V.i = .slice none 0 0
/-- What a block of it is. -/
theorem PS.what {w0 W : World} {b : Nat} {V : PV} {C : PC} (h : PS w0 b V C W) {i : Nat} (hi : PO b V i) : ∃ cur t, W.heap[i]? = some (.cells cur t (0, 0)) ∧ t ≠ 39 := by
  rcases hi with ⟨h1, h2⟩ | hi | hi | hi | hi | hi
  · obtain rfl | rfl | rfl | rfl | rfl | rfl | rfl | rfl : i = b ∨ i = b + 1 ∨ i = b + 1 + 1 ∨ i = b + 1 + 1 + 1 ∨ i = b + 1 + 1 + 1 + 1 ∨ i = b + 1 + 1 + 1 + 1 + 1 ∨ i = b + 1 + 1 + 1 + 1 + 1 + 1 ∨ i = b + 1 + 1 + 1 + 1 + 1 + 1 + 1 := by omega
    · obtain ⟨p, _, e⟩ := h.f.blk; exact ⟨_, _, e, by decide⟩
    · obtain ⟨p, _, e⟩ := h.i.blk; exact ⟨_, _, e, by decide⟩
    · exact ⟨_, _, h.e, by decide⟩
    · exact ⟨_, _, h.l, by decide⟩
    · exact ⟨_, _, h.t, by decide⟩
    · exact ⟨_, _, h.q, by decide⟩
    · exact ⟨_, _, h.m, by decide⟩
    · exact ⟨_, _, h.z, by decide⟩
  · obtain ⟨_, _, cur, e⟩ := own_blk_lt h.f.row hi; exact ⟨_, _, e, by decide⟩
  · obtain ⟨_, _, cur, e⟩ := own_blk_lt h.i.row hi; exact ⟨_, _, e, by decide⟩
  · obtain ⟨_, _, cur, e⟩ := own_blk_lt h.rb hi; exact ⟨_, _, e, by decide⟩
  · obtain ⟨_, _, cur, e⟩ := own_blk_lt h.rl hi; exact ⟨_, _, e, by decide⟩
  · obtain ⟨_, _, cur, e⟩ := own_blk_lt h.rn hi; exact ⟨_, _, e, by decide⟩
theorem PS.lt {w0 W : World} {b : Nat} {V : PV} {C : PC} (h : PS w0 b V C W) {i : Nat} (hi : PO b V i) : i < W.heap.size := by
  obtain ⟨_, _, e, _⟩ := h.what hi
  exact blk_lt e
theorem PS.notC {w0 W : World} {b : Nat} {V : PV} {C : PC} (h : PS w0 b V C W) {i : Nat} (hi : CBlk W i) : ¬ PO b V i := fun ho => by
  obtain ⟨_, _, e, ht⟩ := h.what ho
  obtain ⟨_, _, e2⟩ := hi
  rw [e] at e2
  cases e2
  exact ht rfl
theorem PS.notL {w0 W : World} {b : Nat} {V : PV} {C : PC} (h : PS w0 b V C W) {i : Nat} {r : Loop} (hi : W.heap[i]? = some (.loop r)) : ¬ PO b V i := fun ho => by
  obtain ⟨_, _, e, ht⟩ := h.what ho
  rw [e] at hi
  cases hi
theorem PS.notD {w0 W : World} {b : Nat} {V : PV} {C : PC} (h : PS w0 b V C W) {i : Nat} {r : Option (List Deferred)} (hi : W.heap[i]? = some (.deferred r)) : ¬ PO b V i := fun ho => by
  obtain ⟨_, _, e, ht⟩ := h.what ho
  rw [e] at hi
  cases hi
/-- All its blocks are as they were. -/
theorem PS.kept {w0 W W' : World} {b : Nat} {V : PV} {C : PC} (h : PS w0 b V C W) (hk : ∀ i, PO b V i → W'.heap[i]? = W.heap[i]?) (hb : Below w0.heap.size w0 W') : PS w0 b V C W' := by
  have hx : ∀ i, b ≤ i → i < b + 8 → W'.heap[i]? = W.heap[i]? := fun i h1 h2 => hk i (Or.inl ⟨h1, h2⟩)
  exact ⟨h.hb, h.f.kept (hx _ (by omega) (by omega)) fun i hi => hk i (Or.inr (Or.inl hi)), h.i.kept (hx _ (by omega) (by omega)) fun i hi => hk i (Or.inr (Or.inr (Or.inl hi))),
    (hx _ (by omega) (by omega)).trans h.e, (hx _ (by omega) (by omega)).trans h.l, (hx _ (by omega) (by omega)).trans h.t, (hx _ (by omega) (by omega)).trans h.q, (hx _ (by omega) (by omega)).trans h.m, (hx _ (by omega) (by omega)).trans h.z,
    own_kept h.rn fun i hi => hk i (Or.inr (Or.inr (Or.inr (Or.inr (Or.inr hi))))), own_kept h.rb fun i hi => hk i (Or.inr (Or.inr (Or.inr (Or.inl hi)))), own_kept h.rl fun i hi => hk i (Or.inr (Or.inr (Or.inr (Or.inr (Or.inl hi))))), h.s1, h.s2, hb, h.iv⟩
theorem PS.below {w0 W W' : World} {b : Nat} {V : PV} {C : PC} (h : PS w0 b V C W) (hb : Below W.heap.size W W') : PS w0 b V C W' :=
  h.kept (fun i hi => hb.block i (h.lt hi)) (below2 h.be hb)
theorem Kp.below0 {w0 W W' : World} {S : Nat → Prop} (h : Below w0.heap.size w0 W) (k : Kp W W' S) (hS : ∀ i, S i → w0.heap.size ≤ i) : Below w0.heap.size w0 W' :=
  h.trans (k.below (B := w0.heap.size) h.size hS)
/-- Rows of different kinds, or different blocks. -/
theorem own_apart2 {w : World} {B B2 sz sz2 n n2 : Nat} {e e2 : TypeId} {v v2 : Value} {xs ys : List Value} (h : w.ownsRow B e sz v n xs) (h2 : w.ownsRow B2 e2 sz2 v2 n2 ys) (hne : e ≠ e2) {i : Nat} (hi : v.ownBlock = some i) : v2.ownBlock ≠ some i := fun h3 => by
  obtain ⟨_, _, cur, e1⟩ := own_blk_lt h hi
  obtain ⟨_, _, cur2, e3⟩ := own_blk_lt h2 h3
  rw [e1] at e3
  cases e3
  exact hne rfl

/-- The file is written to: all but its two blocks is kept. -/
theorem PS.wroteF {w0 W W' : World} {b : Nat} {V : PV} {C : PC} (h : PS w0 b V C W) {v : Value} {F : List UInt8} (hb : Bd W' (b + 8) b v F) (hk : Kp W W' (BdO b V.f)) (hv : ∀ i, v.ownBlock = some i → V.f.ownBlock = some i ∨ W.heap.size ≤ i) : PS w0 b { V with f := v } { C with f := F } W' := by
  have hbe := Kp.below0 h.be hk (fun i hi => by
    have := h.hb
    rcases hi with rfl | hi
    · omega
    · have := (own_blk_lt h.f.row hi).2.1; omega)
  have hx : ∀ i, b < i → i < b + 8 → W'.heap[i]? = W.heap[i]? := fun i h1 h2 => hk.block i (h.lt (Or.inl ⟨by omega, h2⟩)) (fun hi => by
    rcases hi with rfl | hi
    · omega
    · have := (own_blk_lt h.f.row hi).2.1; omega)
  have hr : ∀ (u : Value) (i : Nat), u.ownBlock = some i → i < W.heap.size → b + 8 ≤ i → V.f.ownBlock ≠ some i → W'.heap[i]? = W.heap[i]? := fun u i _ hl hbi hn => hk.block i hl (fun hi => by
    rcases hi with rfl | hi
    · omega
    · exact hn hi)
  have gi : ∀ i, V.i.ownBlock = some i → W'.heap[i]? = W.heap[i]? := fun i hi => hr V.i i hi (own_blk_lt h.i.row hi).1 (own_blk_lt h.i.row hi).2.1 (fun e => h.s2 i e hi)
  refine ⟨h.hb, hb, h.i.kept (hx _ (by omega) (by omega)) gi, (hx _ (by omega) (by omega)).trans h.e, (hx _ (by omega) (by omega)).trans h.l, (hx _ (by omega) (by omega)).trans h.t, (hx _ (by omega) (by omega)).trans h.q, (hx _ (by omega) (by omega)).trans h.m, (hx _ (by omega) (by omega)).trans h.z,
    own_kept h.rn fun i hi => hr V.n i hi (own_blk_lt h.rn hi).1 (own_blk_lt h.rn hi).2.1 (own_apart2 h.rn h.f.row (by decide) hi), own_kept h.rb fun i hi => hr V.b i hi (own_blk_lt h.rb hi).1 (own_blk_lt h.rb hi).2.1 (own_apart2 h.rb h.f.row (by decide) hi), own_kept h.rl fun i hi => hr V.l i hi (own_blk_lt h.rl hi).1 (own_blk_lt h.rl hi).2.1 (own_apart2 h.rl h.f.row (by decide) hi), h.s1, ?_, hbe, h.iv⟩
  intro i hi hii
  rcases hv i hi with h1 | h1
  · exact h.s2 i h1 hii
  · have := (own_blk_lt h.i.row hii).1; omega
/-- The index is written to. -/
theorem PS.wroteI {w0 W W' : World} {b : Nat} {V : PV} {C : PC} (h : PS w0 b V C W) {v : Value} {I : List UInt8} (hb : Bd W' (b + 8) (b + 1) v I) (hk : Kp W W' (BdO (b + 1) V.i)) (hv : ∀ i, v.ownBlock = some i → V.i.ownBlock = some i ∨ W.heap.size ≤ i) (hI : I ≠ []) : PS w0 b { V with i := v } { C with i := I } W' := by
  have hbe := Kp.below0 h.be hk (fun i hi => by
    have := h.hb
    rcases hi with rfl | hi
    · omega
    · have := (own_blk_lt h.i.row hi).2.1; omega)
  have hx : ∀ i, b ≤ i → i ≠ b + 1 → i < b + 8 → W'.heap[i]? = W.heap[i]? := fun i h1 h3 h2 => hk.block i (h.lt (Or.inl ⟨by omega, h2⟩)) (fun hi => by
    rcases hi with rfl | hi
    · exact h3 rfl
    · have := (own_blk_lt h.i.row hi).2.1; omega)
  have hr : ∀ (u : Value) (i : Nat), u.ownBlock = some i → i < W.heap.size → b + 8 ≤ i → V.i.ownBlock ≠ some i → W'.heap[i]? = W.heap[i]? := fun u i _ hl hbi hn => hk.block i hl (fun hi => by
    rcases hi with rfl | hi
    · omega
    · exact hn hi)
  have gi : ∀ i, V.f.ownBlock = some i → W'.heap[i]? = W.heap[i]? := fun i hi => hr V.f i hi (own_blk_lt h.f.row hi).1 (own_blk_lt h.f.row hi).2.1 (h.s2 i hi)
  refine ⟨h.hb, h.f.kept (hx _ (by omega) (by omega) (by omega)) gi, hb, (hx _ (by omega) (by omega) (by omega)).trans h.e, (hx _ (by omega) (by omega) (by omega)).trans h.l, (hx _ (by omega) (by omega) (by omega)).trans h.t, (hx _ (by omega) (by omega) (by omega)).trans h.q, (hx _ (by omega) (by omega) (by omega)).trans h.m, (hx _ (by omega) (by omega) (by omega)).trans h.z,
    own_kept h.rn fun i hi => hr V.n i hi (own_blk_lt h.rn hi).1 (own_blk_lt h.rn hi).2.1 (own_apart2 h.rn h.i.row (by decide) hi), own_kept h.rb fun i hi => hr V.b i hi (own_blk_lt h.rb hi).1 (own_blk_lt h.rb hi).2.1 (own_apart2 h.rb h.i.row (by decide) hi), own_kept h.rl fun i hi => hr V.l i hi (own_blk_lt h.rl hi).1 (own_blk_lt h.rl hi).2.1 (own_apart2 h.rl h.i.row (by decide) hi), h.s1, ?_, hbe, fun e => absurd e hI⟩
  intro i hi hii
  rcases hv i hii with h1 | h1
  · exact h.s2 i hi h1
  · have := (own_blk_lt h.f.row hi).1; omega
/-- A block of the eight is stored into. -/
theorem PS.store {w0 W : World} {b : Nat} {V : PV} {C : PC} (h : PS w0 b V C W) {k o : Nat} (hk : b ≤ k ∧ k < b + 8) (v : Value) : (∀ i, i ≠ k → (W.setCell ⟨k, o, none⟩ v).heap[i]? = W.heap[i]?) ∧ Below w0.heap.size w0 (W.setCell ⟨k, o, none⟩ v) := by
  refine ⟨fun i hi => heap_set_other v hi, ?_⟩
  have := h.hb
  exact h.be.setCell (p := ⟨k, o, none⟩) (by show w0.heap.size ≤ k; omega) v

end Go.Proofs.YtmpnofbhbglfpaaGreatDoor

namespace Go.Proofs.YtmpnofbhbglfpaaGreatDoor
open Go.RowKit

section
variable {P : Program} {ops : Array Oper} {Q : Exit → Act → World → Prop} {md : Region.Mode} {S0 S1 : World → Prop} {st : Nat}
/-- Whatever order is picked from here on: S0 holds behind every operation, S1 as long as number st has not come up. -/
def wpAnyS (P : Program) (md : Region.Mode) (ops : Array Oper) (Q : Exit → Act → World → Prop) (S0 S1 : World → Prop) (st : Nat) : Nat → Array Bool → Act → World → Prop
  | 0, listed, a, w => Region.ready md ops listed = [] ∧ Q .normal a w
  | fuel + 1, listed, a, w =>
    (Region.ready md ops listed = [] → Q .normal a w) ∧
    ∀ i ∈ Region.ready md ops listed, wpOp P ops Q i (fun a' w' => (S0 w' ∧ ((listed.setIfInBounds i true).getD st true = false → S1 w')) ∧ wpAnyS P md ops Q S0 S1 st fuel (listed.setIfInBounds i true) a' w') a w
theorem wpAny_of_S : ∀ (fuel : Nat) (listed : Array Bool) (a : Act) (w : World), wpAnyS P md ops Q S0 S1 st fuel listed a w → wpAny P md ops Q fuel listed a w
  | 0, _, _, _, h => h
  | fuel + 1, _, _, _, h => ⟨h.1, fun i hi => wpOp_mono (fun a' w' h' => wpAny_of_S fuel _ a' w' h'.2) (h.2 i hi)⟩
theorem wpAnyS_first {S : World → Prop} {Inv : Array Bool → Prop} {i : Nat} {oi : Oper} {v : Value} (hi : ops[i]? = some oi) (hsel : ∀ (j : Nat) (o : Oper) cs b, ops[j]? = some o → o.op ≠ .select cs b)
    (hQ : ∀ c a w, Q (.panic c) (a.put oi.dst v) w → Q (.panic c) a w) (hst : i ≠ st) (hI : ∀ (j : Nat) (listed : Array Bool), Inv listed → j ∈ Region.ready md ops listed → j ≠ i → listed.getD i true = false → Inv (listed.setIfInBounds j true)) (hS : ∀ (listed : Array Bool) w, Inv listed → S0 w ∧ (listed.getD st true = false → S1 w) → S w) :
    ∀ (fuel : Nat) (listed : Array Bool) (a : Act) (w : World),
      (∀ j oj, ops[j]? = some oj → j ≠ i → listed.getD j true = false → (∀ e ∈ oj.after, Region.binds md e = true → e.on ≠ i) → oi.apart ops oj = true) →
      i ∈ Region.ready md ops listed → YieldsIf P ops S oi v a → S w → S0 w → (listed.getD st true = false → S1 w) → Inv listed →
      wpAnyS P md ops Q S0 S1 st fuel (listed.setIfInBounds i true) (a.put oi.dst v) w → wpAnyS P md ops Q S0 S1 st (fuel + 1) listed a w := by
  intro fuel
  induction fuel with
  | zero =>
    intro listed a w _ hr hy hSw h0 h1 hin H
    refine ⟨fun h => (by rw [h] at hr; cases hr), fun j hj => ?_⟩
    by_cases hji : j = i
    · subst hji; exact hy.wpOp hi hSw ⟨⟨h0, fun e => h1 (by rw [getD_set_ne true hst] at e; exact e)⟩, H⟩
    · have := ready_mono hj hji
      rw [H.1] at this
      cases this
  | succ fuel ih =>
    intro listed a w hfree hr hy hSw h0 h1 hin H
    refine ⟨fun h => (by rw [h] at hr; cases hr), fun j hj => ?_⟩
    by_cases hji : j = i
    · subst hji; exact hy.wpOp hi hSw ⟨⟨h0, fun e => h1 (by rw [getD_set_ne true hst] at e; exact e)⟩, H⟩
    · have hH := H.2 j (ready_mono hj hji)
      obtain ⟨hjun, oj, hoj, hall⟩ := mem_ready.1 hj
      have hiun := (mem_ready.1 hr).1
      have hnot : ∀ e ∈ oj.after, Region.binds md e = true → e.on ≠ i := fun e he hb heq => by
        have h1 := hall e he hb
        rw [heq] at h1
        rcases Nat.lt_or_ge i listed.size with h' | h'
        · simp [h'] at hiun h1; rw [hiun] at h1; cases h1
        · simp [Array.getElem?_eq_none h'] at h1
      have h2 := wpOp_putIf hoj (hfree j oj hoj hji hjun hnot) (fun cs b => hsel i oi cs b hi) (fun cs b => hsel j oj cs b hoj) hQ hy hH
      have hfree' : ∀ k ok, ops[k]? = some ok → k ≠ i → (listed.setIfInBounds j true).getD k true = false →
          (∀ e ∈ ok.after, Region.binds md e = true → e.on ≠ i) → oi.apart ops ok = true := fun k ok hk hki hun hno => by
        refine hfree k ok hk hki ?_ hno
        by_cases hjk : j = k
        · subst hjk; exact hjun
        · rw [getD_set_ne true hjk] at hun; exact hun
      refine wpOp_mono (fun a' w' h3 => ?_) h2
      have e3 : ((listed.setIfInBounds i true).setIfInBounds j true).getD st true = (listed.setIfInBounds j true).getD st true := by
        rw [Array.setIfInBounds_comm _ _ (Ne.symm hji), getD_set_ne true hst]
      have hT : S0 w' ∧ ((listed.setIfInBounds j true).getD st true = false → S1 w') := ⟨h3.2.1.1, fun e => h3.2.1.2 (by rw [e3]; exact e)⟩
      refine ⟨hT, ih (listed.setIfInBounds j true) a' w' hfree' (ready_mono hr (Ne.symm hji)) h3.1 (hS _ w' (hI j listed hin hj hji hiun) hT) hT.1 hT.2 (hI j listed hin hj hji hiun) ?_⟩
      rw [Array.setIfInBounds_comm _ _ hji]
      exact h3.2.2
/-- Take a number first that yields wherever S0 holds. -/
theorem wpAnyS_takeA {i : Nat} {oi : Oper} {v : Value} {fuel : Nat} {listed : Array Bool} {a : Act} {w : World} (hi : ops[i]? = some oi)
    (hs : Region.noSelect ops = true) (hf : Region.free md ops listed i = true) (hr : (Region.ready md ops listed).contains i = true) (hst : (i == st) = false)
    (hQ : ∀ c a w, Q (.panic c) (a.put oi.dst v) w → Q (.panic c) a w) (hy : YieldsIf P ops S0 oi v a) (h0 : S0 w) (h1 : listed.getD st true = false → S1 w)
    (h : wpAnyS P md ops Q S0 S1 st fuel (listed.setIfInBounds i true) (a.put oi.dst v) w) : wpAnyS P md ops Q S0 S1 st (fuel + 1) listed a w :=
  wpAnyS_first (S := S0) (Inv := fun _ => True) hi (Region.noSelect_spec hs) hQ (by simpa using hst) (fun _ _ _ _ _ _ => trivial) (fun _ _ _ h => h.1) fuel listed a w (Region.free_spec hi hf) (by simpa using hr) hy h0 h0 h1 trivial h
/-- Does number st wait for number i? -/
def waitsB (md : Region.Mode) (ops : Array Oper) (st i : Nat) : Bool := ((ops[st]?).map fun o => o.after.any fun e => Region.binds md e && e.on == i).getD false
theorem waitsB_spec {st i : Nat} (h : waitsB md ops st i = true) {listed : Array Bool} (hr : st ∈ Region.ready md ops listed) (hun : listed.getD i true = false) : False := by
  obtain ⟨_, o, ho, hall⟩ := mem_ready.1 hr
  unfold waitsB at h
  rw [ho] at h
  simp only [Option.map_some, Option.getD_some, Array.any_eq_true] at h
  obtain ⟨k, hk, he⟩ := h
  rw [Bool.and_eq_true, beq_iff_eq] at he
  have h1 := hall _ (Array.getElem_mem hk) he.1
  rw [he.2] at h1
  rcases Nat.lt_or_ge i listed.size with h' | h'
  · simp [h'] at hun h1; rw [hun] at h1; cases h1
  · simp [Array.getElem?_eq_none h'] at h1
/-- Take a number first that yields wherever S0 and S1 hold, and that the store waits for. -/
theorem wpAnyS_takeB {i : Nat} {oi : Oper} {v : Value} {fuel : Nat} {listed : Array Bool} {a : Act} {w : World} (hi : ops[i]? = some oi)
    (hs : Region.noSelect ops = true) (hf : Region.free md ops listed i = true) (hr : (Region.ready md ops listed).contains i = true) (hst : (i == st) = false) (hwt : waitsB md ops st i = true) (hun : (listed.getD st true == false) = true)
    (hQ : ∀ c a w, Q (.panic c) (a.put oi.dst v) w → Q (.panic c) a w) (hy : YieldsIf P ops (fun w => S0 w ∧ S1 w) oi v a) (h0 : S0 w) (h1 : S1 w)
    (h : wpAnyS P md ops Q S0 S1 st fuel (listed.setIfInBounds i true) (a.put oi.dst v) w) : wpAnyS P md ops Q S0 S1 st (fuel + 1) listed a w :=
  wpAnyS_first (S := fun w => S0 w ∧ S1 w) (Inv := fun L => L.getD st true = false) hi (Region.noSelect_spec hs) hQ (by simpa using hst)
    (fun j L hL hj hji hiu => by
      have hne : j ≠ st := fun e => waitsB_spec hwt (e ▸ hj) hiu
      rw [getD_set_ne true hne]
      exact hL)
    (fun L w hL h => ⟨h.1, h.2 hL⟩) fuel listed a w (Region.free_spec hi hf) (by simpa using hr) hy ⟨h0, h1⟩ h0 (fun _ => h1) (by simpa using hun) h
/-- Whichever of those that may come up comes up. -/
def AllS (P : Program) (md : Region.Mode) (ops : Array Oper) (Q : Exit → Act → World → Prop) (S0 S1 : World → Prop) (st fuel : Nat) (listed : Array Bool) (a : Act) (w : World) (rs : List Nat) : Prop :=
  ∀ i ∈ rs, wpOp P ops Q i (fun a' w' => (S0 w' ∧ ((listed.setIfInBounds i true).getD st true = false → S1 w')) ∧ wpAnyS P md ops Q S0 S1 st fuel (listed.setIfInBounds i true) a' w') a w
theorem AllS.nil {fuel : Nat} {listed : Array Bool} {a : Act} {w : World} : AllS P md ops Q S0 S1 st fuel listed a w [] := fun _ h => by cases h
theorem AllS.cons {fuel : Nat} {listed : Array Bool} {a : Act} {w : World} {i : Nat} {o : Oper} {rs : List Nat} (ho : ops[i]? = some o) (hw : Region.wanted o (yielded ops a.tmps) = true)
    (h : ∀ K' : Act → World → Prop, Shut (∀ a w, S0 w → ((listed.setIfInBounds i true).getD st true = false → S1 w) → wpAnyS P md ops Q S0 S1 st fuel (listed.setIfInBounds i true) a w → K' a w) → Oper.wp P o a w K' Q)
    (hs : AllS P md ops Q S0 S1 st fuel listed a w rs) : AllS P md ops Q S0 S1 st fuel listed a w (i :: rs) := fun j hj => by
  rcases List.mem_cons.1 hj with rfl | hj
  · unfold wpOp
    simp only [ho, hw, if_true]
    exact Or.inl (h _ (fun a w h0 h1 hW => ⟨⟨h0, h1⟩, hW⟩))
  · exact hs j hj
theorem wpAnyS_ready {rs : List Nat} {fuel : Nat} {listed : Array Bool} {a : Act} {w : World} (hr : Region.ready md ops listed = rs) (hne : rs ≠ [])
    (h : AllS P md ops Q S0 S1 st fuel listed a w rs) : wpAnyS P md ops Q S0 S1 st (fuel + 1) listed a w := ⟨fun h0 => absurd (hr ▸ h0) hne, hr ▸ h⟩
theorem wpAnyS_done {listed : Array Bool} {a : Act} {w : World} (hr : Region.ready md ops listed = []) (h : Q .normal a w) : ∀ fuel, wpAnyS P md ops Q S0 S1 st fuel listed a w
  | 0 => ⟨hr, h⟩
  | _ + 1 => ⟨fun _ => h, by rw [hr]; simp⟩
/-- The beginning, inside a round. -/
theorem sto_round {n l0 id : Nat} {a : Act} {w : World} (hd : ops.toList.all noDefer = true) (hm : P.follows .mixedOrders = true)
    (h : wpAnyS P .any ops (Nrm Q) S0 S1 st ops.size (Array.replicate ops.size false) a w.drew) : (Code.region id ops true).wpIn (Fence.wide.inRound l0) n P Q a w := by
  have hd' : ∀ (i : Nat) (o : Oper), ops[i]? = some o → noDefer o = true := fun i o ho => by
    rw [← Array.getElem?_toList] at ho
    exact List.all_eq_true.1 hd o (List.mem_of_getElem? ho)
  have hLO : ¬ LetsOut (Nrm Q) := fun ⟨_, _, h⟩ => h
  refine wpIn_mono (Q := Nrm Q) (wpIn_region_any hm (wpAnyIn_inRound rfl hd' _ _ _ _ (wpAnyIn_wide hLO _ _ _ _ (wpAny_of_S _ _ _ _ h)))) ?_
  intro e a w hq
  cases e with
  | normal => exact hq
  | _ => exact (hq : False).elim
end

end Go.Proofs.YtmpnofbhbglfpaaGreatDoor

namespace Go.Proofs.YtmpnofbhbglfpaaGreatDoor
open Go.RowKit

/-- An append onto a row that is owned: where it lies behind it. -/
theorem append_at {P : Program} {w w' : World} {base : Nat} {t ty e : TypeId} {i : TypeInfo} {z : Value} {size bytes : Nat} (ht : P.underlying t = some (.slice e)) (hi : P.info? e = some i) (hz : i.zero = some z) (hsize : i.size = size) (hby : i.bytes = bytes)
    {v v' : Value} {n : Nat} {xs : List Value} (hown : w.ownsRow base e size v n xs) {ad : Addr} {m c : Nat} {news : List Value} (hm : 0 < m) (hl : news.length = m * size) (hnews : ∀ j u, news[j]? = some u → w.cell? (ad.add j) = some u) (h1 : ∀ u ∈ news, u.oneCell' = true)
    (h63 : n + m ≤ maxLen) (hbytes : (n + m) * bytes ≤ 140737488355328) (hr : (Builtin.append_ #[t, t] ty #[v, .slice (some ad) m c]).run P w = .ok v' w') : v'.ownBlock = v.ownBlock ∨ v'.ownBlock = some w.heap.size := by
  have hsmall : n + m ≤ 9223372036854775807 := by simp only [maxLen] at h63; omega
  have hxl : xs.length = n * size := hown.1
  subst hsize hby
  rcases hown.2 with ⟨rfl, rfl⟩ | ⟨g, cap, cur, rfl, hbg, hg, hnc, hcm, hcs, htake⟩
  · have hr2 := run_append_nil (P := P) w t ty e i z ht hi hz ad m c news hl hnews hm (by omega) (by rw [Nat.zero_add] at hbytes; omega)
    rw [hr2] at hr
    cases hr
    exact Or.inr rfl
  · by_cases hroom : n + m ≤ cap
    · have hfit : n * i.size + news.length ≤ cur.size := by
        rw [hl, hcs, ← Nat.add_mul]
        exact Nat.mul_le_mul_right _ hroom
      have hr2 := run_append_room (P := P) w t ty e i ht hi g n cap cur hg ad m c news hl hnews h1 hroom hfit
      rw [hr2] at hr
      cases hr
      exact Or.inl rfl
    · have holds : ∀ j u, xs[j]? = some u → w.cell? ((⟨g, 0, none⟩ : Addr).add j) = some u := hown.cells (g := g) rfl
      have hr2 := run_append_grow (P := P) w t ty e i z ht hi hz ⟨g, 0, none⟩ n cap xs hxl holds ad m c news hl hnews (by omega) (by omega) (growslice_fits (by omega) hbytes)
      rw [hr2] at hr
      cases hr
      exact Or.inr rfl
theorem op_app {P : Program} {w : World} {o : Oper} {a : Act} {K : Act → World → Prop} {Q : Exit → Act → World → Prop}
    (s x : Operand) (t : TypeId) (hop : o.op = Op.call { callee := Callee.builtin Builtin.append, args := #[s, x], argTypes := #[t, t] })
    (base : Nat) (e : TypeId) (i : TypeInfo) (z : Value) (size bytes : Nat) (h1 : P.underlying t = some (.slice e)) (h2 : P.info? e = some i) (h3 : i.zero = some z) (h4 : i.size = size) (h5 : i.bytes = bytes) (h6 : z.cells.size = size) (h7 : 0 < size)
    (v : Value) (k : Nat) (xs : List Value) (hs : a.eval s = v) (hown : w.ownsRow base e size v k xs) (ad : Addr) (m c : Nat) (news : List Value) (hm : 0 < m) (hx : a.eval x = .slice (some ad) m c) (hn : news.length = m * size)
    (hc : ∀ j u, news[j]? = some u → w.cell? (ad.add j) = some u) (h1c : ∀ u ∈ news, u.oneCell' = true) (b1 : k + m ≤ maxLen) (b2 : (k + m) * bytes ≤ 140737488355328) (b3 : base ≤ w.heap.size)
    (hK : ∀ v' w', w'.ownsRow base e size v' (k + m) (xs ++ news) → w.grownBy w' v.ownBlock → (v'.ownBlock = v.ownBlock ∨ v'.ownBlock = some w.heap.size) → K (a.put o.dst v') w') :
    Oper.wp P o a w K Q := by
  obtain ⟨v', w', hrun, r1, r2, r3⟩ := run_append_own (P := P) w base t o.type e i z size bytes h1 h2 h3 h4 h5 h6 h7 v k xs hown ad m c news hn hc h1c b1 b2 b3
  have hw := append_at (P := P) h1 h2 h3 h4 h5 hown hm hn hc h1c b1 b2 hrun
  unfold Oper.wp execOp
  simp only [hop, resolve, invoke, builtin, Sem.run_bind, Sem.run_pure, Result.andThen_ok, List.map_toArray, List.map_cons, List.map_nil, hs, hx, hrun]
  exact hK v' w' r1 r2 hw
theorem app_other {w : World} {v v' : Value} (hv : v'.ownBlock = v.ownBlock ∨ v'.ownBlock = some w.heap.size) {i : Nat} (hi : v'.ownBlock = some i) : v.ownBlock = some i ∨ w.heap.size ≤ i := by
  rcases hv with h | h
  · exact Or.inl (h ▸ hi)
  · rw [h] at hi
    cases hi
    exact Or.inr (Nat.le_refl _)
/-- A name is put behind the names. -/
theorem PS.named {w0 W Wa Wb : World} {b : Nat} {V : PV} {C : PC} (h : PS w0 b V C W) (hb : Below W.heap.size W Wa) {v : Value} {key : List UInt8} (hown : Wb.ownsRow (b + 8) 9 1 v (C.n.length + 1) (strCells C.n ++ [.string (bstr key)])) (hg : Wa.grownBy Wb V.n.ownBlock) (hv : v.ownBlock = V.n.ownBlock ∨ v.ownBlock = some Wa.heap.size) :
    PS w0 b { V with n := v } { C with n := C.n ++ [key] } (Wb.setCell ⟨b + 1 + 1 + 1 + 1 + 1 + 1, 0, none⟩ v) ∧ Kp W (Wb.setCell ⟨b + 1 + 1 + 1 + 1 + 1 + 1, 0, none⟩ v) (fun i => i = b + 1 + 1 + 1 + 1 + 1 + 1 ∨ V.n.ownBlock = some i) := by
  have ha := h.below hb
  have hlen : C.n.length + 1 = (C.n ++ [key]).length := by simp
  have hk1 : Kp Wa Wb (fun i => V.n.ownBlock = some i) := Kp.of_grown hg (fun k hk => hk)
  have hk : Kp W (Wb.setCell ⟨b + 1 + 1 + 1 + 1 + 1 + 1, 0, none⟩ v) (fun i => i = b + 1 + 1 + 1 + 1 + 1 + 1 ∨ V.n.ownBlock = some i) :=
    ((Kp.of_below _ hb).trans hk1 (fun i hi => Or.inl (Or.inr hi))).setCell v (Or.inl (Or.inl rfl))
  have hbe := Kp.below0 h.be hk (fun i hi => by
    have := h.hb
    rcases hi with rfl | hi
    · omega
    · have := (own_blk_lt h.rn hi).2.1; omega)
  have hx : ∀ i, b ≤ i → i ≠ b + 1 + 1 + 1 + 1 + 1 + 1 → i < b + 8 → (Wb.setCell ⟨b + 1 + 1 + 1 + 1 + 1 + 1, 0, none⟩ v).heap[i]? = W.heap[i]? := fun i h1 h3 h2 => hk.block i (h.lt (Or.inl ⟨h1, h2⟩)) (fun hi => by
    rcases hi with rfl | hi
    · exact h3 rfl
    · have := (own_blk_lt h.rn hi).2.1; omega)
  have hr : ∀ (i : Nat), i < W.heap.size → b + 8 ≤ i → V.n.ownBlock ≠ some i → (Wb.setCell ⟨b + 1 + 1 + 1 + 1 + 1 + 1, 0, none⟩ v).heap[i]? = W.heap[i]? := fun i hl hbi hn => hk.block i hl (fun hi => by
    rcases hi with rfl | hi
    · omega
    · exact hn hi)
  have hvn : ∀ i, v.ownBlock = some i → V.n.ownBlock = some i ∨ W.heap.size ≤ i := fun i hi => (app_other hv hi).imp id (fun h => Nat.le_trans hb.size h)
  have hmb : Wb.heap[b + 1 + 1 + 1 + 1 + 1 + 1]? = some (.cells #[V.n] 65 (0, 0)) := (hk1.block _ (blk_lt ha.m) (fun hi => by have := (own_blk_lt h.rn hi).2.1; omega)).trans ha.m
  have hvb : ∀ i, v.ownBlock = some i → b + 8 ≤ i := fun i hi => (own_blk_lt hown hi).2.1
  refine ⟨⟨h.hb, h.f.kept (hx _ (by omega) (by omega) (by omega)) fun i hi => hr i (own_blk_lt h.f.row hi).1 (own_blk_lt h.f.row hi).2.1 (own_apart2 h.f.row h.rn (by decide) hi), h.i.kept (hx _ (by omega) (by omega) (by omega)) fun i hi => hr i (own_blk_lt h.i.row hi).1 (own_blk_lt h.i.row hi).2.1 (own_apart2 h.i.row h.rn (by decide) hi),
    (hx _ (by omega) (by omega) (by omega)).trans h.e, (hx _ (by omega) (by omega) (by omega)).trans h.l, (hx _ (by omega) (by omega) (by omega)).trans h.t, (hx _ (by omega) (by omega) (by omega)).trans h.q, heap_set_same hmb v, (hx _ (by omega) (by omega) (by omega)).trans h.z, ?_,
    own_kept h.rb fun i hi => hr i (own_blk_lt h.rb hi).1 (own_blk_lt h.rb hi).2.1 (fun e => h.s1 i e hi), own_kept h.rl fun i hi => hr i (own_blk_lt h.rl hi).1 (own_blk_lt h.rl hi).2.1 (own_apart2 h.rl h.rn (by decide) hi), ?_, h.s2, hbe, h.iv⟩, hk⟩
  · refine own_kept (w := Wb) ?_ fun i hi => heap_set_other v (by have := hvb i hi; omega)
    show Wb.ownsRow (b + 8) 9 1 v (C.n ++ [key]).length (strCells (C.n ++ [key]))
    rw [← hlen, strCells_snoc]
    exact hown
  · intro i hi hbi
    rcases hvn i hi with h1 | h1
    · exact h.s1 i h1 hbi
    · have := (own_blk_lt h.rb hbi).1; omega
/-- The last place is put anew. -/
theorem PS.lasted {w0 W : World} {b : Nat} {V : PV} {C : PC} (h : PS w0 b V C W) (p : List UInt8 × List UInt8) :
    PS w0 b V { C with p := p } ((W.setCell ⟨b + 1 + 1 + 1 + 1 + 1 + 1 + 1, 0, none⟩ (.string (bstr p.1))).setCell ⟨b + 1 + 1 + 1 + 1 + 1 + 1 + 1, 1, none⟩ (.string (bstr p.2))) ∧ Kp W ((W.setCell ⟨b + 1 + 1 + 1 + 1 + 1 + 1 + 1, 0, none⟩ (.string (bstr p.1))).setCell ⟨b + 1 + 1 + 1 + 1 + 1 + 1 + 1, 1, none⟩ (.string (bstr p.2))) (fun i => i = b + 1 + 1 + 1 + 1 + 1 + 1 + 1) := by
  have hk : Kp W ((W.setCell ⟨b + 1 + 1 + 1 + 1 + 1 + 1 + 1, 0, none⟩ (.string (bstr p.1))).setCell ⟨b + 1 + 1 + 1 + 1 + 1 + 1 + 1, 1, none⟩ (.string (bstr p.2))) (fun i => i = b + 1 + 1 + 1 + 1 + 1 + 1 + 1) :=
    ((Kp.refl W (fun i => i = b + 1 + 1 + 1 + 1 + 1 + 1 + 1)).setCell _ (Or.inl rfl)).setCell _ (Or.inl rfl)
  have hz := heap_set_same (heap_set_same h.z (.string (bstr p.1)) (o := 0)) (.string (bstr p.2)) (o := 1)
  have hbe := Kp.below0 h.be hk (fun i hi => by have := h.hb; omega)
  refine ⟨?_, hk⟩
  have hx : ∀ i, PO b V i → i ≠ b + 1 + 1 + 1 + 1 + 1 + 1 + 1 → ((W.setCell ⟨b + 1 + 1 + 1 + 1 + 1 + 1 + 1, 0, none⟩ (.string (bstr p.1))).setCell ⟨b + 1 + 1 + 1 + 1 + 1 + 1 + 1, 1, none⟩ (.string (bstr p.2))).heap[i]? = W.heap[i]? := fun i hi hn => hk.block i (h.lt hi) hn
  generalize (W.setCell ⟨b + 1 + 1 + 1 + 1 + 1 + 1 + 1, 0, none⟩ (.string (bstr p.1))).setCell ⟨b + 1 + 1 + 1 + 1 + 1 + 1 + 1, 1, none⟩ (.string (bstr p.2)) = W' at *
  have hy : ∀ i, b ≤ i → i < b + 7 → W'.heap[i]? = W.heap[i]? := fun i h1 h2 => hx i (Or.inl ⟨h1, by omega⟩) (by omega)
  have big : ∀ i, b + 8 ≤ i → i ≠ b + 1 + 1 + 1 + 1 + 1 + 1 + 1 := fun i h1 => by omega
  exact ⟨h.hb, h.f.kept (hy _ (by omega) (by omega)) fun i hi => hx i (Or.inr (Or.inl hi)) (big i (own_blk_lt h.f.row hi).2.1), h.i.kept (hy _ (by omega) (by omega)) fun i hi => hx i (Or.inr (Or.inr (Or.inl hi))) (big i (own_blk_lt h.i.row hi).2.1),
    (hy _ (by omega) (by omega)).trans h.e, (hy _ (by omega) (by omega)).trans h.l, (hy _ (by omega) (by omega)).trans h.t, (hy _ (by omega) (by omega)).trans h.q, (hy _ (by omega) (by omega)).trans h.m, hz,
    own_kept h.rn fun i hi => hx i (Or.inr (Or.inr (Or.inr (Or.inr (Or.inr hi))))) (big i (own_blk_lt h.rn hi).2.1), own_kept h.rb fun i hi => hx i (Or.inr (Or.inr (Or.inr (Or.inl hi)))) (big i (own_blk_lt h.rb hi).2.1), own_kept h.rl fun i hi => hx i (Or.inr (Or.inr (Or.inr (Or.inr (Or.inl hi))))) (big i (own_blk_lt h.rl hi).2.1), h.s1, h.s2, hbe, h.iv⟩

/-- A body and a last place are put behind the others, and both stored. -/
theorem PS.bodied {w0 W Wa Wb Wc Wd : World} {b : Nat} {V : PV} {C : PC} (h : PS w0 b V C W) (hb : Below W.heap.size W Wa) {v u : Value} {s : List UInt8} {p : List UInt8 × List UInt8}
    (hown : Wb.ownsRow (b + 8) 9 1 v (C.b.length + 1) (strCells C.b ++ [.string (bstr s)])) (hg : Wa.grownBy Wb V.b.ownBlock) (hv : v.ownBlock = V.b.ownBlock ∨ v.ownBlock = some Wa.heap.size) (hc : Below Wb.heap.size Wb Wc)
    (hown2 : Wd.ownsRow (b + 8) 75 2 u (C.l.length + 1) (plCells C.l ++ [.string (bstr p.1), .string (bstr p.2)])) (hg2 : Wc.grownBy Wd V.l.ownBlock) :
    PS w0 b { V with b := v, l := u } { C with b := C.b ++ [s], l := C.l ++ [p] } ((Wd.setCell ⟨b + 1 + 1 + 1 + 1, 0, none⟩ v).setCell ⟨b + 1 + 1 + 1 + 1, 1, none⟩ u) ∧ Kp W ((Wd.setCell ⟨b + 1 + 1 + 1 + 1, 0, none⟩ v).setCell ⟨b + 1 + 1 + 1 + 1, 1, none⟩ u) (fun i => i = b + 1 + 1 + 1 + 1 ∨ V.b.ownBlock = some i ∨ V.l.ownBlock = some i) := by
  have ha := h.below hb
  have hk1 : Kp Wa Wb (fun i => V.b.ownBlock = some i) := Kp.of_grown hg (fun k hk => hk)
  have hk2 : Kp Wc Wd (fun i => V.l.ownBlock = some i) := Kp.of_grown hg2 (fun k hk => hk)
  have hkd : Kp W Wd (fun i => i = b + 1 + 1 + 1 + 1 ∨ V.b.ownBlock = some i ∨ V.l.ownBlock = some i) :=
    (((Kp.of_below (fun i => i = b + 1 + 1 + 1 + 1 ∨ V.b.ownBlock = some i ∨ V.l.ownBlock = some i) hb).trans hk1 (fun i hi => Or.inl (Or.inr (Or.inl hi)))).trans (Kp.of_below (fun _ => False) hc) (fun _ h => h.elim)).trans hk2 (fun i hi => Or.inl (Or.inr (Or.inr hi)))
  have hk : Kp W ((Wd.setCell ⟨b + 1 + 1 + 1 + 1, 0, none⟩ v).setCell ⟨b + 1 + 1 + 1 + 1, 1, none⟩ u) (fun i => i = b + 1 + 1 + 1 + 1 ∨ V.b.ownBlock = some i ∨ V.l.ownBlock = some i) :=
    (hkd.setCell v (Or.inl (Or.inl rfl))).setCell u (Or.inl (Or.inl rfl))
  have hnT : ∀ i, b + 8 ≤ i → i ≠ b + 1 + 1 + 1 + 1 := fun i h1 => by omega
  have htd : Wd.heap[b + 1 + 1 + 1 + 1]? = some (.cells #[V.b, V.l, .string ⟨#[]⟩, .int .i64 (C.k : Int)] 79 (0, 0)) := by
    have t1 : Wb.heap[b + 1 + 1 + 1 + 1]? = Wa.heap[b + 1 + 1 + 1 + 1]? := hk1.block _ (blk_lt ha.t) (fun hi => by have := (own_blk_lt h.rb hi).2.1; omega)
    have t2 : Wc.heap[b + 1 + 1 + 1 + 1]? = Wb.heap[b + 1 + 1 + 1 + 1]? := hc.block _ (blk_lt (t1.trans ha.t))
    have t3 : Wd.heap[b + 1 + 1 + 1 + 1]? = Wc.heap[b + 1 + 1 + 1 + 1]? := hk2.block _ (blk_lt (t2.trans (t1.trans ha.t))) (fun hi => by have := (own_blk_lt h.rl hi).2.1; omega)
    exact t3.trans (t2.trans (t1.trans ha.t))
  have ht5 := heap_set_same (heap_set_same htd v (o := 0)) u (o := 1)
  have hvv : ∀ i, v.ownBlock = some i → V.b.ownBlock = some i ∨ W.heap.size ≤ i := fun i hi => (app_other hv hi).imp id (fun h => Nat.le_trans hb.size h)
  have hbe := Kp.below0 h.be hk (fun i hi => by
    have := h.hb
    rcases hi with rfl | hi | hi
    · omega
    · have := (own_blk_lt h.rb hi).2.1; omega
    · have := (own_blk_lt h.rl hi).2.1; omega)
  have hvd : Wd.ownsRow (b + 8) 9 1 v (C.b.length + 1) (strCells C.b ++ [.string (bstr s)]) := by
    have o1 := own_belowS hown hc
    refine own_kept o1 fun i hi => hk2.block i (own_blk_lt o1 hi).1 (fun hl => ?_)
    have l1 : Wa.ownsRow (b + 8) 75 2 V.l C.l.length (plCells C.l) := ha.rl
    rcases app_other hv hi with e | e
    · exact own_apart2 h.rb h.rl (by decide) e hl
    · have := (own_blk_lt l1 hl).1; omega
  refine ⟨?_, hk⟩
  have hx : ∀ i, i < W.heap.size → i ≠ b + 1 + 1 + 1 + 1 → V.b.ownBlock ≠ some i → V.l.ownBlock ≠ some i → ((Wd.setCell ⟨b + 1 + 1 + 1 + 1, 0, none⟩ v).setCell ⟨b + 1 + 1 + 1 + 1, 1, none⟩ u).heap[i]? = W.heap[i]? := fun i hl h1 h2 h3 => hk.block i hl (fun hi => by
    rcases hi with e | e | e
    · exact h1 e
    · exact h2 e
    · exact h3 e)
  have hset : ∀ i, i ≠ b + 1 + 1 + 1 + 1 → ((Wd.setCell ⟨b + 1 + 1 + 1 + 1, 0, none⟩ v).setCell ⟨b + 1 + 1 + 1 + 1, 1, none⟩ u).heap[i]? = Wd.heap[i]? := fun i hi => (heap_set_other u hi).trans (heap_set_other v hi)
  generalize (Wd.setCell ⟨b + 1 + 1 + 1 + 1, 0, none⟩ v).setCell ⟨b + 1 + 1 + 1 + 1, 1, none⟩ u = W' at *
  have hy : ∀ i, b ≤ i → i ≠ b + 1 + 1 + 1 + 1 → i < b + 8 → W'.heap[i]? = W.heap[i]? := fun i h1 h3 h2 => hx i (h.lt (Or.inl ⟨h1, h2⟩)) h3 (fun e => by have := (own_blk_lt h.rb e).2.1; omega) (fun e => by have := (own_blk_lt h.rl e).2.1; omega)
  have row : ∀ i, i < W.heap.size → b + 8 ≤ i → V.b.ownBlock ≠ some i → V.l.ownBlock ≠ some i → W'.heap[i]? = W.heap[i]? := fun i hl h1 h2 h3 => hx i hl (hnT i h1) h2 h3
  refine ⟨h.hb, h.f.kept (hy _ (by omega) (by omega) (by omega)) fun i hi => row i (own_blk_lt h.f.row hi).1 (own_blk_lt h.f.row hi).2.1 (own_apart2 h.f.row h.rb (by decide) hi) (own_apart2 h.f.row h.rl (by decide) hi),
    h.i.kept (hy _ (by omega) (by omega) (by omega)) fun i hi => row i (own_blk_lt h.i.row hi).1 (own_blk_lt h.i.row hi).2.1 (own_apart2 h.i.row h.rb (by decide) hi) (own_apart2 h.i.row h.rl (by decide) hi),
    (hy _ (by omega) (by omega) (by omega)).trans h.e, (hy _ (by omega) (by omega) (by omega)).trans h.l, ht5, (hy _ (by omega) (by omega) (by omega)).trans h.q, (hy _ (by omega) (by omega) (by omega)).trans h.m, (hy _ (by omega) (by omega) (by omega)).trans h.z,
    own_kept h.rn fun i hi => row i (own_blk_lt h.rn hi).1 (own_blk_lt h.rn hi).2.1 (h.s1 i hi) (own_apart2 h.rn h.rl (by decide) hi), ?_, ?_, ?_, h.s2, hbe, h.iv⟩
  · have e1 : C.b.length + 1 = (C.b ++ [s]).length := by simp
    refine own_kept (w := Wd) ?_ fun i hi => hset i (hnT i (own_blk_lt hvd hi).2.1)
    show Wd.ownsRow (b + 8) 9 1 v (C.b ++ [s]).length (strCells (C.b ++ [s]))
    rw [← e1, strCells_snoc]
    exact hvd
  · have e1 : C.l.length + 1 = (C.l ++ [p]).length := by simp
    refine own_kept (w := Wd) ?_ fun i hi => hset i (hnT i (own_blk_lt hown2 hi).2.1)
    show Wd.ownsRow (b + 8) 75 2 u (C.l ++ [p]).length (plCells (C.l ++ [p]))
    rw [← e1, plCells_snoc]
    exact hown2
  · intro i hi hvi
    rcases hvv i hvi with e | e
    · exact h.s1 i hi e
    · have := (own_blk_lt h.rn hi).1; omega
/-- The cells are counted. -/
theorem PS.counted {w0 W : World} {b : Nat} {V : PV} {C : PC} (h : PS w0 b V C W) (n : Nat) :
    PS w0 b V { C with k := n } (W.setCell ⟨b + 1 + 1 + 1 + 1, 3, none⟩ (.int .i64 (n : Int))) ∧ Kp W (W.setCell ⟨b + 1 + 1 + 1 + 1, 3, none⟩ (.int .i64 (n : Int))) (fun i => i = b + 1 + 1 + 1 + 1) := by
  have hk : Kp W (W.setCell ⟨b + 1 + 1 + 1 + 1, 3, none⟩ (.int .i64 (n : Int))) (fun i => i = b + 1 + 1 + 1 + 1) := (Kp.refl W (fun i => i = b + 1 + 1 + 1 + 1)).setCell _ (Or.inl rfl)
  have ht := heap_set_same h.t (.int .i64 (n : Int)) (o := 3)
  have hbe := Kp.below0 h.be hk (fun i hi => by have := h.hb; omega)
  refine ⟨?_, hk⟩
  have hx : ∀ i, PO b V i → i ≠ b + 1 + 1 + 1 + 1 → (W.setCell ⟨b + 1 + 1 + 1 + 1, 3, none⟩ (.int .i64 (n : Int))).heap[i]? = W.heap[i]? := fun i hi hn => hk.block i (h.lt hi) hn
  generalize W.setCell ⟨b + 1 + 1 + 1 + 1, 3, none⟩ (.int .i64 (n : Int)) = W' at *
  have hy : ∀ i, b ≤ i → i ≠ b + 1 + 1 + 1 + 1 → i < b + 8 → W'.heap[i]? = W.heap[i]? := fun i h1 h3 h2 => hx i (Or.inl ⟨h1, h2⟩) h3
  have big : ∀ i, b + 8 ≤ i → i ≠ b + 1 + 1 + 1 + 1 := fun i h1 => by omega
  exact ⟨h.hb, h.f.kept (hy _ (by omega) (by omega) (by omega)) fun i hi => hx i (Or.inr (Or.inl hi)) (big i (own_blk_lt h.f.row hi).2.1), h.i.kept (hy _ (by omega) (by omega) (by omega)) fun i hi => hx i (Or.inr (Or.inr (Or.inl hi))) (big i (own_blk_lt h.i.row hi).2.1),
    (hy _ (by omega) (by omega) (by omega)).trans h.e, (hy _ (by omega) (by omega) (by omega)).trans h.l, ht, (hy _ (by omega) (by omega) (by omega)).trans h.q, (hy _ (by omega) (by omega) (by omega)).trans h.m, (hy _ (by omega) (by omega) (by omega)).trans h.z,
    own_kept h.rn fun i hi => hx i (Or.inr (Or.inr (Or.inr (Or.inr (Or.inr hi))))) (big i (own_blk_lt h.rn hi).2.1), own_kept h.rb fun i hi => hx i (Or.inr (Or.inr (Or.inr (Or.inl hi)))) (big i (own_blk_lt h.rb hi).2.1), own_kept h.rl fun i hi => hx i (Or.inr (Or.inr (Or.inr (Or.inr (Or.inl hi))))) (big i (own_blk_lt h.rl hi).2.1), h.s1, h.s2, hbe, h.iv⟩

end Go.Proofs.YtmpnofbhbglfpaaGreatDoor
