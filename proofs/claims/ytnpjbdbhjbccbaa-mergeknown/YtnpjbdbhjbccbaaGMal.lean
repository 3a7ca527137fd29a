/-
  Ascending lists put together: the first least of their heads is told, and those like it are given up.
  merge.All: its rows, what they were asked, what is left of them; how one step of it changes that.
  merge.All: its list in memory under way.
  merge.All: what one step of it makes of what is told and left.
-/
import Derived.Test.YtnpjbdbhjbccbaaGMhd
namespace Go.Proofs.Ytnpjbdbhjbccbaa

theorem ccl_nneg {a b : Cl} : 0 ≤ ccl a b ↔ ccl b a ≤ 0 := by
  have h1 := ccl_neg (a := a) (b := b)
  constructor
  · intro h
    by_cases k : 0 < ccl b a
    · have := h1.2 k; omega
    · omega
  · intro h
    by_cases k : ccl a b < 0
    · have := h1.1 k; omega
    · omega
/-- The first least of a list. -/
structure Fst (l : List Hd) (r : Hd) : Prop where
  at_ : ∃ pre post, l = pre ++ r :: post ∧ ∀ q ∈ pre, 0 < ccl q.nx r.nx
  le : ∀ q ∈ l, 0 ≤ ccl q.nx r.nx
theorem minH_fst : ∀ (xs : List Hd) (m : Hd), Fst (m :: xs) (minH m xs)
  | [], m => ⟨⟨[], [], rfl, by simp⟩, fun q hq => by simp at hq; subst hq; show 0 ≤ ccl q.nx q.nx; rw [ccl_self]; omega⟩
  | x :: xs, m => by
    rw [minH_cons]
    split
    · rename_i hx
      obtain ⟨⟨pre, post, e, h1⟩, h2⟩ := minH_fst xs x
      have hm : 0 < ccl m.nx (minH x xs).nx := by
        have := ccl_nneg.1 (h2 x (by simp))
        exact ccl_neg.1 (ccl_le_lt this hx)
      refine ⟨⟨m :: pre, post, by rw [e]; rfl, fun q hq => ?_⟩, fun q hq => ?_⟩
      · rcases List.mem_cons.1 hq with rfl | hq
        · exact hm
        · exact h1 q hq
      · rcases List.mem_cons.1 hq with rfl | hq
        · omega
        · exact h2 q hq
    · rename_i hx
      obtain ⟨⟨pre, post, e, h1⟩, h2⟩ := minH_fst xs m
      have hxm : ccl m.nx x.nx ≤ 0 := ccl_nneg.1 (by omega)
      have hx0 : 0 ≤ ccl x.nx (minH m xs).nx := ccl_nneg.2 (ccl_le_trans (ccl_nneg.1 (h2 m (by simp))) hxm)
      refine ⟨?_, fun q hq => ?_⟩
      · cases pre with
        | nil =>
          have e1 : m = minH m xs := (List.cons.inj e).1
          refine ⟨[], x :: xs, ?_, by simp⟩
          rw [← e1]
          rfl
        | cons p pre =>
          obtain ⟨e1, e2⟩ := List.cons.inj e
          subst e1
          refine ⟨m :: x :: pre, post, ?_, fun q hq => ?_⟩
          · conv => lhs; rw [e2]
            rfl
          · have hmr := h1 m (by simp)
            rcases List.mem_cons.1 hq with rfl | hq
            · exact hmr
            · rcases List.mem_cons.1 hq with rfl | hq
              · exact ccl_neg.1 (ccl_lt_le (ccl_neg.2 hmr) hxm)
              · exact h1 q (by simp [hq])
      · rcases List.mem_cons.1 hq with rfl | hq
        · exact h2 q (by simp)
        · rcases List.mem_cons.1 hq with rfl | hq
          · exact hx0
          · exact h2 q (by simp [hq])

def fulL (p : Cl × List Cl) : List Cl := p.1 :: p.2
def resL (c : Cl) (p : Cl × List Cl) : List Cl := if ccl p.1 c = 0 then p.2 else p.1 :: p.2
theorem res_gt {c : Cl} {p : Cl × List Cl} (ha : Asc (fulL p)) (hp : 0 ≤ ccl p.1 c) : ∀ x ∈ resL c p, ccl c x < 0 := by
  obtain ⟨a1, _⟩ := List.pairwise_cons.1 ha
  intro x hx
  unfold resL at hx
  split at hx
  · rename_i h
    rw [ccl_eq_left h]
    exact a1 x hx
  · have hlt : ccl c p.1 < 0 := ccl_neg.2 (by omega)
    rcases List.mem_cons.1 hx with rfl | hx
    · exact hlt
    · exact ccl_lt_trans hlt (a1 x hx)
theorem ful_ge {c : Cl} {p : Cl × List Cl} (ha : Asc (fulL p)) (hp : 0 < ccl p.1 c) : ∀ x ∈ fulL p, ccl x c ≠ 0 := by
  intro x hx
  have h1 : ccl c x < 0 := by
    refine res_gt ha (by omega) x ?_
    unfold resL
    rw [if_neg (by omega)]
    exact hx
  have := ccl_neg.1 h1
  omega
theorem find_res {c : Cl} (P : Cl → Bool) (hP : ∀ x, ccl x c = 0 → P x = false) : ∀ ps : List (Cl × List Cl), (ps.map fulL).flatten.find? P = (ps.map (resL c)).flatten.find? P
  | [] => rfl
  | p :: ps => by
    rw [List.map_cons, List.map_cons, List.flatten_cons, List.flatten_cons, List.find?_append, List.find?_append, find_res P hP ps]
    congr 1
    unfold resL fulL
    split
    · rename_i h
      rw [List.find?_cons_of_neg (by rw [hP _ h]; simp)]
    · rfl
theorem mrg_step {ps : List (Cl × List Cl)} {c : Cl} (ha : ∀ p ∈ ps, Asc (fulL p)) (hle : ∀ p ∈ ps, 0 ≤ ccl p.1 c) (hf : ∃ pre p post, ps = pre ++ p :: post ∧ p.1 = c ∧ ∀ q ∈ pre, 0 < ccl q.1 c) :
    sortL (ps.map fulL).flatten = c :: sortL (ps.map (resL c)).flatten := by
  have S' := sortL_spec (ps.map (resL c)).flatten
  have hgt : ∀ x ∈ (ps.map (resL c)).flatten, ccl c x < 0 := by
    intro x hx
    obtain ⟨l, hl, hx⟩ := List.mem_flatten.1 hx
    obtain ⟨p, hp, rfl⟩ := List.mem_map.1 hl
    exact res_gt (ha p hp) (hle p hp) x hx
  refine (sortL_spec _).one ⟨List.pairwise_cons.2 ⟨fun s hs => hgt s (S'.sub s hs), S'.asc⟩, fun s hs => ?_, fun x hx => ?_⟩
  · rcases List.mem_cons.1 hs with rfl | hs
    · obtain ⟨pre, p, post, rfl, rfl, hpre⟩ := hf
      rw [List.map_append, List.flatten_append, List.find?_append, List.find?_eq_none.2 (by
        intro x hx
        obtain ⟨l, hl, hx⟩ := List.mem_flatten.1 hx
        obtain ⟨q, hq, rfl⟩ := List.mem_map.1 hl
        have := ful_ge (ha q (by simp [hq])) (hpre q hq) x hx
        simpa using this)]
      rw [List.map_cons, List.flatten_cons, Option.none_or]
      show (p.1 :: p.2 ++ _).find? _ = _
      rw [List.cons_append, List.find?_cons_of_pos (by rw [ccl_self]; rfl)]
    · rw [find_res _ (fun x hx => ?_)]
      · exact S'.fst s hs
      · have h1 := hgt s (S'.sub s hs)
        have h2 := ccl_eq_left (c := s) hx
        rw [decide_eq_false]
        omega
  · obtain ⟨l, hl, hx⟩ := List.mem_flatten.1 hx
    obtain ⟨p, hp, rfl⟩ := List.mem_map.1 hl
    by_cases h0 : ccl p.1 c = 0
    · rcases List.mem_cons.1 hx with rfl | hx
      · exact ⟨c, by simp, h0⟩
      · obtain ⟨s, hs, e⟩ := S'.all x (List.mem_flatten.2 ⟨_, List.mem_map.2 ⟨p, hp, rfl⟩, by unfold resL; rw [if_pos h0]; exact hx⟩)
        exact ⟨s, by simp [hs], e⟩
    · obtain ⟨s, hs, e⟩ := S'.all x (List.mem_flatten.2 ⟨_, List.mem_map.2 ⟨p, hp, rfl⟩, by unfold resL; rw [if_neg h0]; exact hx⟩)
      exact ⟨s, by simp [hs], e⟩

/-! ### Newest, rising -/
/-- The last one of what a sift has told. -/
theorem ddl_go : ∀ (l acc : List Cl) (y : Cl), acc.getLast? = some y → l.foldl (stp plc) acc = acc ++ siftL newF (some y) l
  | [], acc, y, _ => by simp [siftL_nil]
  | c :: l, acc, y, h => by
    rw [List.foldl_cons]
    cases hp : plc y c with
    | true =>
      rw [stp_yes h hp, siftL_no (show folB newF (some y) c = false by simp [folB, newF, hp])]
      -- the last one told is still y
      exact ddl_go l acc y h
    | false =>
      rw [stp_no h hp, siftL_yes (show folB newF (some y) c = true by simp [folB, newF, hp]), ddl_go l (acc ++ [c]) c (by simp)]
      simp
theorem ddl_sift (l : List Cl) : ddl plc l = siftL newF none l := by
  cases l with
  | nil => rfl
  | cons c l =>
    show (l.foldl (stp plc) (stp plc [] c)) = _
    rw [stp_none, ddl_go l [c] c (by simp), siftL_yes rfl]
    rfl
theorem asc_up : ∀ (l : List Cl) (lo : Option Cl), Asc (siftL upF lo l) ∧ ∀ y, lo = some y → ∀ x ∈ siftL upF lo l, ccl y x < 0
  | [], lo => by rw [siftL_nil]; exact ⟨List.Pairwise.nil, fun _ _ _ h => absurd h (by simp)⟩
  | c :: l, lo => by
    cases h : folB upF lo c with
    | true =>
      rw [siftL_yes h]
      obtain ⟨h1, h2⟩ := asc_up l (some c)
      refine ⟨List.pairwise_cons.2 ⟨h2 c rfl, h1⟩, fun y hy x hx => ?_⟩
      subst hy
      have hyc : ccl y c < 0 := of_decide_eq_true h
      rcases List.mem_cons.1 hx with rfl | hx
      · exact hyc
      · exact ccl_lt_trans hyc (h2 c rfl x hx)
    | false => rw [siftL_no h]; exact asc_up l lo
theorem up_asc : ∀ (l : List Cl) (lo : Option Cl), Asc l → (∀ y, lo = some y → ∀ x ∈ l, ccl y x < 0) → siftL upF lo l = l
  | [], lo, _, _ => siftL_nil _ _
  | c :: l, lo, ha, h => by
    obtain ⟨a1, a2⟩ := List.pairwise_cons.1 ha
    have hf : folB upF lo c = true := by
      cases lo with
      | none => rfl
      | some y => exact decide_eq_true (h y rfl c (by simp))
    rw [siftL_yes hf, up_asc l (some c) a2 (fun y hy x hx => by cases hy; exact a1 x hx)]

end Go.Proofs.Ytnpjbdbhjbccbaa

namespace Go.Proofs.Ytnpjbdbhjbccbaa
open Go.RowKit Go.BigFrame Go.Sort

/-- A row that All was handed, sifted. -/
structure Rd where
  cp : Array Value
  F : Nat → Prop
  cs : List Cl
  J : Nat → World → Prop
/-- A row with how often it was asked, and its next cell. -/
structure HS where
  r : Rd
  n : Nat
  nx : Cl
  has : Bool
def HS.hd (s : HS) : Hd := ⟨s.r.cp, s.nx, s.has⟩
def HS.left (s : HS) : List Cl := if s.has then s.nx :: s.r.cs.drop s.n else s.r.cs.drop s.n
/-- How many of a row's cells were told. -/
def HS.done (s : HS) : Nat := if s.has then s.n - 1 else s.n
structure HS.Ok (s : HS) : Prop where
  asc : Asc s.r.cs
  has : s.has = true → 0 < s.n ∧ s.r.cs[s.n - 1]? = some s.nx
  le : s.has = false → s.n ≤ s.r.cs.length
/-- Its next cell asked for, if it has none. -/
def HS.fill (s : HS) : HS := if s.has then s else ⟨s.r, s.n + 1, (s.r.cs[s.n]?).getD zC, decide (s.n < s.r.cs.length)⟩
theorem HS.fill_r (s : HS) : s.fill.r = s.r := by unfold HS.fill; split <;> rfl
theorem HS.fill_yes {s : HS} (h : s.has = true) : s.fill = s := by unfold HS.fill; rw [if_pos h]
theorem HS.fill_no {s : HS} (h : s.has = false) : s.fill = ⟨s.r, s.n + 1, (s.r.cs[s.n]?).getD zC, decide (s.n < s.r.cs.length)⟩ := by unfold HS.fill; rw [if_neg (by rw [h]; simp)]
/-- Behind the asking: a row that has a cell, or is at its end. -/
structure HS.Full (s : HS) : Prop where
  asc : Asc s.r.cs
  has : s.has = true → 0 < s.n ∧ s.r.cs[s.n - 1]? = some s.nx
  no : s.has = false → s.n = s.r.cs.length + 1
theorem HS.Ok.fill {s : HS} (h : s.Ok) : s.fill.Full ∧ s.fill.left = s.left ∧ (s.fill.has = false → s.left = []) ∧ s.done ≤ s.fill.done ∧ (s.fill.has = true → s.fill.done = s.done) ∧ (s.fill.has = false → s.done = s.r.cs.length) := by
  cases hh : s.has with
  | true =>
    rw [HS.fill_yes hh]
    exact ⟨⟨h.asc, h.has, fun e => (by rw [hh] at e; cases e)⟩, rfl, fun e => (by rw [hh] at e; cases e), Nat.le_refl _, fun _ => rfl, fun e => (by rw [hh] at e; cases e)⟩
  | false =>
    rw [HS.fill_no hh]
    have hle := h.le hh
    by_cases hn : s.n < s.r.cs.length
    · obtain ⟨c, hc⟩ : ∃ c, s.r.cs[s.n]? = some c := ⟨_, List.getElem?_eq_getElem hn⟩
      rw [hc, decide_eq_true hn]
      refine ⟨⟨h.asc, fun _ => ⟨Nat.succ_pos _, by simpa using hc⟩, fun e => (by cases e)⟩, ?_, fun e => (by cases e), ?_, ?_, fun e => (by cases e)⟩
      · simp [HS.left, hh, drop_get hc]
      · simp [HS.done, hh]
      · simp [HS.done, hh]
    · rw [decide_eq_false hn]
      refine ⟨⟨h.asc, fun e => (by cases e), fun _ => (by show s.n + 1 = s.r.cs.length + 1; omega)⟩, ?_, ?_, ?_, fun e => (by cases e), ?_⟩
      · simp only [HS.left, hh, Bool.false_eq_true, if_false]
        rw [List.drop_eq_nil_of_le (by omega), List.drop_eq_nil_of_le (by omega)]
      · intro _
        simp only [HS.left, hh, Bool.false_eq_true, if_false]
        exact List.drop_eq_nil_of_le (by omega)
      · simp [HS.done, hh]
      · intro _
        simp only [HS.done, hh, Bool.false_eq_true, if_false]
        omega
/-- A cell was told: what is like it is given up. -/
def HS.cut (c : Cl) (s : HS) : HS := ⟨s.r, s.n, s.nx, decide (ccl s.nx c ≠ 0)⟩
theorem HS.Full.cut {s : HS} (h : s.Full) (hh : s.has = true) (c : Cl) : (s.cut c).Ok ∧ (s.cut c).left = resL c (s.nx, s.r.cs.drop s.n) ∧ s.left = fulL (s.nx, s.r.cs.drop s.n) ∧ Asc (fulL (s.nx, s.r.cs.drop s.n)) := by
  obtain ⟨h0, h1⟩ := h.has hh
  have hl : s.n - 1 < s.r.cs.length := (List.getElem?_eq_some_iff.1 h1).1
  have hd : s.r.cs.drop (s.n - 1) = s.nx :: s.r.cs.drop s.n := by
    have := drop_get h1
    rwa [show s.n - 1 + 1 = s.n by omega] at this
  refine ⟨⟨h.asc, fun _ => ⟨h0, h1⟩, fun _ => (by show s.n ≤ s.r.cs.length; omega)⟩, ?_, ?_, ?_⟩
  · unfold HS.left HS.cut resL
    by_cases hz : ccl s.nx c = 0
    · simp [hz]
    · simp [hz]
  · unfold HS.left fulL
    rw [if_pos hh]
  · show Asc (s.nx :: s.r.cs.drop s.n)
    rw [← hd]
    exact List.Pairwise.sublist (List.drop_sublist _ _) h.asc

/-- Each row tells, is its own, and was asked as often as it says. -/
structure Inv (w : World) (vb b : Nat) (L : List HS) : Prop where
  t : ∀ s ∈ L, Tlr 60 s.r.cp s.r.F s.r.cs s.r.J
  j : ∀ s ∈ L, s.r.J s.n w
  d : L.Pairwise fun s t => ∀ i, s.r.F i → ¬ t.r.F i
  v : ∀ s ∈ L, ¬ s.r.F vb ∧ ¬ s.r.F b
theorem Inv.kept {w w' : World} {vb b : Nat} {L : List HS} (h : Inv w vb b L) (hk : ∀ s ∈ L, ∀ i, s.r.F i → w'.heap[i]? = w.heap[i]?) : Inv w' vb b L :=
  ⟨h.t, fun s hs => (h.t s hs).kept _ _ _ (h.j s hs) (hk s hs), h.d, h.v⟩
theorem Inv.kp {w w' : World} {vb b : Nat} {L : List HS} {S : Nat → Prop} (h : Inv w vb b L) (hk : Kp w w' S) (hS : ∀ s ∈ L, ∀ i, s.r.F i → ¬ S i) : Inv w' vb b L :=
  h.kept fun s hs i hi => hk.block i ((h.t s hs).lt _ _ (h.j s hs) i hi) (hS s hs i hi)
theorem Inv.below {w w' : World} {vb b : Nat} {L : List HS} (h : Inv w vb b L) (hb : Below w.heap.size w w') : Inv w' vb b L :=
  h.kp (Kp.of_below (fun _ => False) hb) (fun _ _ _ _ h => h)
theorem Inv.perm {w : World} {vb b : Nat} {L L' : List HS} (h : Inv w vb b L) (hp : L.Perm L') : Inv w vb b L' :=
  ⟨fun s hs => h.t s (hp.mem_iff.2 hs), fun s hs => h.j s (hp.mem_iff.2 hs), (hp.pairwise_iff (fun hxy i hi hy => hxy i hy hi)).1 h.d, fun s hs => h.v s (hp.mem_iff.2 hs)⟩
/-- Rows that tell the same, asked as often. -/
theorem Inv.same {w : World} {vb b : Nat} : ∀ {L L' : List HS}, Inv w vb b L → L'.map (fun s => (s.r, s.n)) = L.map (fun s => (s.r, s.n)) → Inv w vb b L' := by
  intro L L' h e
  have hm : ∀ s ∈ L', ∃ t ∈ L, t.r = s.r ∧ t.n = s.n := by
    intro s hs
    have : (s.r, s.n) ∈ L'.map (fun s => (s.r, s.n)) := List.mem_map.2 ⟨s, hs, rfl⟩
    rw [e] at this
    obtain ⟨t, ht, e2⟩ := List.mem_map.1 this
    exact ⟨t, ht, (Prod.mk.inj e2).1, (Prod.mk.inj e2).2⟩
  refine ⟨fun s hs => ?_, fun s hs => ?_, ?_, fun s hs => ?_⟩
  · obtain ⟨t, ht, e1, _⟩ := hm s hs; rw [← e1]; exact h.t t ht
  · obtain ⟨t, ht, e1, e2⟩ := hm s hs; rw [← e1, ← e2]; exact h.j t ht
  · have h1 : (L.map (fun s => (s.r, s.n))).Pairwise fun p q => ∀ i, p.1.F i → ¬ q.1.F i := List.pairwise_map.2 h.d
    rw [← e] at h1
    exact List.pairwise_map.1 h1
  · obtain ⟨t, ht, e1, _⟩ := hm s hs; rw [← e1]; exact h.v t ht
/-- One row is asked once more. -/
theorem Inv.ask {w w' : World} {vb b : Nat} {A B : List HS} {s s' : HS} (h : Inv w vb b (A ++ s :: B)) (hr : s'.r = s.r) (hn : s'.n = s.n + 1) (hj : s.r.J (s.n + 1) w') (hk : Kp w w' s.r.F) : Inv w' vb b (A ++ s' :: B) := by
  have hd := List.pairwise_append.1 h.d
  have hd2 := List.pairwise_cons.1 hd.2.1
  have hA : ∀ t ∈ A, ∀ i, t.r.F i → ¬ s.r.F i := fun t ht => hd.2.2 t ht s (by simp)
  have hB : ∀ t ∈ B, ∀ i, t.r.F i → ¬ s.r.F i := fun t ht i hi hs => hd2.1 t ht i hs hi
  refine ⟨fun t ht => ?_, fun t ht => ?_, ?_, fun t ht => ?_⟩
  · rcases List.mem_append.1 ht with ht | ht
    · exact h.t t (by simp [ht])
    · rcases List.mem_cons.1 ht with rfl | ht
      · rw [hr]; exact h.t s (by simp)
      · exact h.t t (by simp [ht])
  · rcases List.mem_append.1 ht with ht | ht
    · exact (h.t t (by simp [ht])).kp (h.j t (by simp [ht])) hk (fun i h1 h2 => hA t ht i h2 h1)
    · rcases List.mem_cons.1 ht with rfl | ht
      · rw [hr, hn]; exact hj
      · exact (h.t t (by simp [ht])).kp (h.j t (by simp [ht])) hk (fun i h1 h2 => hB t ht i h2 h1)
  · refine List.pairwise_append.2 ⟨hd.1, List.pairwise_cons.2 ⟨?_, hd2.2⟩, ?_⟩
    · rw [hr]; exact hd2.1
    · intro t ht u hu
      rcases List.mem_cons.1 hu with rfl | hu
      · rw [hr]; exact hA t ht
      · exact hd.2.2 t ht u (by simp [hu])
  · rcases List.mem_append.1 ht with ht | ht
    · exact h.v t (by simp [ht])
    · rcases List.mem_cons.1 ht with rfl | ht
      · rw [hr]; exact h.v s (by simp)
      · exact h.v t (by simp [ht])

end Go.Proofs.Ytnpjbdbhjbccbaa

namespace Go.Proofs.Ytnpjbdbhjbccbaa
open Go.RowKit Go.BigFrame Go.Sort

def AllF (rows : List Rd) (vb b i : Nat) : Prop := i = vb ∨ i = b ∨ ∃ r ∈ rows, r.F i
/-- What does not change while All is asked. -/
structure AllFix (w0 : World) (rows : List Rd) (vb b cap : Nat) : Prop where
  ne : vb ≠ b
  hv : vb < w0.heap.size
  hb : b < w0.heap.size
  f : ∀ r ∈ rows, ∀ i, r.F i → i < w0.heap.size ∧ i ≠ vb ∧ i ≠ b
/-- All under way: L: its list; D: rows that were given up; the block behind w0's: what will be answered. -/
structure AllG (w0 w : World) (rows : List Rd) (vb b cap : Nat) (L D : List HS) : Prop where
  inv : Inv w vb b (L ++ D)
  v : w.heap[vb]? = some (.cells #[.slice (some ⟨b, 0, none⟩) L.length cap] 49 (0, 0))
  h : HB w b (L.map HS.hd)
  z : w.heap[w0.heap.size]? = some (cObj zC)
  k : Kp w0 w (AllF rows vb b)
  m : ∀ s ∈ L ++ D, s.r ∈ rows
  c : L.length ≤ cap
  n : L.length ≤ 100000
theorem AllG.below {w0 w w' : World} {rows : List Rd} {vb b cap : Nat} {L D : List HS} (h : AllG w0 w rows vb b cap L D) (hb : Below w.heap.size w w') : AllG w0 w' rows vb b cap L D :=
  ⟨h.inv.below hb, (hb.block _ (blk_lt h.v)).trans h.v, h.h.below hb, (hb.block _ (blk_lt h.z)).trans h.z, h.k.trans (Kp.of_below (fun _ => False) hb) (fun _ h => h.elim), h.m, h.c, h.n⟩
theorem set_mid {α : Type} (A B : List α) (x y : α) : (A ++ x :: B).set A.length y = A ++ y :: B := by
  rw [List.set_append_right _ _ (Nat.le_refl _), Nat.sub_self]
  rfl
theorem get_mid {α : Type} (A B : List α) (x : α) : (A ++ x :: B)[A.length]? = some x := by
  rw [List.getElem?_append_right (Nat.le_refl _), Nat.sub_self]
  rfl
/-- A row was asked: what is kept. -/
theorem AllG.asked {w0 w w1 : World} {rows : List Rd} {vb b cap : Nat} {L D : List HS} {r : Rd} (hf : AllFix w0 rows vb b cap) (h : AllG w0 w rows vb b cap L D) (hr : r ∈ rows) (hk : Kp w w1 r.F) :
    w1.heap[vb]? = some (.cells #[.slice (some ⟨b, 0, none⟩) L.length cap] 49 (0, 0)) ∧ HB w1 b (L.map HS.hd) ∧ w1.heap[w0.heap.size]? = some (cObj zC) ∧ Kp w0 w1 (AllF rows vb b) := by
  have hn := hf.f r hr
  refine ⟨(hk.block _ (blk_lt h.v) (fun e => (hn _ e).2.1 rfl)).trans h.v, h.h.kept (hk.block _ h.h.lt (fun e => (hn _ e).2.2 rfl)), (hk.block _ (blk_lt h.z) (fun e => by have := (hn _ e).1; omega)).trans h.z, h.k.trans hk (fun i hi => Or.inl (Or.inr (Or.inr ⟨r, hr, hi⟩)))⟩
/-- The cell that a row told is laid into the list. -/
theorem AllG.filled {w0 w w1 w2 : World} {rows : List Rd} {vb b cap : Nat} {A B D : List HS} {s : HS} (hf : AllFix w0 rows vb b cap) (h : AllG w0 w rows vb b cap (A ++ s :: B) D) (hh : s.has = false) (hk : Kp w w1 s.r.F) (hj : s.r.J (s.n + 1) w1)
    (hw : (((((w1.setCell ⟨b, A.length * 7 + 1, none⟩ (.string (bstr ((s.r.cs[s.n]?).getD zC).row))).setCell ⟨b, A.length * 7 + 2, none⟩ (.string (bstr ((s.r.cs[s.n]?).getD zC).col))).setCell ⟨b, A.length * 7 + 3, none⟩ (.int .u64 ((s.r.cs[s.n]?).getD zC).ver)).setCell ⟨b, A.length * 7 + 4, none⟩ (.bool ((s.r.cs[s.n]?).getD zC).gone)).setCell ⟨b, A.length * 7 + 5, none⟩ (.string (bstr ((s.r.cs[s.n]?).getD zC).val))).setCell ⟨b, A.length * 7 + 6, none⟩ (.bool (decide (s.n < s.r.cs.length))) = w2) :
    AllG w0 w2 rows vb b cap (A ++ s.fill :: B) D := by
  have hsm : s.r ∈ rows := h.m s (by simp)
  obtain ⟨a1, a2, a3, a4⟩ := h.asked hf hsm hk
  have hset : ∀ i, i ≠ b → w2.heap[i]? = w1.heap[i]? := fun i hi => by
    rw [← hw]
    rw [heap_set_other _ hi, heap_set_other _ hi, heap_set_other _ hi, heap_set_other _ hi, heap_set_other _ hi, heap_set_other _ hi]
  have hI1 : Inv w1 vb b (A ++ s.fill :: (B ++ D)) := by
    refine Inv.ask (s := s) (by have := h.inv; simpa using this) s.fill_r ?_ hj hk
    rw [HS.fill_no hh]
  have hI2 : Inv w2 vb b (A ++ s.fill :: (B ++ D)) := hI1.kept fun t ht i hi => hset i (fun e => (hI1.v t ht).2 (e ▸ hi))
  have hlen : (A ++ s.fill :: B).length = (A ++ s :: B).length := by simp
  refine ⟨by simpa using hI2, ?_, ?_, (hset _ (fun e => by have := hf.hb; omega)).trans a3, ?_, fun t ht => ?_, by rw [hlen]; exact h.c, by rw [hlen]; exact h.n⟩
  · rw [hlen]
    exact (hset vb hf.ne).trans a1
  · have hx : ((A ++ s :: B).map HS.hd)[A.length]? = some s.hd := by rw [List.getElem?_map, get_mid]; rfl
    have := a2.putN hx hw
    rw [List.map_append, List.map_cons] at this ⊢
    have e : (A.map HS.hd).length = A.length := List.length_map _
    rw [← e, set_mid] at this
    rw [HS.fill_no hh]
    exact this
  · have hn : AllF rows vb b b ∨ w0.heap.size ≤ b := Or.inl (Or.inr (Or.inl rfl))
    rw [← hw]
    exact (((((a4.setCell _ hn).setCell _ hn).setCell _ hn).setCell _ hn).setCell _ hn).setCell _ hn
  · have ht' : t ∈ A ++ s.fill :: (B ++ D) := by simpa using ht
    rcases List.mem_append.1 ht' with ht | ht
    · exact h.m t (by simp [ht])
    · rcases List.mem_cons.1 ht with rfl | ht
      · rw [s.fill_r]; exact hsm
      · exact h.m t (by have := List.mem_append.1 ht; simp; exact Or.inr (Or.inr this))
/-- Rows that are at their end are given up. -/
theorem AllG.deleted {w0 w w1 w2 : World} {rows : List Rd} {vb b cap : Nat} {L D : List HS} (hf : AllFix w0 rows vb b cap) (h : AllG w0 w rows vb b cap L D) (hB : HB w1 b ((L.map HS.hd).filter (·.has))) (hk : Kp w w1 (fun i => i = b)) (hw : w1.setCell ⟨vb, 0, none⟩ (.slice (some ⟨b, 0, none⟩) (L.filter (·.has)).length cap) = w2) :
    AllG w0 w2 rows vb b cap (L.filter (·.has)) (L.filter (fun s => !s.has) ++ D) := by
  have hset : ∀ i, i ≠ vb → w2.heap[i]? = w1.heap[i]? := fun i hi => by rw [← hw]; exact heap_set_other _ hi
  have hp : (L ++ D).Perm (L.filter (·.has) ++ (L.filter (fun s => !s.has) ++ D)) := by
    rw [← List.append_assoc]
    exact (List.filter_append_perm (·.has) L).symm.append_right D
  have hI1 : Inv w1 vb b (L ++ D) := h.inv.kp hk fun s hs i hi e => (h.inv.v s hs).2 (e ▸ hi)
  have hI2 : Inv w2 vb b (L ++ D) := hI1.kept fun s hs i hi => hset i (fun e => (h.inv.v s hs).1 (e ▸ hi))
  have hlf : (L.filter (·.has)).length ≤ L.length := List.length_filter_le _ _
  have hvb : w1.heap[vb]? = some (.cells #[.slice (some ⟨b, 0, none⟩) L.length cap] 49 (0, 0)) := (hk.block _ (blk_lt h.v) (fun e => hf.ne e)).trans h.v
  refine ⟨hI2.perm hp, ?_, ?_, ?_, ?_, fun s hs => h.m s (hp.mem_iff.2 hs), Nat.le_trans hlf h.c, Nat.le_trans hlf h.n⟩
  · rw [← hw]; exact (heap_set_same hvb _).trans rfl
  · have e : (L.map HS.hd).filter (·.has) = (L.filter (·.has)).map HS.hd := by rw [List.filter_map]; rfl
    rw [e] at hB
    exact hB.kept (hset b (fun e => hf.ne e.symm))
  · exact (hset _ (fun e => by have := hf.hv; omega)).trans ((hk.block _ (blk_lt h.z) (fun e => by have := hf.hb; omega)).trans h.z)
  · rw [← hw]
    exact (h.k.trans hk (fun i hi => Or.inl (Or.inr (Or.inl hi)))).setCell _ (Or.inl (Or.inl rfl))
/-- A row's cell is given up, or not. -/
theorem AllG.cutted {w0 w w2 : World} {rows : List Rd} {vb b cap : Nat} {A B D : List HS} {s : HS} (hf : AllFix w0 rows vb b cap) (h : AllG w0 w rows vb b cap (A ++ s :: B) D) (c : Cl) (hw : w.setCell ⟨b, A.length * 7 + 6, none⟩ (.bool (decide (ccl s.nx c ≠ 0))) = w2) : AllG w0 w2 rows vb b cap (A ++ s.cut c :: B) D := by
  have hset : ∀ i, i ≠ b → w2.heap[i]? = w.heap[i]? := fun i hi => by rw [← hw]; exact heap_set_other _ hi
  have hlen : (A ++ s.cut c :: B).length = (A ++ s :: B).length := by simp
  have hI1 : Inv w vb b (A ++ s.cut c :: B ++ D) := h.inv.same (by simp [HS.cut])
  have hI2 : Inv w2 vb b (A ++ s.cut c :: B ++ D) := hI1.kept fun t ht i hi => hset i (fun e => (hI1.v t ht).2 (e ▸ hi))
  refine ⟨hI2, ?_, ?_, (hset _ (fun e => by have := hf.hb; omega)).trans h.z, ?_, fun t ht => ?_, by rw [hlen]; exact h.c, by rw [hlen]; exact h.n⟩
  · rw [hlen]
    exact (hset vb hf.ne).trans h.v
  · have hx : ((A ++ s :: B).map HS.hd)[A.length]? = some s.hd := by rw [List.getElem?_map, get_mid]; rfl
    have := h.h.putB hx hw
    rw [List.map_append, List.map_cons] at this ⊢
    have e : (A.map HS.hd).length = A.length := List.length_map _
    rw [← e, set_mid] at this
    exact this
  · rw [← hw]
    exact h.k.setCell _ (Or.inl (Or.inr (Or.inl rfl)))
  · have ht' : t ∈ A ++ s.cut c :: (B ++ D) := by simpa using ht
    rcases List.mem_append.1 ht' with ht | ht
    · exact h.m t (by simp [ht])
    · rcases List.mem_cons.1 ht with rfl | ht
      · exact h.m s (by simp)
      · exact h.m t (by have := List.mem_append.1 ht; simp; exact Or.inr (Or.inr this))

/-- What is told, and what is left. -/
structure AllS (rows : List Rd) (tot : List Cl) (n : Nat) (hs D : List HS) : Prop where
  rest : tot.drop n = sortL (hs.map HS.left).flatten
  ok : ∀ s ∈ hs, s.Ok
  dn : ∀ s ∈ D, s.n = s.r.cs.length + 1 ∧ s.has = false
  tk : ∀ s ∈ hs ++ D, ∀ i x, i < s.done → s.r.cs[i]? = some x → ∃ t ∈ tot.take n, ccl x t = 0
  rows : ((hs ++ D).map HS.r).Perm rows
/-- All was asked n times. -/
structure AllJ (rows : List Rd) (vb b cap : Nat) (tot : List Cl) (n : Nat) (w : World) : Prop where
  out : ∃ hs D, AllS rows tot n hs D ∧ Inv w vb b (hs ++ D) ∧ w.heap[vb]? = some (.cells #[.slice (some ⟨b, 0, none⟩) hs.length cap] 49 (0, 0)) ∧ HB w b (hs.map HS.hd) ∧ hs.length ≤ cap ∧ hs.length ≤ 100000

end Go.Proofs.Ytnpjbdbhjbccbaa

namespace Go.Proofs.Ytnpjbdbhjbccbaa
open Go.RowKit Go.BigFrame Go.Sort

/-- The list with each row asked, those at their end given up. -/
def liv (hs : List HS) : List HS := (hs.map HS.fill).filter (·.has)
def ded (hs : List HS) : List HS := (hs.map HS.fill).filter (fun s => !s.has)
theorem mem_liv {hs : List HS} {s : HS} (h : s ∈ liv hs) : ∃ s0 ∈ hs, s = s0.fill ∧ s.has = true := by
  obtain ⟨h1, h2⟩ := List.mem_filter.1 h
  obtain ⟨s0, h0, rfl⟩ := List.mem_map.1 h1
  exact ⟨s0, h0, rfl, h2⟩
theorem mem_ded {hs : List HS} {s : HS} (h : s ∈ ded hs) : ∃ s0 ∈ hs, s = s0.fill ∧ s.has = false := by
  obtain ⟨h1, h2⟩ := List.mem_filter.1 h
  obtain ⟨s0, h0, rfl⟩ := List.mem_map.1 h1
  exact ⟨s0, h0, rfl, by simpa using h2⟩
theorem left_liv : ∀ {hs : List HS}, (∀ s ∈ hs, s.Ok) → (hs.map HS.left).flatten = ((liv hs).map HS.left).flatten
  | [], _ => rfl
  | s :: hs, h => by
    have ih := left_liv (fun t ht => h t (List.mem_cons_of_mem _ ht))
    obtain ⟨_, h2, h3, _⟩ := (h s (by simp)).fill
    unfold liv at ih ⊢
    rw [List.map_cons, List.flatten_cons, List.map_cons]
    cases hh : s.fill.has with
    | true => rw [List.filter_cons_of_pos (by simpa using hh), List.map_cons, List.flatten_cons, ih, h2]
    | false => rw [List.filter_cons_of_neg (by simp [hh]), h3 hh, ih]; rfl
theorem rows_liv (hs D : List HS) : ((liv hs ++ (ded hs ++ D)).map HS.r).Perm ((hs ++ D).map HS.r) := by
  have h1 : (liv hs ++ ded hs).Perm (hs.map HS.fill) := List.filter_append_perm (fun s : HS => s.has) (hs.map HS.fill)
  have h2 : (hs.map HS.fill).map HS.r = hs.map HS.r := by
    rw [List.map_map]
    exact List.map_congr_left fun s _ => s.fill_r
  rw [← List.append_assoc, List.map_append (l₁ := liv hs ++ ded hs), List.map_append (l₁ := hs)]
  refine List.Perm.append_right _ ?_
  rw [← h2]
  exact h1.map _
theorem tk_fill {hs : List HS} {T : List Cl} (ok : ∀ s ∈ hs, s.Ok) (tk : ∀ s ∈ hs, ∀ i x, i < s.done → s.r.cs[i]? = some x → ∃ t ∈ T, ccl x t = 0) : ∀ s ∈ hs.map HS.fill, ∀ i x, i < s.done → s.r.cs[i]? = some x → ∃ t ∈ T, ccl x t = 0 := by
  intro s hs' i x hi hx
  obtain ⟨s0, h0, rfl⟩ := List.mem_map.1 hs'
  obtain ⟨_, _, _, _, h5, h6⟩ := (ok s0 h0).fill
  rw [s0.fill_r] at hx
  refine tk s0 h0 i x ?_ hx
  cases hh : s0.fill.has with
  | true => rw [← h5 hh]; exact hi
  | false => rw [h6 hh]; exact (List.getElem?_eq_some_iff.1 hx).1
theorem ded_n {hs : List HS} (ok : ∀ s ∈ hs, s.Ok) : ∀ s ∈ ded hs, s.n = s.r.cs.length + 1 ∧ s.has = false := by
  intro s hs'
  obtain ⟨s0, h0, rfl, hh⟩ := mem_ded hs'
  exact ⟨(ok s0 h0).fill.1.no hh, hh⟩
theorem AllS.over {rows : List Rd} {tot : List Cl} {n : Nat} {hs D : List HS} (h : AllS rows tot n hs D) (he : liv hs = []) : tot.length ≤ n ∧ AllS rows tot (n + 1) [] (ded hs ++ D) := by
  have hr := h.rest
  rw [left_liv h.ok, he] at hr
  have hl : tot.length ≤ n := by
    have := congrArg List.length hr
    simp [sortL] at this
    omega
  refine ⟨hl, ⟨by rw [List.drop_eq_nil_of_le (by omega)]; rfl, fun s hs => absurd hs (by simp), fun s hs' => ?_, fun s hs' i x hi hx => ?_, ?_⟩⟩
  · rcases List.mem_append.1 hs' with k | k
    · exact ded_n h.ok s k
    · exact h.dn s k
  · have ht : tot.take (n + 1) = tot.take n := by rw [List.take_of_length_le (by omega), List.take_of_length_le (by omega)]
    rw [ht]
    rw [List.nil_append] at hs'
    rcases List.mem_append.1 hs' with k | k
    · exact tk_fill h.ok (fun s hs => h.tk s (by simp [hs])) s (List.mem_filter.1 k).1 i x hi hx
    · exact h.tk s (by simp [k]) i x hi hx
  · have := rows_liv hs D
    rw [he] at this
    exact this.trans h.rows
theorem AllS.told {rows : List Rd} {tot : List Cl} {n : Nat} {hs D : List HS} (h : AllS rows tot n hs D) {r : Hd} (hr : Fst ((liv hs).map HS.hd) r) : tot[n]? = some r.nx ∧ AllS rows tot (n + 1) ((liv hs).map (HS.cut r.nx)) (ded hs ++ D) := by
  have hfull : ∀ s ∈ liv hs, s.Full ∧ s.has = true := fun s hs' => by
    obtain ⟨s0, h0, rfl, hh⟩ := mem_liv hs'
    exact ⟨(h.ok s0 h0).fill.1, hh⟩
  have hrest := h.rest
  rw [left_liv h.ok] at hrest
  have e1 : (liv hs).map HS.left = ((liv hs).map (fun s => (s.nx, s.r.cs.drop s.n))).map fulL := by
    rw [List.map_map]
    exact List.map_congr_left fun s hs' => ((hfull s hs').1.cut (hfull s hs').2 r.nx).2.2.1
  have e2 : ((liv hs).map (HS.cut r.nx)).map HS.left = ((liv hs).map (fun s => (s.nx, s.r.cs.drop s.n))).map (resL r.nx) := by
    rw [List.map_map, List.map_map]
    exact List.map_congr_left fun s hs' => ((hfull s hs').1.cut (hfull s hs').2 r.nx).2.1
  have hstep := mrg_step (ps := (liv hs).map (fun s => (s.nx, s.r.cs.drop s.n))) (c := r.nx) (fun p hp => by
      obtain ⟨s, hs', rfl⟩ := List.mem_map.1 hp
      exact ((hfull s hs').1.cut (hfull s hs').2 r.nx).2.2.2) (fun p hp => by
      obtain ⟨s, hs', rfl⟩ := List.mem_map.1 hp
      exact hr.le s.hd (List.mem_map.2 ⟨s, hs', rfl⟩)) (by
      obtain ⟨pre, post, e, hpre⟩ := hr.at_
      obtain ⟨A, B', e3, rfl, e4⟩ := List.map_eq_append_iff.1 e
      obtain ⟨s, B, rfl, rfl, rfl⟩ := List.map_eq_cons_iff.1 e4
      refine ⟨A.map (fun s => (s.nx, s.r.cs.drop s.n)), (s.nx, s.r.cs.drop s.n), B.map (fun s => (s.nx, s.r.cs.drop s.n)), ?_, rfl, ?_⟩
      · rw [e3, List.map_append, List.map_cons]
      · intro q hq
        obtain ⟨t, ht, rfl⟩ := List.mem_map.1 hq
        exact hpre t.hd (List.mem_map.2 ⟨t, ht, rfl⟩))
  rw [e1, hstep, ← e2] at hrest
  have hn : tot[n]? = some r.nx := by
    have : (tot.drop n)[0]? = some r.nx := by rw [hrest]; rfl
    rw [List.getElem?_drop] at this
    exact this
  have htk : tot.take (n + 1) = tot.take n ++ [r.nx] := by rw [List.take_add_one, hn]; rfl
  refine ⟨hn, ⟨by rw [← List.drop_drop, hrest]; rfl, fun s hs' => ?_, fun s hs' => ?_, fun s hs' i x hi hx => ?_, ?_⟩⟩
  · obtain ⟨t, ht, rfl⟩ := List.mem_map.1 hs'
    exact ((hfull t ht).1.cut (hfull t ht).2 r.nx).1
  · rcases List.mem_append.1 hs' with k | k
    · exact ded_n h.ok s k
    · exact h.dn s k
  · rw [htk]
    have up : (∃ t ∈ tot.take n, ccl x t = 0) → ∃ t ∈ tot.take n ++ [r.nx], ccl x t = 0 := fun ⟨t, ht, e⟩ => ⟨t, by simp [ht], e⟩
    rcases List.mem_append.1 hs' with k | k
    · obtain ⟨t, ht, rfl⟩ := List.mem_map.1 k
      obtain ⟨h0, h1⟩ := (hfull t ht).1.has (hfull t ht).2
      have hd : t.done = t.n - 1 := by unfold HS.done; rw [if_pos (hfull t ht).2]
      by_cases hz : ccl t.nx r.nx = 0
      · have hi' : i < t.n := by
          unfold HS.done HS.cut at hi
          simpa [hz] using hi
        by_cases hin : i = t.n - 1
        · subst hin
          have : x = t.nx := by
            have hx' : t.r.cs[t.n - 1]? = some x := hx
            rw [h1] at hx'
            exact (Option.some.inj hx').symm
          subst this
          exact ⟨r.nx, by simp, hz⟩
        · exact up (tk_fill h.ok (fun s hs => h.tk s (by simp [hs])) t (List.mem_filter.1 ht).1 i x (by rw [hd]; omega) hx)
      · have hi' : i < t.n - 1 := by
          unfold HS.done HS.cut at hi
          simpa [hz] using hi
        exact up (tk_fill h.ok (fun s hs => h.tk s (by simp [hs])) t (List.mem_filter.1 ht).1 i x (by rw [hd]; omega) hx)
    · rcases List.mem_append.1 k with k | k
      · exact up (tk_fill h.ok (fun s hs => h.tk s (by simp [hs])) s (List.mem_filter.1 k).1 i x hi hx)
      · exact up (h.tk s (by simp [k]) i x hi hx)
  · have e : ((liv hs).map (HS.cut r.nx) ++ (ded hs ++ D)).map HS.r = (liv hs ++ (ded hs ++ D)).map HS.r := by
      rw [List.map_append, List.map_append (l₁ := liv hs), List.map_map]
      rfl
    rw [e]
    exact (rows_liv hs D).trans h.rows

end Go.Proofs.Ytnpjbdbhjbccbaa

