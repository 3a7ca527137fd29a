/-
  Lists of cells: how they are sorted (the document's way: each is put where it belongs, unless one of its row, column and version is there), that this is what going through the indices in order tells, the newest of each place, and what each of these lists has.
-/
import Derived.Test.YtlkikfkchgmmhaaKTri
namespace Go.Proofs.Ytlkikfkchgmmhaa

/-- A cell. -/
structure Cl where
  row : List UInt8
  col : List UInt8
  ver : Int
  gone : Bool
  val : List UInt8

def ccl (a b : Cl) : Int := cc a.row a.col a.ver b.row b.col b.ver
theorem ccl_tri (a b c : Cl) : Tri (ccl a b) (ccl b c) (ccl a c) := cc_tri _ _ _ _ _ _ _ _ _
theorem ccl_zero {a b : Cl} : ccl a b = 0 ↔ a.row = b.row ∧ a.col = b.col ∧ a.ver = b.ver := cc_zero _ _ _ _ _ _
theorem ccl_self (a : Cl) : ccl a a = 0 := ccl_zero.2 ⟨rfl, rfl, rfl⟩
theorem ccl_dom (a b : Cl) : ccl a b = -1 ∨ ccl a b = 0 ∨ ccl a b = 1 := cc_dom _ _ _ _ _ _
theorem ccl_sym {a b : Cl} (h : ccl a b = 0) : ccl b a = 0 := by
  rw [ccl_zero] at h ⊢
  exact ⟨h.1.symm, h.2.1.symm, h.2.2.symm⟩
theorem ccl_neg {a b : Cl} : ccl a b < 0 ↔ 0 < ccl b a := by
  have h := ccl_tri a b a
  have k := ccl_tri b a b
  rw [ccl_self] at h k
  obtain ⟨h1, h2, h3, h4, h5, h6, h7, h8⟩ := h
  obtain ⟨k1, k2, k3, k4, k5, k6, k7, k8⟩ := k
  constructor
  · intro x
    by_cases y : ccl b a ≤ 0
    · have := h2 x y; omega
    · omega
  · intro x
    by_cases y : 0 ≤ ccl a b
    · have := k5 x y; omega
    · omega
theorem ccl_lt_trans {a b c : Cl} (h : ccl a b < 0) (k : ccl b c < 0) : ccl a c < 0 := (ccl_tri a b c).2.1 h (by omega)
theorem ccl_le_lt {a b c : Cl} (h : ccl a b ≤ 0) (k : ccl b c < 0) : ccl a c < 0 := (ccl_tri a b c).2.2.1 h k
theorem ccl_lt_le {a b c : Cl} (h : ccl a b < 0) (k : ccl b c ≤ 0) : ccl a c < 0 := (ccl_tri a b c).2.1 h k
theorem ccl_le_trans {a b c : Cl} (h : ccl a b ≤ 0) (k : ccl b c ≤ 0) : ccl a c ≤ 0 := (ccl_tri a b c).1 h k
theorem ccl_eq_left {a b c : Cl} (h : ccl a b = 0) : ccl b c = ccl a c := (ccl_tri a b c).2.2.2.2.2.2.1 h
theorem ccl_eq_right {a b c : Cl} (h : ccl b c = 0) : ccl a b = ccl a c := (ccl_tri a b c).2.2.2.2.2.2.2 h

/-- The same place. -/
def plc (a b : Cl) : Bool := a.row == b.row && a.col == b.col
theorem plc_iff {a b : Cl} : plc a b = true ↔ a.row = b.row ∧ a.col = b.col := by simp [plc]
theorem plc_refl (a : Cl) : plc a a = true := plc_iff.2 ⟨rfl, rfl⟩
theorem plc_symm {a b : Cl} (h : plc a b = true) : plc b a = true := by
  rw [plc_iff] at h ⊢
  exact ⟨h.1.symm, h.2.symm⟩
theorem plc_trans {a b c : Cl} (h : plc a b = true) (k : plc b c = true) : plc a c = true := by
  rw [plc_iff] at h k ⊢
  exact ⟨h.1.trans k.1, h.2.trans k.2⟩
theorem plc_comm (a b : Cl) : plc a b = plc b a := by
  cases h : plc a b with
  | true => rw [plc_symm h]
  | false =>
    cases k : plc b a with
    | false => rfl
    | true => rw [plc_symm k] at h; cases h
theorem plc_left {a b c : Cl} (h : plc a b = true) : plc a c = plc b c := by
  cases k : plc b c with
  | true => exact plc_trans h k
  | false =>
    cases k2 : plc a c with
    | false => rfl
    | true => rw [plc_trans (plc_symm h) k2] at k; cases k
theorem plc_of_ccl {a b : Cl} (h : ccl a b = 0) : plc a b = true := plc_iff.2 ⟨(ccl_zero.1 h).1, (ccl_zero.1 h).2.1⟩
theorem ccl_plc {a b : Cl} (h : plc a b = true) : ccl a b = Lib.compareInt b.ver a.ver := by
  obtain ⟨h1, h2⟩ := plc_iff.1 h
  show cc a.row a.col a.ver b.row b.col b.ver = _
  rw [h1, h2]
  exact cc_same _ _ _ _
theorem ccl_row {a b : Cl} (h : ccl a b ≤ 0) : ct a.row b.row < 0 ∨ a.row = b.row ∧ (ct a.col b.col < 0 ∨ a.col = b.col) := by
  have h1 := ct_zero (a := a.row) (b := b.row)
  have h2 := ct_zero (a := a.col) (b := b.col)
  unfold ccl cc or3 at h
  by_cases x : ct a.row b.row = 0
  · rw [if_pos x] at h
    refine Or.inr ⟨h1.1 x, ?_⟩
    by_cases y : ct a.col b.col = 0
    · exact Or.inr (h2.1 y)
    · rw [if_neg y] at h
      exact Or.inl (by omega)
  · rw [if_neg x] at h
    exact Or.inl (by omega)
/-- What stands between two of one place is of that place. -/
theorem plc_between {a b c : Cl} (h : ccl a b ≤ 0) (k : ccl b c ≤ 0) (p : plc a c = true) : plc a b = true := by
  obtain ⟨p1, p2⟩ := plc_iff.1 p
  have e1 := ct_tri a.row b.row c.row
  have e2 := ct_tri a.col b.col c.col
  rw [show ct a.row c.row = 0 from ct_zero.2 p1] at e1
  rw [show ct a.col c.col = 0 from ct_zero.2 p2] at e2
  unfold Tri at e1 e2
  have r : a.row = b.row := by
    rcases ccl_row h with x | ⟨x, _⟩
    · have : ct b.row c.row ≤ 0 := by
        rcases ccl_row k with y | ⟨y, _⟩
        · omega
        · rw [ct_zero.2 y]; omega
      have := e1.2.1 x this
      omega
    · exact x
  rcases ccl_row h with x | ⟨_, x | x⟩
  · rw [ct_zero.2 r] at x; omega
  · have : ct b.col c.col ≤ 0 := by
      rcases ccl_row k with y | ⟨_, y | y⟩
      · rw [show ct b.row c.row = 0 from ct_zero.2 (r.symm.trans p1)] at y; omega
      · omega
      · rw [ct_zero.2 y]; omega
    have := e2.2.1 x this
    omega
  · exact plc_iff.2 ⟨r, x⟩

/-! ### Sorted as the document sorts -/
/-- A cell put where it belongs. -/
def ins : List Cl → Cl → List Cl
  | [], c => [c]
  | x :: xs, c => if ccl x c < 0 then x :: ins xs c else if ccl x c = 0 then x :: xs else c :: x :: xs
def sortL (l : List Cl) : List Cl := l.foldl ins []
theorem ins_split : ∀ (pre rest : List Cl) (c : Cl), (∀ x ∈ pre, ccl x c < 0) → ins (pre ++ rest) c = pre ++ ins rest c
  | [], _, _, _ => rfl
  | x :: xs, rest, c, h => by
    rw [List.cons_append, ins, if_pos (h x (by simp)), ins_split xs rest c (fun y hy => h y (by simp [hy]))]
    rfl
theorem ins_same {x c : Cl} {xs : List Cl} (h : ccl x c = 0) : ins (x :: xs) c = x :: xs := by rw [ins, if_neg (by omega), if_pos h]
theorem ins_here {x c : Cl} {xs : List Cl} (h : 0 < ccl x c) : ins (x :: xs) c = c :: x :: xs := by rw [ins, if_neg (by omega), if_neg (by omega)]
theorem sub_ins : ∀ (l : List Cl) (c : Cl), ∀ y ∈ l, y ∈ ins l c
  | x :: xs, c, y, h => by
    rw [ins]
    split
    · rcases List.mem_cons.1 h with rfl | h
      · simp
      · exact List.mem_cons_of_mem _ (sub_ins xs c y h)
    · split
      · exact h
      · exact List.mem_cons_of_mem _ h
theorem ins_has : ∀ (l : List Cl) (c : Cl), ∃ s ∈ ins l c, ccl c s = 0
  | [], c => ⟨c, by simp [ins], ccl_self c⟩
  | x :: xs, c => by
    rw [ins]
    split
    · obtain ⟨s, h1, h2⟩ := ins_has xs c
      exact ⟨s, List.mem_cons_of_mem _ h1, h2⟩
    · split
      · rename_i h
        exact ⟨x, by simp, ccl_sym h⟩
      · exact ⟨c, by simp, ccl_self c⟩

/-- In order, each of them alone. -/
def Asc (l : List Cl) : Prop := l.Pairwise fun a b => ccl a b < 0
theorem mem_ins : ∀ (l : List Cl) (c : Cl), Asc l → ∀ y ∈ ins l c, y ∈ l ∨ y = c ∧ ∀ s ∈ l, ccl s c ≠ 0
  | [], c, _, y, h => by
    simp [ins] at h
    exact Or.inr ⟨h, by simp⟩
  | x :: xs, c, ha, y, h => by
    obtain ⟨a1, a2⟩ := List.pairwise_cons.1 ha
    rw [ins] at h
    split at h
    · rename_i hx
      rcases List.mem_cons.1 h with rfl | h
      · exact Or.inl (by simp)
      · rcases mem_ins xs c a2 y h with h | ⟨h, k⟩
        · exact Or.inl (by simp [h])
        · refine Or.inr ⟨h, fun s hs => ?_⟩
          rcases List.mem_cons.1 hs with rfl | hs
          · omega
          · exact k s hs
    · split at h
      · exact Or.inl h
      · rename_i h1 h2
        rcases List.mem_cons.1 h with rfl | h
        · refine Or.inr ⟨rfl, fun s hs => ?_⟩
          rcases List.mem_cons.1 hs with rfl | hs
          · exact h2
          · have := ccl_lt_trans (ccl_neg.2 (show 0 < ccl x y by omega)) (a1 s hs)
            have := ccl_neg.1 this
            omega
        · exact Or.inl h
theorem asc_ins : ∀ (l : List Cl) (c : Cl), Asc l → Asc (ins l c)
  | [], c, _ => by simp [ins, Asc]
  | x :: xs, c, ha => by
    obtain ⟨a1, a2⟩ := List.pairwise_cons.1 ha
    rw [ins]
    split
    · rename_i hx
      refine List.pairwise_cons.2 ⟨fun y hy => ?_, asc_ins xs c a2⟩
      rcases mem_ins xs c a2 y hy with h | ⟨rfl, _⟩
      · exact a1 y h
      · exact hx
    · split
      · exact ha
      · rename_i h1 h2
        have hc : ccl c x < 0 := ccl_neg.2 (by omega)
        refine List.pairwise_cons.2 ⟨fun y hy => ?_, ha⟩
        rcases List.mem_cons.1 hy with rfl | hy
        · exact hc
        · exact ccl_lt_trans hc (a1 y hy)

/-- What the document asks of a sorted list. -/
structure SortSpec (l ss : List Cl) : Prop where
  asc : Asc ss
  fst : ∀ s ∈ ss, l.find? (fun x => decide (ccl x s = 0)) = some s
  all : ∀ x ∈ l, ∃ s ∈ ss, ccl x s = 0
theorem SortSpec.sub {l ss : List Cl} (h : SortSpec l ss) : ∀ s ∈ ss, s ∈ l := fun s hs => List.mem_of_find?_eq_some (h.fst s hs)
theorem SortSpec.ins {l ss : List Cl} (h : SortSpec l ss) (c : Cl) : SortSpec (l ++ [c]) (ins ss c) := by
  refine ⟨asc_ins _ _ h.asc, fun s hs => ?_, fun x hx => ?_⟩
  · rw [List.find?_append]
    rcases mem_ins ss c h.asc s hs with k | ⟨rfl, k⟩
    · rw [h.fst s k]; rfl
    · have : l.find? (fun x => decide (ccl x s = 0)) = none := by
        rw [List.find?_eq_none]
        intro x hx
        obtain ⟨t, ht, e⟩ := h.all x hx
        have := k t ht
        have e2 := ccl_eq_left (c := s) e
        simp
        omega
      rw [this]
      simp [ccl_self]
  · rcases List.mem_append.1 hx with hx | hx
    · obtain ⟨s, hs, e⟩ := h.all x hx
      exact ⟨s, sub_ins _ _ s hs, e⟩
    · simp at hx
      subst hx
      exact ins_has ss x
theorem sortL_spec_go : ∀ (l pre ss : List Cl), SortSpec pre ss → SortSpec (pre ++ l) (l.foldl Go.Proofs.Ytlkikfkchgmmhaa.ins ss)
  | [], pre, ss, h => by simpa using h
  | c :: l, pre, ss, h => by
    have := sortL_spec_go l (pre ++ [c]) _ (h.ins c)
    simpa using this
theorem sortL_spec (l : List Cl) : SortSpec l (sortL l) := sortL_spec_go l [] [] ⟨List.Pairwise.nil, by simp, by simp⟩
theorem asc_unique : ∀ (a b : List Cl), Asc a → Asc b → (∀ x, x ∈ a ↔ x ∈ b) → a = b
  | [], [], _, _, _ => rfl
  | [], y :: ys, _, _, h => absurd ((h y).2 (by simp)) (by simp)
  | x :: xs, [], _, _, h => absurd ((h x).1 (by simp)) (by simp)
  | x :: xs, y :: ys, ha, hb, h => by
    obtain ⟨a1, a2⟩ := List.pairwise_cons.1 ha
    obtain ⟨b1, b2⟩ := List.pairwise_cons.1 hb
    have e : x = y := by
      rcases List.mem_cons.1 ((h x).1 (by simp)) with e | hx
      · exact e
      · rcases List.mem_cons.1 ((h y).2 (by simp)) with e | hy
        · exact e.symm
        · have := ccl_lt_trans (a1 y hy) (b1 x hx)
          rw [ccl_self] at this
          omega
    subst e
    have := asc_unique xs ys a2 b2 (fun z => by
      constructor
      · intro hz
        rcases List.mem_cons.1 ((h z).1 (by simp [hz])) with rfl | k
        · have := a1 z hz
          rw [ccl_self] at this
          omega
        · exact k
      · intro hz
        rcases List.mem_cons.1 ((h z).2 (by simp [hz])) with rfl | k
        · have := b1 z hz
          rw [ccl_self] at this
          omega
        · exact k)
    rw [this]
theorem SortSpec.mem_of {l a b : List Cl} (h : SortSpec l a) (k : SortSpec l b) {x : Cl} (hx : x ∈ a) : x ∈ b := by
  obtain ⟨s, hs, e⟩ := k.all x (h.sub x hx)
  have h1 := h.fst x hx
  have h2 := k.fst s hs
  have : (fun y => decide (ccl y x = 0)) = (fun y : Cl => decide (ccl y s = 0)) := by
    funext y
    rw [ccl_eq_right e]
  rw [this, h2] at h1
  have : s = x := by simpa using h1
  rw [← this]
  exact hs
theorem SortSpec.one {l a b : List Cl} (h : SortSpec l a) (k : SortSpec l b) : a = b :=
  asc_unique a b h.asc k.asc fun _ => ⟨h.mem_of k, k.mem_of h⟩

/-! ### Gone through in order: of those alike the first alone -/
/-- One more, unless the last one is like it. -/
def stp (f : Cl → Cl → Bool) (acc : List Cl) (c : Cl) : List Cl :=
  match acc.getLast? with
  | none => acc ++ [c]
  | some y => if f y c = true then acc else acc ++ [c]
def ddl (f : Cl → Cl → Bool) (l : List Cl) : List Cl := l.foldl (stp f) []
theorem ddl_snoc (f : Cl → Cl → Bool) (l : List Cl) (c : Cl) : ddl f (l ++ [c]) = stp f (ddl f l) c := by simp [ddl]
theorem stp_none {f : Cl → Cl → Bool} {c : Cl} : stp f [] c = [c] := rfl
theorem stp_yes {f : Cl → Cl → Bool} {acc : List Cl} {y c : Cl} (h : acc.getLast? = some y) (k : f y c = true) : stp f acc c = acc := by unfold stp; rw [h]; simp [k]
theorem stp_no {f : Cl → Cl → Bool} {acc : List Cl} {y c : Cl} (h : acc.getLast? = some y) (k : f y c = false) : stp f acc c = acc ++ [c] := by unfold stp; rw [h]; simp [k]
theorem stp_length (f : Cl → Cl → Bool) (acc : List Cl) (c : Cl) : (stp f acc c).length ≤ acc.length + 1 := by
  unfold stp
  split
  · simp
  · split <;> simp
theorem ddl_length (f : Cl → Cl → Bool) (l : List Cl) : (ddl f l).length ≤ l.length := by
  have : ∀ (l acc : List Cl), (l.foldl (stp f) acc).length ≤ acc.length + l.length := by
    intro l
    induction l with
    | nil => intro acc; simp
    | cons c l ih =>
      intro acc
      have h1 := ih (stp f acc c)
      have h2 := stp_length f acc c
      simp only [List.foldl_cons, List.length_cons]
      omega
  have h := this l []
  simp only [List.length_nil, Nat.zero_add] at h
  exact h
/-- Alike by row, column and version. -/
def eqv (a b : Cl) : Bool := decide (ccl a b = 0)

/-- The indices in order: by the cells, and where these are alike by themselves. -/
def LtI (l : List Cl) (a b : Nat) : Prop := ∃ x y, l[a]? = some x ∧ l[b]? = some y ∧ (ccl x y < 0 ∨ ccl x y = 0 ∧ a < b)
/-- Behind some of the indices. -/
structure Gone (l : List Cl) (done : List Nat) (acc : List Cl) : Prop where
  asc : Asc acc
  nil : acc = [] → done = []
  top : ∀ y, acc.getLast? = some y → ∀ k ∈ done, ∀ x, l[k]? = some x → ccl x y ≤ 0
  fst : ∀ s ∈ acc, ∃ k ∈ done, l[k]? = some s ∧ ∀ j ∈ done, ∀ x, l[j]? = some x → ccl x s = 0 → k ≤ j
  all : ∀ k ∈ done, ∀ x, l[k]? = some x → ∃ s ∈ acc, ccl x s = 0
theorem Gone.start (l : List Cl) : Gone l [] [] := ⟨List.Pairwise.nil, fun _ => rfl, by simp, by simp, by simp⟩
theorem last_mem {α : Type} {l : List α} {y : α} (h : l.getLast? = some y) : y ∈ l := List.mem_of_getLast? h
theorem asc_last {acc : List Cl} {y s : Cl} (h : Asc acc) (hy : acc.getLast? = some y) (hs : s ∈ acc) : ccl s y ≤ 0 := by
  obtain ⟨pre, rfl⟩ : ∃ pre, acc = pre ++ [y] := by
    rw [List.getLast?_eq_some_iff] at hy
    exact hy
  rcases List.mem_append.1 hs with hs | hs
  · have := (List.pairwise_append.1 h).2.2 s hs y (by simp)
    omega
  · simp at hs
    rw [hs, ccl_self]
    omega
theorem Gone.next {l : List Cl} {done : List Nat} {acc : List Cl} {a : Nat} {c : Cl} (h : Gone l done acc) (hc : l[a]? = some c) (hlt : ∀ d ∈ done, LtI l d a) : Gone l (done ++ [a]) (stp eqv acc c) := by
  have hle : ∀ k ∈ done, ∀ x, l[k]? = some x → ccl x c < 0 ∨ ccl x c = 0 ∧ k < a := by
    intro k hk x hx
    obtain ⟨x', y', h1, h2, h3⟩ := hlt k hk
    rw [hx] at h1
    rw [hc] at h2
    cases h1
    cases h2
    exact h3
  cases hl : acc.getLast? with
  | none =>
    have he : acc = [] := by simpa using hl
    have hd := h.nil he
    subst he hd
    rw [stp_none]
    refine ⟨by simp [Asc], by simp, ?_, ?_, ?_⟩
    · intro y hy k hk x hx
      simp at hy hk
      subst hy hk
      rw [hc] at hx
      cases hx
      rw [ccl_self]
      omega
    · intro s hs
      simp at hs
      subst hs
      exact ⟨a, by simp, hc, fun j hj x hx _ => by simp at hj; omega⟩
    · intro k hk x hx
      simp at hk
      subst hk
      rw [hc] at hx
      cases hx
      exact ⟨c, by simp, ccl_self c⟩
  | some y =>
    obtain ⟨ky, hky, hly, _⟩ := h.fst y (last_mem hl)
    have hyc := hle ky hky y hly
    by_cases he : ccl y c = 0
    · rw [stp_yes hl (by simp [eqv, he])]
      refine ⟨h.asc, fun e => by rw [e] at hl; simp at hl, ?_, ?_, ?_⟩
      · intro z hz k hk x hx
        rw [hl] at hz
        cases hz
        rcases List.mem_append.1 hk with hk | hk
        · exact h.top y hl k hk x hx
        · simp at hk
          subst hk
          rw [hc] at hx
          cases hx
          rw [ccl_sym he]
          omega
      · intro s hs
        obtain ⟨k, hk, h1, h2⟩ := h.fst s hs
        refine ⟨k, by simp [hk], h1, fun j hj x hx e => ?_⟩
        rcases List.mem_append.1 hj with hj | hj
        · exact h2 j hj x hx e
        · simp at hj
          subst hj
          rw [hc] at hx
          cases hx
          rcases hle k hk s h1 with q | q
          · rw [ccl_sym e] at q
            omega
          · omega
      · intro k hk x hx
        rcases List.mem_append.1 hk with hk | hk
        · exact h.all k hk x hx
        · simp at hk
          subst hk
          rw [hc] at hx
          cases hx
          exact ⟨y, last_mem hl, ccl_sym he⟩
    · have hlt2 : ccl y c < 0 := by omega
      have hsc : ∀ s ∈ acc, ccl s c < 0 := fun s hs => ccl_le_lt (asc_last h.asc hl hs) hlt2
      rw [stp_no hl (by simp [eqv, he])]
      refine ⟨?_, by simp, ?_, ?_, ?_⟩
      · exact List.pairwise_append.2 ⟨h.asc, by simp, fun s hs z hz => by simp at hz; subst hz; exact hsc s hs⟩
      · intro z hz k hk x hx
        simp at hz
        subst hz
        rcases List.mem_append.1 hk with hk | hk
        · rcases hle k hk x hx with q | q <;> omega
        · simp at hk
          subst hk
          rw [hc] at hx
          cases hx
          rw [ccl_self]
          omega
      · intro s hs
        rcases List.mem_append.1 hs with hs | hs
        · obtain ⟨k, hk, h1, h2⟩ := h.fst s hs
          refine ⟨k, by simp [hk], h1, fun j hj x hx e => ?_⟩
          rcases List.mem_append.1 hj with hj | hj
          · exact h2 j hj x hx e
          · simp at hj
            subst hj
            rw [hc] at hx
            cases hx
            have := hsc s hs
            rw [ccl_sym e] at this
            omega
        · simp at hs
          subst hs
          refine ⟨a, by simp, hc, fun j hj x hx e => ?_⟩
          rcases List.mem_append.1 hj with hj | hj
          · obtain ⟨t, ht, e2⟩ := h.all j hj x hx
            have := hsc t ht
            rw [ccl_eq_left e2] at this
            omega
          · simp at hj
            omega
      · intro k hk x hx
        rcases List.mem_append.1 hk with hk | hk
        · obtain ⟨s, hs, e⟩ := h.all k hk x hx
          exact ⟨s, by simp [hs], e⟩
        · simp at hk
          subst hk
          rw [hc] at hx
          cases hx
          exact ⟨c, by simp, ccl_self c⟩
/-- The cells of some indices. -/
def pick (l : List Cl) (is : List Nat) : List Cl := is.filterMap fun (i : Nat) => l[i]?
theorem pick_snoc {l : List Cl} {is : List Nat} {a : Nat} {c : Cl} (h : l[a]? = some c) : pick l (is ++ [a]) = pick l is ++ [c] := by simp [pick, h]
theorem Gone.run {l : List Cl} {is : List Nat} (hp : is.Pairwise (LtI l)) (hr : ∀ i ∈ is, i < l.length) : ∀ n, n ≤ is.length → Gone l (is.take n) (ddl eqv (pick l (is.take n)))
  | 0, _ => by simpa [ddl, pick] using Gone.start l
  | n + 1, hn => by
    have ih := Gone.run hp hr n (by omega)
    have hlt : n < is.length := by omega
    have hc : l[is[n]]? = some (l[is[n]]'(hr _ (List.getElem_mem hlt))) := List.getElem?_eq_getElem _
    rw [List.take_succ_eq_append_getElem hlt, pick_snoc hc, ddl_snoc]
    refine ih.next hc fun d hd => ?_
    obtain ⟨i, hi, rfl⟩ := List.getElem_of_mem hd
    have hi' : i < n := by rw [List.length_take] at hi; omega
    have := List.pairwise_iff_getElem.1 hp i n (by omega) hlt hi'
    rw [List.getElem_take]
    exact this
/-- Going through all the indices in order sorts. -/
theorem sort_of_indices {l : List Cl} {is : List Nat} (hp : is.Pairwise (LtI l)) (hr : ∀ i, i ∈ is ↔ i < l.length) : ddl eqv (pick l is) = sortL l := by
  have h := Gone.run hp (fun i hi => (hr i).1 hi) is.length (Nat.le_refl _)
  rw [List.take_length] at h
  refine SortSpec.one (l := l) ⟨h.asc, fun s hs => ?_, fun x hx => ?_⟩ (sortL_spec l)
  · obtain ⟨k, hk, h1, h2⟩ := h.fst s hs
    have hkl : k < l.length := (hr k).1 hk
    rw [List.find?_eq_some_iff_getElem]
    refine ⟨by simp [ccl_self], k, hkl, ?_, ?_⟩
    · rw [List.getElem?_eq_getElem hkl] at h1
      simpa using h1
    · intro j hj
      have hjl : j < l.length := by omega
      have := h2 j ((hr j).2 hjl) _ (List.getElem?_eq_getElem hjl)
      simp only [Bool.not_eq_eq_eq_not, Bool.not_true, decide_eq_false_iff_not]
      intro e
      have := this e
      omega
  · obtain ⟨i, hi, rfl⟩ := List.getElem_of_mem hx
    exact h.all i ((hr i).2 hi) _ (List.getElem?_eq_getElem hi)

/-! ### The newest of each place -/
def newL (l : List Cl) : List Cl := ddl plc (sortL l)
theorem getLast?_snoc {α : Type} (l : List α) (a : α) : (l ++ [a]).getLast? = some a := by simp
/-- The last one that was kept is of the last one's place. -/
theorem ddl_last (l : List Cl) : ∀ n, n ≤ l.length → ∀ y, (l.take n).getLast? = some y → ∃ z, (ddl plc (l.take n)).getLast? = some z ∧ plc z y = true
  | 0, _, y, h => by simp at h
  | n + 1, hn, y, h => by
    have hlt : n < l.length := by omega
    rw [List.take_succ_eq_append_getElem hlt] at h ⊢
    rw [getLast?_snoc] at h
    cases h
    rw [ddl_snoc]
    cases hl : (ddl plc (l.take n)).getLast? with
    | none =>
      have e : ddl plc (l.take n) = [] := by simpa using hl
      rw [e, stp_none]
      exact ⟨l[n], rfl, plc_refl _⟩
    | some z =>
      cases hp : plc z l[n] with
      | true => rw [stp_yes hl hp]; exact ⟨z, hl, hp⟩
      | false => rw [stp_no hl hp, getLast?_snoc]; exact ⟨_, rfl, plc_refl _⟩
theorem ddl_eqv_last (l : List Cl) : ∀ n, n ≤ l.length → ddl plc (ddl eqv (l.take n)) = ddl plc (l.take n)
  | 0, _ => rfl
  | n + 1, hn => by
    have ih := ddl_eqv_last l n (by omega)
    have hlt : n < l.length := by omega
    rw [List.take_succ_eq_append_getElem hlt, ddl_snoc, ddl_snoc, ← ih]
    cases hl : (ddl eqv (l.take n)).getLast? with
    | none =>
      have e : ddl eqv (l.take n) = [] := by simpa using hl
      rw [e]
      rfl
    | some y =>
      cases hp : eqv y l[n] with
      | true =>
        rw [stp_yes hl hp]
        have hl2 : ((ddl eqv (l.take n)).take (ddl eqv (l.take n)).length).getLast? = some y := by rw [List.take_length]; exact hl
        obtain ⟨z, hz, hzy⟩ := ddl_last (ddl eqv (l.take n)) _ (Nat.le_refl _) y hl2
        rw [List.take_length] at hz
        rw [stp_yes hz (plc_trans hzy (plc_of_ccl (by simpa [eqv] using hp)))]
      | false => rw [stp_no hl hp, ddl_snoc]
theorem newest_of_indices {l : List Cl} {is : List Nat} (hp : is.Pairwise (LtI l)) (hr : ∀ i, i ∈ is ↔ i < l.length) : ddl plc (pick l is) = newL l := by
  unfold newL
  rw [← sort_of_indices hp hr]
  have := ddl_eqv_last (pick l is) _ (Nat.le_refl _)
  rw [List.take_length] at this
  exact this.symm

/-- What the newest of a sorted list are. -/
structure NewGo (ss ns : List Cl) : Prop where
  asc : Asc ns
  sub : ∀ n ∈ ns, n ∈ ss
  apart : ns.Pairwise fun a b => plc a b = false
  best : ∀ s ∈ ss, ∃ n ∈ ns, plc n s = true ∧ ccl n s ≤ 0
theorem NewGo.next {ss ns : List Cl} {c : Cl} (h : NewGo ss ns) (hc : ∀ s ∈ ss, ccl s c < 0) : NewGo (ss ++ [c]) (stp plc ns c) := by
  cases hl : ns.getLast? with
  | none =>
    have e : ns = [] := by simpa using hl
    subst e
    rw [stp_none]
    refine ⟨by simp [Asc], by simp, by simp, fun s hs => ?_⟩
    rcases List.mem_append.1 hs with hs | hs
    · obtain ⟨n, hn, _⟩ := h.best s hs
      simp at hn
    · simp at hs
      subst hs
      exact ⟨s, by simp, plc_refl s, by rw [ccl_self]; omega⟩
  | some y =>
    have hy := last_mem hl
    have hyc : ccl y c < 0 := hc y (h.sub y hy)
    cases hp : plc y c with
    | true =>
      rw [stp_yes hl hp]
      refine ⟨h.asc, fun n hn => by simp [h.sub n hn], h.apart, fun s hs => ?_⟩
      rcases List.mem_append.1 hs with hs | hs
      · exact h.best s hs
      · simp at hs
        subst hs
        exact ⟨y, hy, hp, by omega⟩
    | false =>
      rw [stp_no hl hp]
      refine ⟨List.pairwise_append.2 ⟨h.asc, by simp, fun s hs z hz => by simp at hz; subst hz; exact hc s (h.sub s hs)⟩, fun n hn => ?_, List.pairwise_append.2 ⟨h.apart, by simp, fun s hs z hz => ?_⟩, fun s hs => ?_⟩
      · rcases List.mem_append.1 hn with hn | hn
        · simp [h.sub n hn]
        · simp at hn
          simp [hn]
      · simp at hz
        subst hz
        cases hq : plc s z with
        | false => rfl
        | true =>
          have := plc_between (asc_last h.asc hl hs) (by omega) hq
          have := plc_trans (plc_symm this) hq
          rw [hp] at this
          cases this
      · rcases List.mem_append.1 hs with hs | hs
        · obtain ⟨n, hn, k⟩ := h.best s hs
          exact ⟨n, by simp [hn], k⟩
        · simp at hs
          subst hs
          exact ⟨s, by simp, plc_refl s, by rw [ccl_self]; omega⟩
theorem newGo_run {ss : List Cl} (ha : Asc ss) : ∀ n, n ≤ ss.length → NewGo (ss.take n) (ddl plc (ss.take n))
  | 0, _ => ⟨by simp [Asc, ddl], by simp [ddl], by simp [ddl], by simp⟩
  | n + 1, hn => by
    have hlt : n < ss.length := by omega
    have ih := newGo_run ha n (by omega)
    rw [List.take_succ_eq_append_getElem hlt, ddl_snoc]
    refine ih.next fun s hs => ?_
    obtain ⟨i, hi, rfl⟩ := List.getElem_of_mem hs
    have hi' : i < n := by rw [List.length_take] at hi; omega
    have := List.pairwise_iff_getElem.1 ha i n (by omega) hlt hi'
    rw [List.getElem_take]
    exact this
theorem newL_go (l : List Cl) : NewGo (sortL l) (newL l) := by
  have := newGo_run (sortL_spec l).asc _ (Nat.le_refl _)
  rw [List.take_length] at this
  exact this
/-- What the document asks of the newest. -/
structure NewSpec (l ns : List Cl) : Prop where
  asc : Asc ns
  fst : ∀ s ∈ ns, l.find? (fun x => decide (ccl x s = 0)) = some s
  apart : ns.Pairwise fun a b => plc a b = false
  best : ∀ x ∈ l, ∃ n ∈ ns, plc n x = true ∧ ccl n x ≤ 0
theorem newL_spec (l : List Cl) : NewSpec l (newL l) := by
  have h := newL_go l
  have k := sortL_spec l
  refine ⟨h.asc, fun s hs => k.fst s (h.sub s hs), h.apart, fun x hx => ?_⟩
  obtain ⟨s, hs, e⟩ := k.all x hx
  obtain ⟨n, hn, p, q⟩ := h.best s hs
  refine ⟨n, hn, plc_trans p (plc_symm (plc_of_ccl e)), ?_⟩
  rw [ccl_eq_right (a := n) (ccl_sym e)] at q
  exact q
theorem NewSpec.sub {l ns : List Cl} (h : NewSpec l ns) : ∀ s ∈ ns, s ∈ l := fun s hs => List.mem_of_find?_eq_some (h.fst s hs)
theorem apart_one {ns : List Cl} (h : ns.Pairwise fun a b => plc a b = false) {a b : Cl} (ha : a ∈ ns) (hb : b ∈ ns) (p : plc a b = true) : a = b := by
  obtain ⟨i, hi, rfl⟩ := List.getElem_of_mem ha
  obtain ⟨j, hj, rfl⟩ := List.getElem_of_mem hb
  rcases Nat.lt_trichotomy i j with k | k | k
  · have := List.pairwise_iff_getElem.1 h i j hi hj k
    rw [this] at p
    cases p
  · subst k
    rfl
  · have := List.pairwise_iff_getElem.1 h j i hj hi k
    rw [plc_comm, this] at p
    cases p
theorem NewSpec.mem_of {l a b : List Cl} (h : NewSpec l a) (k : NewSpec l b) {x : Cl} (hx : x ∈ a) : x ∈ b := by
  obtain ⟨n, hn, p, q⟩ := k.best x (h.sub x hx)
  obtain ⟨m, hm, p2, q2⟩ := h.best n (k.sub n hn)
  have e : m = x := apart_one h.apart hm hx (plc_trans p2 p)
  subst e
  have e0 : ccl m n = 0 := by
    by_cases z : ccl m n < 0
    · have := ccl_neg.1 z; omega
    · omega
  have h1 := h.fst m hx
  have h2 := k.fst n hn
  have : (fun y => decide (ccl y m = 0)) = (fun y : Cl => decide (ccl y n = 0)) := by
    funext y
    rw [ccl_eq_right e0]
  rw [this, h2] at h1
  have : n = m := by simpa using h1
  rw [← this]
  exact hn
theorem NewSpec.one {l a b : List Cl} (h : NewSpec l a) (k : NewSpec l b) : a = b :=
  asc_unique a b h.asc k.asc fun _ => ⟨h.mem_of k, k.mem_of h⟩
/-- The newest of two lists are those of the newest of each. -/
theorem newL_both (a b : List Cl) : newL (newL a ++ newL b) = newL (a ++ b) := by
  have hA := newL_spec a
  have hB := newL_spec b
  have hP := newL_spec (newL a ++ newL b)
  refine NewSpec.one (l := a ++ b) ⟨hP.asc, fun s hs => ?_, hP.apart, fun x hx => ?_⟩ (newL_spec (a ++ b))
  · have hf := hP.fst s hs
    rw [List.find?_append] at hf ⊢
    cases ha : a.find? (fun x => decide (ccl x s = 0)) with
    | some y =>
      have hya : y ∈ a := List.mem_of_find?_eq_some ha
      have hys : ccl y s = 0 := by simpa using List.find?_some ha
      obtain ⟨n, hn, p, q⟩ := hA.best y hya
      obtain ⟨m, hm, p2, q2⟩ := hP.best n (by simp [hn])
      have e : m = s := apart_one hP.apart hm hs (plc_trans p2 (plc_trans p (plc_of_ccl hys)))
      subst e
      have q3 : ccl n m ≤ 0 := by rw [← ccl_eq_right (a := n) hys]; exact q
      have e0 : ccl n m = 0 := by
        by_cases z : ccl n m < 0
        · have := ccl_neg.1 z; omega
        · omega
      have h1 := hA.fst n hn
      have ef : (fun y => decide (ccl y n = 0)) = (fun y : Cl => decide (ccl y m = 0)) := by
        funext y
        rw [ccl_eq_right e0]
      rw [ef, ha] at h1
      obtain rfl : y = n := by simpa using h1
      have h2 : (newL a).find? (fun x => decide (ccl x m = 0)) = some y := by
        cases hq : (newL a).find? (fun x => decide (ccl x m = 0)) with
        | none =>
          rw [List.find?_eq_none] at hq
          exact absurd e0 (by simpa using hq y hn)
        | some t =>
          have ht := List.mem_of_find?_eq_some hq
          have hts : ccl t m = 0 := by simpa using List.find?_some hq
          rw [apart_one hA.apart ht hn (plc_of_ccl (by rw [ccl_eq_right (a := t) e0]; exact hts))]
      rw [h2] at hf
      simpa using hf
    | none =>
      have h2 : (newL a).find? (fun x => decide (ccl x s = 0)) = none := by
        rw [List.find?_eq_none] at ha ⊢
        exact fun x hx => ha x (hA.sub x hx)
      rw [h2] at hf
      simp only [Option.none_or] at hf ⊢
      exact hB.fst s (List.mem_of_find?_eq_some hf)
  · have : ∃ n ∈ newL a ++ newL b, plc n x = true ∧ ccl n x ≤ 0 := by
      rcases List.mem_append.1 hx with hx | hx
      · obtain ⟨n, hn, k⟩ := hA.best x hx
        exact ⟨n, by simp [hn], k⟩
      · obtain ⟨n, hn, k⟩ := hB.best x hx
        exact ⟨n, by simp [hn], k⟩
    obtain ⟨n, hn, p, q⟩ := this
    obtain ⟨m, hm, p2, q2⟩ := hP.best n hn
    exact ⟨m, hm, plc_trans p2 p, ccl_le_trans q2 q⟩

end Go.Proofs.Ytlkikfkchgmmhaa
