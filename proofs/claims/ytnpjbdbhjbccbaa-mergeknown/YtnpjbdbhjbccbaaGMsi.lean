/-
  merge.sift: of a row the cells that follow the one told last: as lists; how often the row is asked.
  merge.sift: what it made is asked.
  merge.sift: what it made is asked.
-/
import Derived.Test.YtnpjbdbhjbccbaaGMof
import Derived.Deep.LoopGhost
import Derived.Deep.CutBlock
namespace Go.Proofs.Ytnpjbdbhjbccbaa
open Go.RowKit Go.BigFrame Go.Sort
attribute [local go_sem] size_bstr toList_bstr ls_def

/-- Of cells those that follow the one told last. -/
def siftL (f : Cl → Cl → Bool) : Option Cl → List Cl → List Cl
  | _, [] => []
  | none, c :: cs => c :: siftL f (some c) cs
  | some l, c :: cs => if f l c then c :: siftL f (some c) cs else siftL f (some l) cs
/-- Does a cell follow? -/
def folB (f : Cl → Cl → Bool) : Option Cl → Cl → Bool
  | none, _ => true
  | some l, c => f l c
theorem siftL_nil (f : Cl → Cl → Bool) (lo : Option Cl) : siftL f lo [] = [] := by cases lo <;> rfl
theorem siftL_yes {f : Cl → Cl → Bool} {lo : Option Cl} {c : Cl} {cs : List Cl} (h : folB f lo c = true) : siftL f lo (c :: cs) = c :: siftL f (some c) cs := by
  cases lo with
  | none => rfl
  | some l => rw [siftL]; exact if_pos h
theorem siftL_no {f : Cl → Cl → Bool} {lo : Option Cl} {c : Cl} {cs : List Cl} (h : folB f lo c = false) : siftL f lo (c :: cs) = siftL f lo cs := by
  cases lo with
  | none => cases h
  | some l => rw [siftL]; exact if_neg (by rw [show f l c = false from h]; simp)
theorem siftL_len (f : Cl → Cl → Bool) : ∀ (cs : List Cl) (lo : Option Cl), (siftL f lo cs).length ≤ cs.length
  | [], lo => by rw [siftL_nil]; exact Nat.le_refl _
  | c :: cs, lo => by
    cases h : folB f lo c with
    | true => rw [siftL_yes h]; simpa using siftL_len f cs (some c)
    | false => rw [siftL_no h]; exact Nat.le_trans (siftL_len f cs lo) (by simp)
theorem siftL_mem (f : Cl → Cl → Bool) : ∀ (cs : List Cl) (lo : Option Cl), ∀ c ∈ siftL f lo cs, c ∈ cs
  | [], lo, c, h => by rw [siftL_nil] at h; exact h
  | x :: cs, lo, c, h => by
    cases hx : folB f lo x with
    | true =>
      rw [siftL_yes hx] at h
      rcases List.mem_cons.1 h with rfl | h
      · simp
      · exact List.mem_cons_of_mem _ (siftL_mem f cs (some x) c h)
    | false =>
      rw [siftL_no hx] at h
      exact List.mem_cons_of_mem _ (siftL_mem f cs lo c h)
/-- Where a sift stands: n asked of it, m of its row; lo: told last; en: at its end. -/
structure SR (f : Cl → Cl → Bool) (cs : List Cl) (n m : Nat) (lo : Option Cl) (en : Bool) : Prop where
  rest : (siftL f none cs).drop n = if en then [] else siftL f lo (cs.drop m)
  le : en = false → m ≤ cs.length
  few : siftL f none cs = cs → m ≤ n
theorem SR.start (f : Cl → Cl → Bool) (cs : List Cl) : SR f cs 0 0 none false := ⟨by simp, fun _ => Nat.zero_le _, fun _ => Nat.le_refl _⟩
theorem drop_get {α : Type} {l : List α} {n : Nat} {c : α} (h : l[n]? = some c) : l.drop n = c :: l.drop (n + 1) := by
  obtain ⟨hn, rfl⟩ := List.getElem?_eq_some_iff.1 h
  exact List.drop_eq_getElem_cons hn
theorem SR.skip {f : Cl → Cl → Bool} {cs : List Cl} {n m : Nat} {lo : Option Cl} {c : Cl} (h : SR f cs n m lo false) (hc : cs[m]? = some c) (hf : folB f lo c = false) : SR f cs n (m + 1) lo false := by
  obtain ⟨hm, _⟩ := List.getElem?_eq_some_iff.1 hc
  have hr := h.rest
  rw [drop_get hc, siftL_no hf] at hr
  refine ⟨hr, fun _ => by omega, fun e => ?_⟩
  have hl := congrArg List.length hr
  rw [e] at hl
  have := siftL_len f (cs.drop (m + 1)) lo
  simp only [List.length_drop, Bool.false_eq_true, if_false] at hl this
  omega
theorem SR.told {f : Cl → Cl → Bool} {cs : List Cl} {n m : Nat} {lo : Option Cl} {c : Cl} (h : SR f cs n m lo false) (hc : cs[m]? = some c) (hf : folB f lo c = true) : SR f cs (n + 1) (m + 1) (some c) false ∧ (siftL f none cs)[n]? = some c := by
  obtain ⟨hm, _⟩ := List.getElem?_eq_some_iff.1 hc
  have hr := h.rest
  rw [drop_get hc, siftL_yes hf] at hr
  refine ⟨⟨?_, fun _ => by omega, fun e => by have := h.few e; omega⟩, ?_⟩
  · rw [← List.drop_drop, hr]
    rfl
  · have : ((siftL f none cs).drop n)[0]? = some c := by rw [hr]; rfl
    rw [List.getElem?_drop] at this
    exact this
theorem SR.ends {f : Cl → Cl → Bool} {cs : List Cl} {n m : Nat} {lo : Option Cl} (h : SR f cs n m lo false) (hc : cs.length ≤ m) : SR f cs (n + 1) (m + 1) lo true ∧ (siftL f none cs).length ≤ n := by
  have hr := h.rest
  rw [List.drop_eq_nil_of_le hc, siftL_nil] at hr
  have hl : (siftL f none cs).length ≤ n := by
    have := congrArg List.length hr
    simp at this
    omega
  refine ⟨⟨?_, fun e => (by cases e), fun e => by have := h.few e; omega⟩, hl⟩
  rw [List.drop_eq_nil_of_le (by omega)]
  rfl
theorem SR.over {f : Cl → Cl → Bool} {cs : List Cl} {n m : Nat} {lo : Option Cl} (h : SR f cs n m lo true) : SR f cs (n + 1) m lo true ∧ (siftL f none cs).length ≤ n := by
  have hr := h.rest
  have hl : (siftL f none cs).length ≤ n := by
    have := congrArg List.length hr
    simp at this
    omega
  refine ⟨⟨?_, fun e => (by cases e), fun e => by have := h.few e; omega⟩, hl⟩
  rw [List.drop_eq_nil_of_le (by omega)]
  rfl

/-- Of a cell its row, column and version. -/
def bare (c : Cl) : Cl := ⟨c.row, c.col, c.ver, false, []⟩
/-- sift's captured variables, as they are handed to the function that it makes. -/
def siftC (b pg pe : Nat) : Array Value := #[.pointer (some ⟨pe, 0, none⟩), .pointer (some ⟨b, 0, none⟩), .pointer (some ⟨pg, 0, none⟩), .pointer (some ⟨b + 1, 0, none⟩), .pointer (some ⟨b + 2, 0, none⟩)]
def SiftP (b pg pe : Nat) : Prop := pg = b + 3 ∧ pe = b + 4 ∨ pg = b + 4 ∧ pe = b + 3
/-- What sift has captured: its row, the test, the cell told last, whether it has begun, whether it is at its end. -/
structure SiftAt (w : World) (b pg pe : Nat) (s : Value) (g2 : Nat) (lo : Option Cl) (en : Bool) : Prop where
  s : w.heap[b]? = some (.cells #[s] 25 (0, 0))
  f : w.heap[b + 1]? = some (.cells #[.func (.func g2) #[] #[]] 59 (0, 0))
  l : ∃ c, w.heap[b + 2]? = some (.cells #[.string (bstr c.row), .string (bstr c.col), .int .u64 c.ver, .bool c.gone, .string (bstr c.val)] 39 (0, 0)) ∧ ∀ x, lo = some x → c = bare x
  g : w.heap[pg]? = some (.cells #[.bool lo.isSome] 4 (0, 0))
  e : w.heap[pe]? = some (.cells #[.bool en] 4 (0, 0))
theorem five (w : World) (a b c d e : Obj) : (((((w.alloc a).alloc b).alloc c).alloc d).alloc e).heap[w.heap.size]? = some a ∧ (((((w.alloc a).alloc b).alloc c).alloc d).alloc e).heap[w.heap.size + 1]? = some b ∧ (((((w.alloc a).alloc b).alloc c).alloc d).alloc e).heap[w.heap.size + 2]? = some c ∧
    (((((w.alloc a).alloc b).alloc c).alloc d).alloc e).heap[w.heap.size + 3]? = some d ∧ (((((w.alloc a).alloc b).alloc c).alloc d).alloc e).heap[w.heap.size + 4]? = some e ∧ Below w.heap.size w (((((w.alloc a).alloc b).alloc c).alloc d).alloc e) := by
  have s1 : (w.alloc a).heap.size = w.heap.size + 1 := by simp
  have s2 : ((w.alloc a).alloc b).heap.size = w.heap.size + 2 := by simp
  have s3 : (((w.alloc a).alloc b).alloc c).heap.size = w.heap.size + 3 := by simp
  have s4 : ((((w.alloc a).alloc b).alloc c).alloc d).heap.size = w.heap.size + 4 := by simp
  refine ⟨?_, ?_, ?_, ?_, ?_, ((((((Below.refl _ _).alloc (Nat.le_refl _) _).alloc (by omega) _).alloc (by omega) _).alloc (by omega) _).alloc (by omega) _)⟩
  · rw [heap_alloc_old _ _ (by omega), heap_alloc_old _ _ (by omega), heap_alloc_old _ _ (by omega), heap_alloc_old _ _ (by omega)]; exact heap_alloc_new w a
  · rw [heap_alloc_old _ _ (by omega), heap_alloc_old _ _ (by omega), heap_alloc_old _ _ (by omega), ← s1]; exact heap_alloc_new _ b
  · rw [heap_alloc_old _ _ (by omega), heap_alloc_old _ _ (by omega), ← s2]; exact heap_alloc_new _ c
  · rw [heap_alloc_old _ _ (by omega), ← s3]; exact heap_alloc_new _ d
  · rw [← s4]; exact heap_alloc_new _ e

set_option maxHeartbeats 4000000 in
set_option maxRecDepth 100000 in
theorem sift_row (g : Nat) (caps : Array Value) (g2 : Nat) (w : World) :
    Calls Try.prog 40 #[.func (.func g) #[] caps, .func (.func g2) #[] #[]] w fun e w' => ∃ pg pe, SiftP w.heap.size pg pe ∧ e = .returned (.func (.func 60) #[] (siftC w.heap.size pg pe)) ∧
      SiftAt w' w.heap.size pg pe (.func (.func g) #[] caps) g2 none false ∧ Below w.heap.size w w' := by
  have hE1 := fun g caps w => fn_eql g caps w
  have hE2 := fun w => nil_eql w
  have hmf : ∀ (fn : Fn) (first cap : Array Value) (w : World), (Instr.makeFunc fn first cap).run Try.prog w = .ok (.func fn first cap) w := fun _ _ _ _ => rfl
  go_enter Try.func40, Try.ntmps40
  go_wp2_with fail
  go_region
  all_goals (
    go_wp2
    go_ret
    refine ⟨_, _, ?sp, rfl, ?sa, ?sb⟩
    case sb => exact (five _ _ _ _ _ _).2.2.2.2.2.drew
    case sa =>
      obtain ⟨h0, h1, h2, h3, h4, _⟩ := five w _ _ _ _ _
      exact ⟨h0, h1, ⟨zC, h2, fun x hx => by cases hx⟩, by first | exact h3 | exact h4, by first | exact h4 | exact h3⟩
    case sp => first | exact Or.inl ⟨rfl, rfl⟩ | exact Or.inr ⟨rfl, rfl⟩)

set_option maxHeartbeats 4000000 in
set_option maxRecDepth 100000 in
theorem sift_nil (g2 : Nat) (w : World) :
    Calls Try.prog 40 #[.nilFunc, .func (.func g2) #[] #[]] w fun e w' => ∃ pg pe, SiftP w.heap.size pg pe ∧ e = .returned (.func (.func 60) #[] (siftC w.heap.size pg pe)) ∧
      SiftAt w' w.heap.size pg pe (.nilFunc) g2 none true ∧ Below w.heap.size w w' := by
  have hE1 := fun g caps w => fn_eql g caps w
  have hE2 := fun w => nil_eql w
  have hmf : ∀ (fn : Fn) (first cap : Array Value) (w : World), (Instr.makeFunc fn first cap).run Try.prog w = .ok (.func fn first cap) w := fun _ _ _ _ => rfl
  go_enter Try.func40, Try.ntmps40
  go_wp2_with fail
  go_region
  all_goals (
    go_wp2
    go_ret
    refine ⟨_, _, ?sp, rfl, ?sa, ?sb⟩
    case sb => exact (five _ _ _ _ _ _).2.2.2.2.2.drew
    case sa =>
      obtain ⟨h0, h1, h2, h3, h4, _⟩ := five w _ _ _ _ _
      exact ⟨h0, h1, ⟨zC, h2, fun x hx => by cases hx⟩, by first | exact h3 | exact h4, by first | exact h4 | exact h3⟩
    case sp => first | exact Or.inl ⟨rfl, rfl⟩ | exact Or.inr ⟨rfl, rfl⟩)

end Go.Proofs.Ytnpjbdbhjbccbaa

namespace Go.Proofs.Ytnpjbdbhjbccbaa
open Go.RowKit Go.BigFrame Go.Sort
attribute [local go_sem] size_bstr toList_bstr ls_def

/-- A test that two cells are handed to. -/
structure Fol (g2 : Nat) (f : Cl → Cl → Bool) : Prop where
  eg : ∀ args w, (callFunc g2 args).run Try.prog w = .ok (.enter g2 args) w
  run : ∀ l c w, Calls Try.prog g2 #[clV l, clV c] w fun e w' => e = .returned (.bool (f l c)) ∧ Below w.heap.size w w'
  bare : ∀ l c, f (bare l) c = f l c
def SiftF (F : Nat → Prop) (b i : Nat) : Prop := F i ∨ b ≤ i ∧ i < b + 5
structure SiftJ (g : Nat) (caps : Array Value) (F : Nat → Prop) (cs : List Cl) (J : Nat → World → Prop) (g2 : Nat) (f : Cl → Cl → Bool) (b pg pe n : Nat) (w : World) : Prop where
  out : ∃ m lo en, SR f cs n m lo en ∧ J m w ∧ SiftAt w b pg pe (.func (.func g) #[] caps) g2 lo en
theorem SiftAt.kept {w w' : World} {b pg pe : Nat} {s : Value} {g2 : Nat} {lo : Option Cl} {en : Bool} (h : SiftAt w b pg pe s g2 lo en) (hp : SiftP b pg pe) (hk : ∀ i, b ≤ i → i < b + 5 → w'.heap[i]? = w.heap[i]?) : SiftAt w' b pg pe s g2 lo en := by
  obtain ⟨c, h1, h2⟩ := h.l
  exact ⟨(hk _ (by omega) (by omega)).trans h.s, (hk _ (by omega) (by omega)).trans h.f, ⟨c, (hk _ (by omega) (by omega)).trans h1, h2⟩, (hk _ (by unfold SiftP at hp; omega) (by unfold SiftP at hp; omega)).trans h.g, (hk _ (by unfold SiftP at hp; omega) (by unfold SiftP at hp; omega)).trans h.e⟩
theorem SiftAt.lt {w : World} {b pg pe : Nat} {s : Value} {g2 : Nat} {lo : Option Cl} {en : Bool} (h : SiftAt w b pg pe s g2 lo en) (hp : SiftP b pg pe) : b + 4 < w.heap.size := by
  have h1 := blk_lt h.g
  have h2 := blk_lt h.e
  unfold SiftP at hp
  omega
/-- A cell's block. -/
def cObj (c : Cl) : Obj := .cells #[.string (bstr c.row), .string (bstr c.col), .int .u64 c.ver, .bool c.gone, .string (bstr c.val)] 39 (0, 0)
theorem cObj_facts {w : World} {b : Nat} {c : Cl} (h : w.heap[b]? = some (cObj c)) : w.cell? ⟨b, 0, none⟩ = some (.string (bstr c.row)) ∧ w.cell? ⟨b, 1, none⟩ = some (.string (bstr c.col)) ∧ w.cell? ⟨b, 2, none⟩ = some (.int .u64 c.ver) ∧ w.cell? ⟨b, 3, none⟩ = some (.bool c.gone) ∧ w.cell? ⟨b, 4, none⟩ = some (.string (bstr c.val)) ∧
    w.frozen? ⟨b, 0, none⟩ = false ∧ w.frozen? ⟨b, 1, none⟩ = false ∧ w.frozen? ⟨b, 2, none⟩ = false ∧ w.frozen? ⟨b, 3, none⟩ = false ∧ w.frozen? ⟨b, 4, none⟩ = false := by
  have h1 := (mcells h).1
  have h2 := (mcells h).2
  exact ⟨h1 0, h1 1, h1 2, h1 3, h1 4, h2 0, h2 1, h2 2, h2 3, h2 4⟩
/-- Five stores make of a cell's block another one. -/
theorem cObj_set {w : World} {b : Nat} {c d : Cl} (h : w.heap[b]? = some (cObj c)) {w' : World} (hw : ((((w.setCell ⟨b, 0, none⟩ (.string (bstr d.row))).setCell ⟨b, 1, none⟩ (.string (bstr d.col))).setCell ⟨b, 2, none⟩ (.int .u64 d.ver)).setCell ⟨b, 3, none⟩ (.bool d.gone)).setCell ⟨b, 4, none⟩ (.string (bstr d.val)) = w') :
    w'.heap[b]? = some (cObj d) ∧ (∀ i, i ≠ b → w'.heap[i]? = w.heap[i]?) := by
  have hb := heap_set_same (o := 4) (heap_set_same (o := 3) (heap_set_same (o := 2) (heap_set_same (o := 1) (heap_set_same (o := 0) h (.string (bstr d.row))) (.string (bstr d.col))) (.int .u64 d.ver)) (.bool d.gone)) (.string (bstr d.val))
  rw [hw] at hb
  refine ⟨hb, fun i hi => ?_⟩
  rw [← hw]
  rw [heap_set_other _ hi, heap_set_other _ hi, heap_set_other _ hi, heap_set_other _ hi, heap_set_other _ hi]
theorem cObj_at {w : World} {b : Nat} {c : Cl} (h : w.heap[b]? = some (cObj c)) : At5 w b 0 c := by
  obtain ⟨h0, h1, h2, h3, h4, _⟩ := cObj_facts h
  exact ⟨h0, h1, h2, h3, h4⟩
/-- sift under way: its blocks, the block r of what is answered, the block cb of the cell that came. -/
structure Raw (w0 w : World) (F : Nat → Prop) (J : Nat → World → Prop) (b pg pe r cb m : Nat) (s : Value) (g2 : Nat) (l : Cl) (bg en : Bool) (c z : Cl) : Prop where
  j : J m w
  s : w.heap[b]? = some (.cells #[s] 25 (0, 0))
  f : w.heap[b + 1]? = some (.cells #[.func (.func g2) #[] #[]] 59 (0, 0))
  l : w.heap[b + 2]? = some (cObj l)
  g : w.heap[pg]? = some (.cells #[.bool bg] 4 (0, 0))
  e : w.heap[pe]? = some (.cells #[.bool en] 4 (0, 0))
  c : w.heap[cb]? = some (cObj c)
  z : w.heap[r]? = some (cObj z)
  k : Kp w0 w (SiftF F b)
theorem Raw.below {g : Nat} {caps : Array Value} {cs : List Cl} {w0 w w' : World} {F : Nat → Prop} {J : Nat → World → Prop} {b pg pe r cb m : Nat} {s : Value} {g2 : Nat} {l : Cl} {bg en : Bool} {c z : Cl} (hT : Tlr g caps F cs J) (h : Raw w0 w F J b pg pe r cb m s g2 l bg en c z) (hb : Below w.heap.size w w') : Raw w0 w' F J b pg pe r cb m s g2 l bg en c z :=
  ⟨hT.below h.j hb, (hb.block _ (blk_lt h.s)).trans h.s, (hb.block _ (blk_lt h.f)).trans h.f, (hb.block _ (blk_lt h.l)).trans h.l, (hb.block _ (blk_lt h.g)).trans h.g, (hb.block _ (blk_lt h.e)).trans h.e, (hb.block _ (blk_lt h.c)).trans h.c, (hb.block _ (blk_lt h.z)).trans h.z, h.k.trans (Kp.of_below (fun _ => False) hb) (fun _ h => h.elim)⟩
/-- The numbers of sift's blocks are apart. -/
structure Aprt (w0 : World) (F : Nat → Prop) (b pg pe r cb : Nat) : Prop where
  p : SiftP b pg pe
  d : ∀ i, F i → i < b ∨ b + 5 ≤ i
  l : ∀ i, F i → i < w0.heap.size
  bl : b + 4 < w0.heap.size
  hr : w0.heap.size ≤ r
  hc : r < cb
theorem Raw.setG {g : Nat} {caps : Array Value} {cs : List Cl} {w0 w w' : World} {F : Nat → Prop} {J : Nat → World → Prop} {b pg pe r cb m : Nat} {s : Value} {g2 : Nat} {l : Cl} {bg en bv : Bool} {c z : Cl} (hT : Tlr g caps F cs J) (ha : Aprt w0 F b pg pe r cb) (h : Raw w0 w F J b pg pe r cb m s g2 l bg en c z) (hw : w.setCell ⟨pg, 0, none⟩ (.bool bv) = w') : Raw w0 w' F J b pg pe r cb m s g2 l bv en c z := by
  obtain ⟨hp, hd, hl, hbl, hr, hc⟩ := ha
  unfold SiftP at hp
  have ho : ∀ i, i ≠ pg → w'.heap[i]? = w.heap[i]? := fun i hi => by rw [← hw]; exact heap_set_other _ hi
  refine ⟨hT.kept _ _ _ h.j fun i hi => ho i (by have := hd i hi; omega), (ho _ (by omega)).trans h.s, (ho _ (by omega)).trans h.f, (ho _ (by omega)).trans h.l, ?_, (ho _ (by omega)).trans h.e, (ho _ (by omega)).trans h.c, (ho _ (by omega)).trans h.z, ?_⟩
  · rw [← hw]; exact heap_set_same h.g _
  · rw [← hw]; exact h.k.setCell _ (Or.inl (Or.inr (by omega)))
theorem Raw.setE {g : Nat} {caps : Array Value} {cs : List Cl} {w0 w w' : World} {F : Nat → Prop} {J : Nat → World → Prop} {b pg pe r cb m : Nat} {s : Value} {g2 : Nat} {l : Cl} {bg en bv : Bool} {c z : Cl} (hT : Tlr g caps F cs J) (ha : Aprt w0 F b pg pe r cb) (h : Raw w0 w F J b pg pe r cb m s g2 l bg en c z) (hw : w.setCell ⟨pe, 0, none⟩ (.bool bv) = w') : Raw w0 w' F J b pg pe r cb m s g2 l bg bv c z := by
  obtain ⟨hp, hd, hl, hbl, hr, hc⟩ := ha
  unfold SiftP at hp
  have ho : ∀ i, i ≠ pe → w'.heap[i]? = w.heap[i]? := fun i hi => by rw [← hw]; exact heap_set_other _ hi
  refine ⟨hT.kept _ _ _ h.j fun i hi => ho i (by have := hd i hi; omega), (ho _ (by omega)).trans h.s, (ho _ (by omega)).trans h.f, (ho _ (by omega)).trans h.l, (ho _ (by omega)).trans h.g, ?_, (ho _ (by omega)).trans h.c, (ho _ (by omega)).trans h.z, ?_⟩
  · rw [← hw]; exact heap_set_same h.e _
  · rw [← hw]; exact h.k.setCell _ (Or.inl (Or.inr (by omega)))
theorem Raw.setL {g : Nat} {caps : Array Value} {cs : List Cl} {w0 w w' : World} {F : Nat → Prop} {J : Nat → World → Prop} {b pg pe r cb m : Nat} {s : Value} {g2 : Nat} {l d : Cl} {bg en : Bool} {c z : Cl} (hT : Tlr g caps F cs J) (ha : Aprt w0 F b pg pe r cb) (h : Raw w0 w F J b pg pe r cb m s g2 l bg en c z)
    (hw : ((((w.setCell ⟨b + 2, 0, none⟩ (.string (bstr d.row))).setCell ⟨b + 2, 1, none⟩ (.string (bstr d.col))).setCell ⟨b + 2, 2, none⟩ (.int .u64 d.ver)).setCell ⟨b + 2, 3, none⟩ (.bool d.gone)).setCell ⟨b + 2, 4, none⟩ (.string (bstr d.val)) = w') : Raw w0 w' F J b pg pe r cb m s g2 d bg en c z := by
  obtain ⟨hp, hd, hl, hbl, hr, hc⟩ := ha
  unfold SiftP at hp
  obtain ⟨hs, ho⟩ := cObj_set h.l hw
  refine ⟨hT.kept _ _ _ h.j fun i hi => ho i (by have := hd i hi; omega), (ho _ (by omega)).trans h.s, (ho _ (by omega)).trans h.f, hs, (ho _ (by omega)).trans h.g, (ho _ (by omega)).trans h.e, (ho _ (by omega)).trans h.c, (ho _ (by omega)).trans h.z, ?_⟩
  have hn : SiftF F b (b + 2) ∨ w0.heap.size ≤ b + 2 := Or.inl (Or.inr (by omega))
  rw [← hw]
  exact ((((h.k.setCell _ hn).setCell _ hn).setCell _ hn).setCell _ hn).setCell _ hn
theorem Raw.setR {g : Nat} {caps : Array Value} {cs : List Cl} {w0 w w' : World} {F : Nat → Prop} {J : Nat → World → Prop} {b pg pe r cb m : Nat} {s : Value} {g2 : Nat} {l d : Cl} {bg en : Bool} {c z : Cl} (hT : Tlr g caps F cs J) (ha : Aprt w0 F b pg pe r cb) (h : Raw w0 w F J b pg pe r cb m s g2 l bg en c z)
    (hw : ((((w.setCell ⟨r, 0, none⟩ (.string (bstr d.row))).setCell ⟨r, 1, none⟩ (.string (bstr d.col))).setCell ⟨r, 2, none⟩ (.int .u64 d.ver)).setCell ⟨r, 3, none⟩ (.bool d.gone)).setCell ⟨r, 4, none⟩ (.string (bstr d.val)) = w') : Raw w0 w' F J b pg pe r cb m s g2 l bg en c d := by
  obtain ⟨hp, hd, hl, hbl, hr, hc⟩ := ha
  unfold SiftP at hp
  obtain ⟨hs, ho⟩ := cObj_set h.z hw
  refine ⟨hT.kept _ _ _ h.j fun i hi => ho i (by have := hl i hi; omega), (ho _ (by omega)).trans h.s, (ho _ (by omega)).trans h.f, (ho _ (by omega)).trans h.l, (ho _ (by omega)).trans h.g, (ho _ (by omega)).trans h.e, (ho _ (by omega)).trans h.c, hs, ?_⟩
  have hn : SiftF F b r ∨ w0.heap.size ≤ r := Or.inr hr
  rw [← hw]
  exact ((((h.k.setCell _ hn).setCell _ hn).setCell _ hn).setCell _ hn).setCell _ hn
theorem Raw.at_ {w0 w : World} {F : Nat → Prop} {J : Nat → World → Prop} {b pg pe r cb m : Nat} {s : Value} {g2 : Nat} {l : Cl} {bg en : Bool} {c z : Cl} (h : Raw w0 w F J b pg pe r cb m s g2 l bg en c z) {lo : Option Cl} (h1 : bg = lo.isSome) (h2 : ∀ x, lo = some x → l = bare x) : SiftAt w b pg pe s g2 lo en :=
  ⟨h.s, h.f, ⟨l, h.l, h2⟩, h1 ▸ h.g, h.e⟩

/-- sift between two asks of its row: m: asked of it; the block behind w0's holds what will be answered. -/
structure SiftG (w0 w : World) (F : Nat → Prop) (J : Nat → World → Prop) (b pg pe m : Nat) (s : Value) (g2 : Nat) (lo : Option Cl) (en : Bool) : Prop where
  j : J m w
  s : SiftAt w b pg pe s g2 lo en
  z : w.heap[w0.heap.size]? = some (cObj zC)
  k : Kp w0 w (SiftF F b)
/-- The row was asked, and the cell that it told laid into a new block. -/
theorem SiftG.raw {g : Nat} {caps : Array Value} {cs : List Cl} {w0 w w1 : World} {F : Nat → Prop} {J : Nat → World → Prop} {b pg pe m : Nat} {s : Value} {g2 : Nat} {lo : Option Cl} {en : Bool} (hT : Tlr g caps F cs J) (h : SiftG w0 w F J b pg pe m s g2 lo en) (hp : SiftP b pg pe) (hd : ∀ i, F i → i < b ∨ b + 5 ≤ i) (hl : ∀ i, F i → i < w0.heap.size) (hj : J (m + 1) w1) (hk : Kp w w1 F) (c : Cl) :
    ∃ l, Raw w0 (w1.alloc (cObj c)) F J b pg pe w0.heap.size w1.heap.size (m + 1) s g2 l lo.isSome en c zC ∧ ∀ x, lo = some x → l = bare x := by
  have hlt := h.s.lt hp
  have hz := blk_lt h.z
  have hs := hk.size
  have ho : ∀ i, b ≤ i → i < b + 5 → (w1.alloc (cObj c)).heap[i]? = w.heap[i]? := fun i h1 h2 => (heap_alloc_old _ _ (by omega)).trans (hk.block i (by omega) (fun hf => by have := hd i hf; omega))
  obtain ⟨h1, h2, ⟨l, h3, h4⟩, h5, h6⟩ := h.s.kept hp ho
  refine ⟨l, ⟨hT.below hj ((Below.refl _ _).alloc (Nat.le_refl _) _), h1, h2, h3, h5, h6, heap_alloc_new w1 _, ?_, ?_⟩, h4⟩
  · exact (heap_alloc_old _ _ (by omega)).trans ((hk.block _ hz (fun hf => by have := hl _ hf; omega)).trans h.z)
  · exact (h.k.trans hk (fun i hi => Or.inl (Or.inl hi))).alloc _
theorem Raw.back {w0 w : World} {F : Nat → Prop} {J : Nat → World → Prop} {b pg pe cb m : Nat} {s : Value} {g2 : Nat} {l : Cl} {bg en : Bool} {c : Cl} (h : Raw w0 w F J b pg pe w0.heap.size cb m s g2 l bg en c zC) {lo : Option Cl} (h1 : bg = lo.isSome) (h2 : ∀ x, lo = some x → l = bare x) : SiftG w0 w F J b pg pe m s g2 lo en :=
  ⟨h.j, h.at_ h1 h2, h.z, h.k⟩

end Go.Proofs.Ytnpjbdbhjbccbaa

namespace Go.Proofs.Ytnpjbdbhjbccbaa
open Go.RowKit Go.BigFrame Go.Sort
attribute [local go_sem] size_bstr toList_bstr ls_def

set_option maxHeartbeats 8000000 in
set_option maxRecDepth 100000 in
theorem sift1_step {g : Nat} {caps : Array Value} {F : Nat → Prop} {cs : List Cl} {J : Nat → World → Prop} (hT : Tlr g caps F cs J) {g2 : Nat} {f : Cl → Cl → Bool} (hF : Fol g2 f) {b pg pe : Nat} (hP : SiftP b pg pe) (hd : ∀ i, F i → i < b ∨ b + 5 ≤ i) (n : Nat) (w : World) (h : SiftJ g caps F cs J g2 f b pg pe n w) :
    Calls Try.prog 60 (siftC b pg pe) w fun e w' => e = .returned (ansV (siftL f none cs) n) ∧ SiftJ g caps F cs J g2 f b pg pe (n + 1) w' ∧ Kp w w' (SiftF F b) := by
  obtain ⟨m0, lo, en0, hR0, hJ0, hS0⟩ := h.out
  have eg := hT.eg
  have eg2 := hF.eg
  have hbl := hS0.lt hP
  have hFl := hT.lt m0 w hJ0
  have hz0 : SiftG w (w.alloc (.cells #[.string ⟨#[]⟩, .string ⟨#[]⟩, .int .u64 0, .bool false, .string ⟨#[]⟩] 39)) F J b pg pe m0 (.func (.func g) #[] caps) g2 lo en0 :=
    ⟨hT.below hJ0 ((Below.refl _ _).alloc (Nat.le_refl _) _), hS0.kept hP (fun i _ hi => heap_alloc_old _ _ (by omega)), heap_alloc_new w _, (Kp.refl w _).alloc _⟩
  unfold siftC
  go_enter Try.func60, Try.ntmps60
  go_wp2
  generalize (w.alloc (.cells #[.string ⟨#[]⟩, .string ⟨#[]⟩, .int .u64 0, .bool false, .string ⟨#[]⟩] 39)) = wz at *
  go_loopg [] (cs.length + 2) (fun kx wr => ∃ m en, Aside (en = false ∧ SR f cs n m lo false ∨ en = true ∧ SR f cs (n + 1) m lo true ∧ (siftL f none cs).length ≤ n) ∧ (if en then 0 else cs.length - m + 1) ≤ kx ∧ SiftG w wr F J b pg pe m (.func (.func g) #[] caps) g2 lo en)
  case atStart =>
    refine ⟨m0, en0, ?_, ?_, hz0⟩
    · cases en0 with
      | false => exact Or.inl ⟨rfl, hR0⟩
      | true => exact Or.inr ⟨rfl, hR0.over⟩
    · split <;> omega
  case round =>
    clear hz0 h hR0 hJ0 hS0
    obtain ⟨m, en, HA, hk, hG⟩ := hrel
    have hlt := hG.s.lt hP
    have hzl := blk_lt hG.z
    cases en with
    | true =>
      have e0 := (mcells hG.s.e).1 0
      obtain ⟨z0, z1, z2, z3, z4, y0, y1, y2, y3, y4⟩ := cObj_facts hG.z
      have HG : Hid _ := hG
      clear hG
      have n0 := setCell_noop z0
      have n1 := setCell_noop z1
      have n2 := setCell_noop z2
      have n3 := setCell_noop z3
      have n4 := setCell_noop z4
      simp only [show bstr [] = ⟨#[]⟩ from rfl] at z0 z1 z4 n0 n1 n4
      go_wp2
      refine ret_cell Try.results60 (c := zC) (v := .bool false) rfl rfl (cObj_at HG.out.z) rfl ?_
      rcases HA.out with ⟨e, _⟩ | ⟨_, hR, hl⟩
      · cases e
      · exact ⟨by rw [ansV_no hl], ⟨_, _, _, hR, HG.out.j, HG.out.s⟩, HG.out.k⟩
    | false =>
      have hR : SR f cs n m lo false := by
        rcases HA.out with ⟨_, h⟩ | ⟨h, _⟩
        · exact h
        · cases h
      clear HA
      have hcall := hT.step m wr hG.j
      have e0 := (mcells hG.s.e).1 0
      have s0 := (mcells hG.s.s).1 0
      simp only [Bool.false_eq_true, if_false] at hk
      have HG : Hid _ := hG
      have HR : Hid _ := hR
      clear hG hR
      by_cases hm : m < cs.length
      · obtain ⟨c, hc⟩ : ∃ c, cs[m]? = some c := ⟨_, List.getElem?_eq_getElem hm⟩
        rw [ansV_yes hc] at hcall
        have hfc : Fits c := hT.fits c (List.mem_of_getElem? hc)
        have hfb : Fits (bare c) := ⟨hfc.1, hfc.2.1, by simp [bare]⟩
        have HC : Hid _ := hc
        clear hc
        go_wp2_with fail
        refine hcall.mono ?_
        rintro e w1 ⟨rfl, hJ1, hK1⟩
        obtain ⟨l, hRA, hlo⟩ := HG.out.raw hT hP hd hFl hJ1 hK1 c
        have hA : Aprt w F b pg pe w.heap.size w1.heap.size := ⟨hP, hd, hFl, hbl, Nat.le_refl _, Nat.lt_of_lt_of_le hzl hK1.size⟩
        have hcg : w1.heap.size ≠ pg := by have := hA.hc; have := hA.p; unfold SiftP at this; omega
        have hgc : pg ≠ w1.heap.size := hcg.symm
        have hcl : w1.heap.size ≠ b + 2 := by have := hA.hc; omega
        have hlc : b + 2 ≠ w1.heap.size := hcl.symm
        have hpl : w1.heap.size < (w1.alloc (cObj c)).heap.size := by simp
        have hRA' : Raw w (w1.alloc (.cells #[.string (bstr c.row), .string (bstr c.col), .int .u64 c.ver, .bool c.gone, .string (bstr c.val)] 39)) F J b pg pe w.heap.size w1.heap.size (m + 1) (.func (.func g) #[] caps) g2 l lo.isSome false c zC := hRA
        clear hRA hcall e0 s0 hpl
        go_upto_if 17 with fail
        generalize w1.alloc (.cells #[.string (bstr c.row), .string (bstr c.col), .int .u64 c.ver, .bool c.gone, .string (bstr c.val)] 39) = wa at *
        rename Raw _ wa _ _ _ _ _ _ _ _ _ _ _ _ _ _ _ => hRA
        have g0 := (mcells hRA.g).1 0
        have gf := (mcells hRA.g).2 0
        obtain ⟨c0, c1, c2, c3, c4, _⟩ := cObj_facts hRA.c
        have HLO : Hid _ := hlo
        clear hlo
        cases lo with
        | none =>
          have HS : Hid _ := HR.out.told HC.out rfl
          simp only [Option.isSome_none] at g0
          go_wp2_with fail
          refine (mfresh_any (bare c) _ hfb).mono ?_
          rintro e w3 ⟨rfl, hb3⟩
          have hR3 := (hRA.setG (bv := true) hT hA rfl).below hT hb3
          have HR3 : Hid _ := hR3
          clear hRA hb3 g0 gf
          obtain ⟨l0, l1, l2, l3, l4, lf0, lf1, lf2, lf3, lf4⟩ := cObj_facts hR3.l
          obtain ⟨c0, c1, c2, c3, c4, _⟩ := cObj_facts hR3.c
          clear hR3
          simp only [bare]
          go_wp2_with fail
          refine (mfresh_any c _ hfc).mono ?_
          rintro e w4 ⟨rfl, hb4⟩
          have hR4 := (HR3.out.setL (d := bare c) hT hA rfl).below hT hb4
          have HR4 : Hid _ := hR4
          clear hb4 l0 l1 l2 l3 l4 lf0 lf1 lf2 lf3 lf4 c0 c1 c2 c3 c4
          obtain ⟨z0, z1, z2, z3, z4, zf0, zf1, zf2, zf3, zf4⟩ := cObj_facts hR4.z
          clear hR4
          go_wp2
          have hR5 := HR4.out.setR (d := c) hT hA rfl
          refine ret_cell Try.results60 (c := c) (v := .bool true) rfl rfl (cObj_at hR5.z) rfl ?_
          exact ⟨by rw [ansV_yes HS.out.2], ⟨_, _, _, HS.out.1, hR5.j, hR5.at_ rfl (fun x hx => by cases hx; rfl)⟩, hR5.k⟩
        | some l1 =>
          have hll : l = bare l1 := HLO.out l1 rfl
          subst hll
          have f0 := (mcells hRA.f).1 0
          obtain ⟨l0, l1', l2, l3, l4, _⟩ := cObj_facts hRA.l
          have hrun := hF.run (bare l1) c wa
          rw [hF.bare] at hrun
          simp only [Option.isSome_some] at g0
          go_wp2_with fail
          refine hrun.mono ?_
          rintro e w2 ⟨rfl, hb2⟩
          replace hRA := hRA.below hT hb2
          clear g0 gf c0 c1 c2 c3 c4 l0 l1' l2 l3 l4 f0 hrun hb2
          have g0 := (mcells hRA.g).1 0
          have gf := (mcells hRA.g).2 0
          obtain ⟨c0, c1, c2, c3, c4, _⟩ := cObj_facts hRA.c
          simp only [Option.isSome_some] at g0
          cases hfv : f l1 c with
          | true =>
            have HS : Hid _ := HR.out.told HC.out (show folB f (some l1) c = true from hfv)
            clear hfv
            go_wp2_with fail
            refine (mfresh_any (bare c) _ hfb).mono ?_
            rintro e w3 ⟨rfl, hb3⟩
            have hR3 := (hRA.setG (bv := true) hT hA rfl).below hT hb3
            have HR3 : Hid _ := hR3
            clear hRA hb3 g0 gf
            obtain ⟨l0, l1, l2, l3, l4, lf0, lf1, lf2, lf3, lf4⟩ := cObj_facts hR3.l
            obtain ⟨c0, c1, c2, c3, c4, _⟩ := cObj_facts hR3.c
            clear hR3
            simp only [bare]
            go_wp2_with fail
            refine (mfresh_any c _ hfc).mono ?_
            rintro e w4 ⟨rfl, hb4⟩
            have hR4 := (HR3.out.setL (d := bare c) hT hA rfl).below hT hb4
            have HR4 : Hid _ := hR4
            clear hb4 l0 l1 l2 l3 l4 lf0 lf1 lf2 lf3 lf4 c0 c1 c2 c3 c4
            obtain ⟨z0, z1, z2, z3, z4, zf0, zf1, zf2, zf3, zf4⟩ := cObj_facts hR4.z
            clear hR4
            go_wp2
            have hR5 := HR4.out.setR (d := c) hT hA rfl
            refine ret_cell Try.results60 (c := c) (v := .bool true) rfl rfl (cObj_at hR5.z) rfl ?_
            exact ⟨by rw [ansV_yes HS.out.2], ⟨_, _, _, HS.out.1, hR5.j, hR5.at_ rfl (fun x hx => by cases hx; rfl)⟩, hR5.k⟩
          | false =>
            have HS : Hid _ := HR.out.skip HC.out (show folB f (some l1) c = false from hfv)
            have HRA : Hid _ := hRA
            clear hfv hRA g0 gf c0 c1 c2 c3 c4
            go_wp2
            go_roundg (cs.length - (m + 1) + 1)
            case measure => omega
            case rel => exact ⟨m + 1, false, Or.inl ⟨rfl, HS.out⟩, by simp, HRA.out.back rfl HLO.out⟩
      · rw [ansV_no (by omega)] at hcall
        have HS : Hid _ := HR.out.ends (by omega)
        go_wp2_with fail
        refine hcall.mono ?_
        rintro e w1 ⟨rfl, hJ1, hK1⟩
        obtain ⟨l, hRA, hlo⟩ := HG.out.raw hT hP hd hFl hJ1 hK1 zC
        have hA : Aprt w F b pg pe w.heap.size w1.heap.size := ⟨hP, hd, hFl, hbl, Nat.le_refl _, Nat.lt_of_lt_of_le hzl hK1.size⟩
        have hRA' : Raw w (w1.alloc (.cells #[.string (bstr []), .string (bstr []), .int .u64 0, .bool false, .string (bstr [])] 39)) F J b pg pe w.heap.size w1.heap.size (m + 1) (.func (.func g) #[] caps) g2 l lo.isSome false zC zC := hRA
        clear hRA hcall e0 s0
        go_upto_if 17 with fail
        generalize w1.alloc (.cells #[.string (bstr []), .string (bstr []), .int .u64 0, .bool false, .string (bstr [])] 39) = wa at *
        rename Raw _ wa _ _ _ _ _ _ _ _ _ _ _ _ _ _ _ => hRA
        have g0 := (mcells hRA.e).1 0
        have gf := (mcells hRA.e).2 0
        have HRA : Hid _ := hRA
        have HLO : Hid _ := hlo
        clear hlo hRA
        go_wp2
        go_roundg 0
        case measure => omega
        case rel => exact ⟨m + 1, true, Or.inr ⟨rfl, HS.out⟩, by simp, (HRA.out.setE (bv := true) hT hA rfl).back rfl HLO.out⟩

end Go.Proofs.Ytnpjbdbhjbccbaa

