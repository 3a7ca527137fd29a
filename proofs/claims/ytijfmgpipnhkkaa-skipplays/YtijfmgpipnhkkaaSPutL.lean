/-
  The law's put: all cells of a row, at heights that go round.
-/
import Derived.Test.YtijfmgpipnhkkaaSGet
namespace Go.Proofs.Ytijfmgpipnhkkaa
open Go.RowKit Go.BigFrame Go.Sort
attribute [local go_sem] size_bstr toList_bstr ls_def

/-- The order in which they are put. -/
def ord (back : Bool) (cs : List Cl) : List Cl := if back = true then cs.reverse else cs
theorem ord_length (back : Bool) (cs : List Cl) : (ord back cs).length = cs.length := by cases back <;> simp [ord]
theorem ord_get (back : Bool) (cs : List Cl) {i k : Nat} (hi : i < cs.length) (hk : k = if back = true then cs.length - 1 - i else i) : ∃ hk' : k < cs.length, (ord back cs)[i]? = some (cs[k]'hk') := by
  cases back with
  | false =>
    have hk : k = i := hk
    subst hk
    exact ⟨hi, by simp [ord, hi]⟩
  | true =>
    have hk : k = cs.length - 1 - i := hk
    subst hk
    refine ⟨by omega, ?_⟩
    simp only [ord, if_true]
    rw [List.getElem?_reverse hi, List.getElem?_eq_getElem (by omega)]
/-- The cells that may be, put one behind the other. -/
def putV (l : List Cl) : List Cl := putL (l.filter fun c => mayCl c)
theorem putV_yes {l : List Cl} {i : Nat} {c : Cl} (h : l[i]? = some c) (hm : mayCl c = true) : putV (l.take (i + 1)) = putC c (putV (l.take i)) := by
  have hlt : i < l.length := by
    rcases Nat.lt_or_ge i l.length with a | a
    · exact a
    · rw [List.getElem?_eq_none a] at h; cases h
  rw [List.getElem?_eq_getElem hlt] at h
  simp only [Option.some.injEq] at h
  unfold putV
  rw [List.take_succ_eq_append_getElem hlt, List.filter_append, h]
  rw [show ([c] : List Cl).filter (fun c => mayCl c) = [c] by simp [hm], putL_snoc]
theorem putV_no {l : List Cl} {i : Nat} {c : Cl} (h : l[i]? = some c) (hm : mayCl c = false) : putV (l.take (i + 1)) = putV (l.take i) := by
  have hlt : i < l.length := by
    rcases Nat.lt_or_ge i l.length with a | a
    · exact a
    · rw [List.getElem?_eq_none a] at h; cases h
  rw [List.getElem?_eq_getElem hlt] at h
  simp only [Option.some.injEq] at h
  unfold putV
  rw [List.take_succ_eq_append_getElem hlt, List.filter_append, h]
  rw [show ([c] : List Cl).filter (fun c => mayCl c) = [] by simp [hm], List.append_nil]

/-- Put, whatever the cell is, where no walk is under way. -/
theorem Put_all (l hd : Nat) (T : List Tw) (v : Value) (c : Cl) (h : Nat) (w : World) (hL : Ls w l hd T v []) (hh1 : 1 ≤ h) (hh2 : h ≤ 12) (hlen : T.length < 4611686018427387904) :
    Calls Try.prog 6 #[.pointer (some ⟨l, 0, none⟩), clV c, .int .i64 (h : Int)] w fun e w' => (∃ x, e = .returned (.int .i64 x)) ∧ ∃ T' v', Ls w' l hd T' v' [] ∧ T'.map (fun t => t.c) = (if mayCl c = true then putC c (T.map (fun t => t.c)) else T.map (fun t => t.c)) ∧ T'.length ≤ T.length + 1 ∧ (∀ i, Ow l hd T' v' i → Ow l hd T v i ∨ w.heap.size ≤ i) ∧ Kp w w' (Ow l hd T v) := by
  cases hm : mayCl c with
  | true =>
    refine (Put_ok l hd T v [] c h (fun i => i = l) (fun _ => True) w hL hm hh1 hh2 hlen (fun w1 hb => (part_none l hd T v w1 (hL.below hb)).mono fun e w2 q => ⟨q.1, q.2.1, q.2.2, trivial⟩) (fun i e => by subst e; exact hL.blk.lt) (fun _ _ _ _ _ => trivial)).mono ?_
    rintro e w' ⟨rfl, T', hP, hL', hK, _⟩
    refine ⟨⟨_, rfl⟩, T', _, hL', by rw [if_pos rfl]; exact hP.cells, hP.length, fun i hi => hP.foot hi, hK.mono fun i hi => Or.inl ?_⟩
    rcases hi with rfl | hi
    · exact Or.inl rfl
    · exact hi
  | false =>
    refine (Put_arg l hd c (h : Int) w hL.blk.head (Or.inl hm)).mono ?_
    rintro e w' ⟨rfl, hb⟩
    exact ⟨⟨_, rfl⟩, T, v, hL.below hb, by rw [if_neg (by simp)], Nat.le_succ _, fun i hi => Or.inl hi, Kp.of_below _ hb⟩

/-- The list as it is when i cells were put. -/
structure PLp (w : World) (back : Bool) (cs : List Cl) (i : Nat) (T : List Tw) (v : Value) (wr : World) : Prop where
  ls : Ls wr (w.heap.size + 1) w.heap.size T v []
  ce : T.map (fun t => t.c) = putV ((ord back cs).take i)
  ln : T.length ≤ i
  ow : ∀ i, Ow (w.heap.size + 1) w.heap.size T v i → w.heap.size ≤ i
  be : Below w.heap.size w wr
def PLs (w : World) (back : Bool) (cs : List Cl) (i : Nat) (wr : World) : Prop := ∃ T v, PLp w back cs i T v wr

end Go.Proofs.Ytijfmgpipnhkkaa
