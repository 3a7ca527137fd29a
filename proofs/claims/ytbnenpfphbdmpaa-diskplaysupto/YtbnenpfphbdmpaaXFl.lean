/-
  The document's files: rows in memory, found, put, taken out.
-/
import Derived.Test.YtbnenpfphbdmpaaXRs
namespace Go.Proofs.Ytbnenpfphbdmpaa
open Go.RowKit
attribute [local go_sem] size_bstr toList_bstr append_bstr

abbrev F3 := List UInt8 × List UInt8 × Nat
theorem bl_eq : ∀ x y : List UInt8, Op.bytesLess x y = decide (x < y)
  | [], [] => by simp [Op.bytesLess]
  | [], _ :: _ => by simp [Op.bytesLess]
  | _ :: _, [] => by simp [Op.bytesLess]
  | a :: x, b :: y => by
    have ih := bl_eq x y
    simp only [Op.bytesLess, ih, List.cons_lt_cons_iff]
    by_cases h1 : a < b
    · simp [h1]
    · by_cases h2 : a = b
      · simp [h2]
      · simp [h1, h2]
def encF (f : F3) : List Value := [.string (bstr f.1), .string (bstr f.2.1), .int .i64 (f.2.2 : Int)]
abbrev flV (f : F3) : Value := .agg #[.string (bstr f.1), .string (bstr f.2.1), .int .i64 (f.2.2 : Int)]
def fcells (cs : List F3) : List Value := cs.flatMap encF
theorem fcells_length (cs : List F3) : (fcells cs).length = cs.length * 3 := by
  induction cs with
  | nil => rfl
  | cons r rs ih => rw [fcells, List.flatMap_cons, List.length_append]; rw [fcells] at ih; rw [ih]; simp [encF]; omega
theorem fcells_append (a b : List F3) : fcells (a ++ b) = fcells a ++ fcells b := by simp [fcells]
theorem fcells_get (cs : List F3) (i : Nat) (hi : i < cs.length) : ∀ j, j < 3 → (fcells cs)[i * 3 + j]? = (encF cs[i])[j]? := by
  induction cs generalizing i with
  | nil => simp at hi
  | cons r rs ih =>
    intro j hj
    cases i with
    | zero =>
      rw [fcells, List.flatMap_cons, Nat.zero_mul, Nat.zero_add, List.getElem?_append_left (by simpa [encF] using hj)]
      rfl
    | succ i =>
      rw [fcells, List.flatMap_cons, List.getElem?_append_right (by simp [encF]; omega)]
      have e : (i + 1) * 3 + j - (encF r).length = i * 3 + j := by simp [encF]; omega
      rw [e]
      exact ih i (by simpa using hi) j hj
theorem fcells_one (cs : List F3) : ∀ v ∈ fcells cs, v.oneCell' = true := by
  intro v hv
  obtain ⟨c, _, h⟩ := List.mem_flatMap.1 hv
  simp [encF] at h
  rcases h with rfl | rfl | rfl <;> rfl
/-- A file lies at a place. -/
structure At3 (W : World) (b o : Nat) (c : F3) : Prop where
  c0 : W.cell? ⟨b, o, none⟩ = some (.string (bstr c.1))
  c1 : W.cell? ⟨b, o + 1, none⟩ = some (.string (bstr c.2.1))
  c2 : W.cell? ⟨b, o + 2, none⟩ = some (.int .i64 (c.2.2 : Int))
theorem At3.block {w w' : World} {b o : Nat} {x : F3} (h : At3 w b o x) (hb : w'.heap[b]? = w.heap[b]?) : At3 w' b o x :=
  ⟨(World.cell?_of_block (a := ⟨b, o, none⟩) hb).trans h.c0, (World.cell?_of_block (a := ⟨b, o + 1, none⟩) hb).trans h.c1, (World.cell?_of_block (a := ⟨b, o + 2, none⟩) hb).trans h.c2⟩
def FRow (W : World) (b off : Nat) (cs : List F3) : Prop := ∀ i (hi : i < cs.length), At3 W b (off + i * 3) cs[i]
theorem FRow.take {W : World} {b off : Nat} {cs : List F3} (h : FRow W b off cs) (k : Nat) : FRow W b off (cs.take k) := by
  intro i hi
  rw [List.getElem_take]
  exact h i (by rw [List.length_take] at hi; omega)
theorem FRow.drop {W : World} {b off : Nat} {cs : List F3} (h : FRow W b off cs) (k : Nat) : FRow W b (off + k * 3) (cs.drop k) := by
  intro i hi
  have hi' : k + i < cs.length := by rw [List.length_drop] at hi; omega
  have := h (k + i) hi'
  rw [List.getElem_drop]
  have e1 : off + k * 3 + i * 3 = off + (k + i) * 3 := by omega
  rw [e1]
  exact this
theorem FRow.cells {W : World} {b off : Nat} {cs : List F3} (h : FRow W b off cs) : ∀ j u, (fcells cs)[j]? = some u → W.cell? ((⟨b, off, none⟩ : Addr).add j) = some u := by
  intro j u hj
  have hlt : j < (fcells cs).length := by
    by_cases x : j < (fcells cs).length
    · exact x
    · rw [List.getElem?_eq_none (by omega)] at hj; cases hj
  rw [fcells_length] at hlt
  have hi : j / 3 < cs.length := by omega
  have e : j / 3 * 3 + j % 3 = j := by omega
  rw [← e, fcells_get cs (j / 3) hi (j % 3) (Nat.mod_lt _ (by omega))] at hj
  obtain ⟨a0, a1, a2⟩ := h (j / 3) hi
  rw [Addr.add_lit, ← e, ← Nat.add_assoc]
  generalize j % 3 = m at hj ⊢
  match m, hj with
  | 0, hj => simp [encF] at hj; subst hj; exact a0
  | 1, hj => simp [encF] at hj; subst hj; exact a1
  | 2, hj => simp [encF] at hj; subst hj; exact a2
  | n + 3, hj => simp [encF] at hj
theorem FRow.of_cells {W : World} {b off : Nat} {cs : List F3} (h : ∀ j u, (fcells cs)[j]? = some u → W.cell? ((⟨b, off, none⟩ : Addr).add j) = some u) : FRow W b off cs := by
  intro i hi
  have g := fun j hj => fcells_get cs i hi j hj
  refine ⟨?_, ?_, ?_⟩
  · have := h _ _ (g 0 (by omega)); rw [Addr.add_lit] at this; exact this
  · have := h _ _ (g 1 (by omega)); rw [Addr.add_lit, ← Nat.add_assoc] at this; exact this
  · have := h _ _ (g 2 (by omega)); rw [Addr.add_lit, ← Nat.add_assoc] at this; exact this
/-- A block of files. -/
def FB (W : World) (b : Nat) : Prop := ∃ cur, W.heap[b]? = some (.cells cur 35 (0, 0))
theorem FB.lt {W : World} {b : Nat} (h : FB W b) : b < W.heap.size := by
  obtain ⟨_, h⟩ := h
  exact (Array.getElem?_eq_some_iff.1 h).1
theorem FB.block {W W' : World} {b : Nat} (h : FB W b) (hb : W'.heap[b]? = W.heap[b]?) : FB W' b := by
  obtain ⟨c, h⟩ := h
  exact ⟨c, hb.trans h⟩
/-- The document's files in memory, as an argument. -/
structure FArg (W : World) (q : Option Addr) (cap : Nat) (P : List F3) : Prop where
  or_ : (q = none ∧ P = [] ∧ cap = 0) ∨ ∃ b off, q = some ⟨b, off, none⟩ ∧ FB W b ∧ FRow W b off P
  le : P.length ≤ cap
theorem FArg.at_ {W : World} {q : Option Addr} {cap : Nat} {P : List F3} (h : FArg W q cap P) (h0 : 0 < P.length) : ∃ b off, q = some ⟨b, off, none⟩ ∧ b < W.heap.size ∧ FRow W b off P := by
  rcases h.or_ with ⟨_, rfl, _⟩ | ⟨b, off, h1, h2, h3⟩
  · simp at h0
  · exact ⟨b, off, h1, h2.lt, h3⟩
theorem FArg.nil {W : World} {q : Option Addr} {cap : Nat} {P : List F3} (h : FArg W q cap P) (hq : q = none) : P = [] ∧ cap = 0 := by
  rcases h.or_ with ⟨_, h1, h2⟩ | ⟨b, off, h1, _⟩
  · exact ⟨h1, h2⟩
  · rw [hq] at h1; cases h1
theorem FArg.below {W W' : World} {q : Option Addr} {cap : Nat} {P : List F3} (h : FArg W q cap P) (hb : Below W.heap.size W W') : FArg W' q cap P :=
  ⟨by
    rcases h.or_ with h1 | ⟨b, off, h1, h2, h3⟩
    · exact Or.inl h1
    · exact Or.inr ⟨b, off, h1, h2.block (hb.block b h2.lt), fun i hi => (h3 i hi).block (hb.block b h2.lt)⟩, h.le⟩
theorem FArg.of_own {w : World} {B : Nat} {v : Value} {P : List F3} (h : w.ownsRow B 35 3 v P.length (fcells P)) : ∃ q cap, v = .slice q P.length cap ∧ FArg w q cap P ∧ ∀ i, v.ownBlock = some i → B ≤ i := by
  rcases h.2 with ⟨rfl, h0⟩ | ⟨g, cap, cur, rfl, hbg, hg, hnc, _, _, _⟩
  · have : P = [] := List.eq_nil_of_length_eq_zero h0
    subst this
    exact ⟨none, 0, rfl, ⟨Or.inl ⟨rfl, rfl, rfl⟩, Nat.le_refl _⟩, fun i hi => by cases hi⟩
  · exact ⟨_, cap, rfl, ⟨Or.inr ⟨g, 0, rfl, ⟨cur, hg⟩, FRow.of_cells (h.cells (g := g) rfl)⟩, hnc⟩, fun i hi => by cases hi; exact hbg⟩
theorem Try.infoFile : (Try.prog.info? 35).map (fun i => (i.zero, i.size, i.bytes)) = some (some (.agg #[.string ⟨#[]⟩, .string ⟨#[]⟩, .int .i64 0]), 3, 40) := by kernel_rfl
/-- A row appended to one that the call owns. -/
theorem wpList_append_f {w : World} {ops : Array Oper} {rest : List Oper} {o : Oper} {a : Act} {Q : Exit → Act → World → Prop} (hgd : o.guard = none) (s x : Operand)
    (ho : o.op = .call { callee := .builtin .append, args := #[s, x], argTypes := #[25, 25] })
    (base : Nat) (v : Value) (xs : List F3) (hs : a.eval s = v) (hown : w.ownsRow base 35 3 v xs.length (fcells xs))
    (q : Option Addr) (cap : Nat) (ds : List F3) (hx : a.eval x = .slice q ds.length cap) (hA : FArg w q cap ds) (hbytes : (xs.length + ds.length) * 40 ≤ 140737488355328) (hbase : base ≤ w.heap.size)
    (h : ∀ v' w', w'.ownsRow base 35 3 v' (xs ++ ds).length (fcells (xs ++ ds)) → Below base w w' → wpList Try.prog ops Q rest (a.put o.dst v') w') : wpList Try.prog ops Q (o :: rest) a w := by
  obtain ⟨i0, hi, hz0, hz1, hz2⟩ := info_parts Try.infoFile
  cases q with
  | none =>
    obtain ⟨rfl, rfl⟩ := hA.nil rfl
    refine wpList_append_own_none hgd s x 25 ho base 35 i0 3 Try.underlying25 hi v _ _ hs hown hx (h v w ?_ (Below.refl _ _))
    rw [List.append_nil]
    exact hown
  | some ad =>
    have hnews : ∀ j u, (fcells ds)[j]? = some u → w.cell? (ad.add j) = some u := by
      intro j u hj
      have h0 : 0 < ds.length := by
        by_cases h : 0 < ds.length
        · exact h
        · have : ds = [] := List.eq_nil_of_length_eq_zero (by omega)
          subst this
          simp [fcells] at hj
      obtain ⟨b, off, e, _, hR⟩ := hA.at_ h0
      cases e
      exact hR.cells j u hj
    refine wpList_append_own w hgd s x 25 ho base 35 i0 (.agg #[.string ⟨#[]⟩, .string ⟨#[]⟩, .int .i64 0]) 3 40 Try.underlying25 hi hz0 hz1 hz2 rfl (by decide) v _ _ hs hown ad ds.length cap (fcells ds) hx (fcells_length ds) hnews (fcells_one ds) (by unfold maxLen; omega) hbytes hbase ?_
    intro v' w' hown' hgrow _
    refine h v' w' ?_ ((Below.refl _ _).grown hgrow hbase (fun k hk => (hown.lt k hk).1))
    rw [List.length_append, fcells_append]
    exact hown'

/-- Sorted by names. -/
def SrtP (P : List F3) : Prop := P.Pairwise (fun a b => a.1 < b.1)
theorem Pu_srt {L : List Fl} (h : Srt L) : SrtP (Pu L) := List.pairwise_map.2 h
/-- How many names are ahead. -/
def posP (s : List UInt8) : List F3 → Nat
  | [] => 0
  | f :: r => if f.1 < s then posP s r + 1 else 0
def isP (s : List UInt8) (P : List F3) : Bool := (P.find? (fun f => f.1 == s)).isSome
def wthP (f : F3) : List F3 → List F3
  | [] => [f]
  | x :: r => if x.1 < f.1 then x :: wthP f r else if x.1 = f.1 then f :: r else f :: x :: r
def wtoP (s : List UInt8) (P : List F3) : List F3 := P.filter (fun f => f.1 != s)
theorem posP_le (s : List UInt8) : ∀ P : List F3, posP s P ≤ P.length
  | [] => Nat.le_refl _
  | f :: r => by
    have := posP_le s r
    unfold posP
    split <;> simp only [List.length_cons] <;> omega
theorem posP_lt {s : List UInt8} : ∀ {P : List F3} {i : Nat} (hi : i < P.length), i < posP s P → P[i].1 < s
  | [], _, hi, _ => by simp at hi
  | f :: r, i, hi, h => by
    by_cases hf : f.1 < s
    · have e : posP s (f :: r) = posP s r + 1 := by simp [posP, hf]
      rw [e] at h
      cases i with
      | zero => exact hf
      | succ i => exact posP_lt (P := r) (by simpa using hi) (by omega)
    · have e : posP s (f :: r) = 0 := by simp [posP, hf]
      omega
theorem posP_at {s : List UInt8} : ∀ {P : List F3} (h : posP s P < P.length), ¬ P[posP s P].1 < s
  | [], h => by simp at h
  | f :: r, h => by
    by_cases hf : f.1 < s
    · have e : posP s (f :: r) = posP s r + 1 := by simp [posP, hf]
      have h2 : posP s r < r.length := by rw [e] at h; simpa using h
      have := posP_at h2
      simp only [e, List.getElem_cons_succ]
      exact this
    · have e : posP s (f :: r) = 0 := by simp [posP, hf]
      simp only [e, List.getElem_cons_zero]
      exact hf
theorem posP_is {s : List UInt8} : ∀ {P : List F3}, SrtP P → isP s P = match P[posP s P]? with | some f => f.1 == s | none => false
  | [], _ => rfl
  | f :: r, h => by
    obtain ⟨h1, h2⟩ := List.pairwise_cons.1 h
    by_cases hf : f.1 < s
    · have e : posP s (f :: r) = posP s r + 1 := by simp [posP, hf]
      have hne : (f.1 == s) = false := by simpa using lt_ne hf
      rw [e, List.getElem?_cons_succ, ← posP_is h2]
      simp [isP, hne]
    · have e : posP s (f :: r) = 0 := by simp [posP, hf]
      rw [e, List.getElem?_cons_zero]
      simp only
      by_cases he : f.1 = s
      · simp [isP, he]
      · have hne : (f.1 == s) = false := by simpa using he
        rw [hne]
        have : ∀ x ∈ r, (x.1 == s) = false := fun x hx => by
          have := h1 x hx
          simp only [beq_eq_false_iff_ne, ne_eq]
          intro e2
          rw [e2] at this
          exact hf this
        unfold isP
        rw [List.find?_cons_of_neg (by simpa using he), List.find?_eq_none.2 (fun x hx => by simp [this x hx])]
        rfl
theorem wthP_eq (f : F3) : ∀ {P : List F3}, SrtP P → wthP f P = P.take (posP f.1 P) ++ f :: P.drop (posP f.1 P + if isP f.1 P = true then 1 else 0)
  | [], _ => by simp [wthP, posP]
  | x :: r, h => by
    obtain ⟨h1, h2⟩ := List.pairwise_cons.1 h
    by_cases hf : x.1 < f.1
    · have e : posP f.1 (x :: r) = posP f.1 r + 1 := by simp [posP, hf]
      have hi : isP f.1 (x :: r) = isP f.1 r := by
        have hne : (x.1 == f.1) = false := by simpa using lt_ne hf
        simp [isP, hne]
      have ih := wthP_eq f h2
      simp only [wthP, if_pos hf, e, hi, ih, List.take_succ_cons, List.cons_append]
      congr 3
      have : posP f.1 r + 1 + (if isP f.1 r = true then 1 else 0) = (posP f.1 r + (if isP f.1 r = true then 1 else 0)) + 1 := by omega
      rw [this, List.drop_succ_cons]
    · have e : posP f.1 (x :: r) = 0 := by simp [posP, hf]
      have hi := posP_is (s := f.1) h
      rw [e, List.getElem?_cons_zero] at hi
      simp only at hi
      by_cases he : x.1 = f.1
      · have : (x.1 == f.1) = true := by simpa using he
        rw [this] at hi
        simp [wthP, he, lt_irr, e, hi]
      · have : (x.1 == f.1) = false := by simpa using he
        rw [this] at hi
        simp [wthP, hf, he, e, hi]
theorem Pu_wth (f : Fl) : ∀ L : List Fl, Pu (wth f L) = wthP (pu f) (Pu L)
  | [] => rfl
  | x :: r => by
    have ih := Pu_wth f r
    have e1 : (pu x).1 = x.name := rfl
    have e2 : (pu f).1 = f.name := rfl
    have e3 : Pu (x :: r) = pu x :: Pu r := rfl
    rw [e3]
    unfold wth wthP
    rw [e1, e2]
    split
    · show pu x :: Pu (wth f r) = _
      rw [ih]
    · split <;> rfl
theorem Pu_wto (s : List UInt8) (L : List Fl) : Pu (wto s L) = wtoP s (Pu L) := by
  unfold Pu wto wtoP
  rw [List.filter_map]
  rfl

end Go.Proofs.Ytbnenpfphbdmpaa
