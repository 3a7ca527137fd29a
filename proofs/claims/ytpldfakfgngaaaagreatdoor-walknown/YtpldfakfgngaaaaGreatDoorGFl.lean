/-
  The document's files: rows in memory, found, put, taken out.
  The contracts of the document's find, Free, New, name.
  The contracts of the document's with, without, Of.
  The contracts of the document's without, Of, name, New.
-/
import Derived.Test.YtpldfakfgngaaaaGreatDoorGCopy
import Derived.Deep.QuietTactic
import Derived.BigQuiet
import Derived.Laws.OwnMore
namespace Go.Proofs.YtpldfakfgngaaaaGreatDoor
open Go.RowKit
attribute [local go_sem] size_bstr toList_bstr append_bstr

abbrev F3 := List UInt8 × List UInt8 × Nat
theorem bl_eq : ∀ x y : List UInt8, Op.bytesLess x y = decide (x < y)
  | [], [] => by simp [Op.bytesLess]
  | [], _ :: _ => by simp [Op.bytesLess]
  | _ :: _, [] => by simp [Op.bytesLess]
  | a :: x, b :: y => by
    have ih := bl_eq x y
    simp only [Op.bytesLess, ih, List.cons_lt_cons_iff]
    by_cases h1 : a < b
    · simp [h1]
    · by_cases h2 : a = b
      · simp [h2]
      · simp [h1, h2]
def encF (f : F3) : List Value := [.string (bstr f.1), .string (bstr f.2.1), .int .i64 (f.2.2 : Int)]
abbrev flV (f : F3) : Value := .agg #[.string (bstr f.1), .string (bstr f.2.1), .int .i64 (f.2.2 : Int)]
def fcells (cs : List F3) : List Value := cs.flatMap encF
theorem fcells_length (cs : List F3) : (fcells cs).length = cs.length * 3 := by
  induction cs with
  | nil => rfl
  | cons r rs ih => rw [fcells, List.flatMap_cons, List.length_append]; rw [fcells] at ih; rw [ih]; simp [encF]; omega
theorem fcells_append (a b : List F3) : fcells (a ++ b) = fcells a ++ fcells b := by simp [fcells]
theorem fcells_get (cs : List F3) (i : Nat) (hi : i < cs.length) : ∀ j, j < 3 → (fcells cs)[i * 3 + j]? = (encF cs[i])[j]? := by
  induction cs generalizing i with
  | nil => simp at hi
  | cons r rs ih =>
    intro j hj
    cases i with
    | zero =>
      rw [fcells, List.flatMap_cons, Nat.zero_mul, Nat.zero_add, List.getElem?_append_left (by simpa [encF] using hj)]
      rfl
    | succ i =>
      rw [fcells, List.flatMap_cons, List.getElem?_append_right (by simp [encF]; omega)]
      have e : (i + 1) * 3 + j - (encF r).length = i * 3 + j := by simp [encF]; omega
      rw [e]
      exact ih i (by simpa using hi) j hj
theorem fcells_one (cs : List F3) : ∀ v ∈ fcells cs, v.oneCell' = true := by
  intro v hv
  obtain ⟨c, _, h⟩ := List.mem_flatMap.1 hv
  simp [encF] at h
  rcases h with rfl | rfl | rfl <;> rfl
/-- A file lies at a place. -/
structure At3 (W : World) (b o : Nat) (c : F3) : Prop where
  c0 : W.cell? ⟨b, o, none⟩ = some (.string (bstr c.1))
  c1 : W.cell? ⟨b, o + 1, none⟩ = some (.string (bstr c.2.1))
  c2 : W.cell? ⟨b, o + 2, none⟩ = some (.int .i64 (c.2.2 : Int))
theorem At3.block {w w' : World} {b o : Nat} {x : F3} (h : At3 w b o x) (hb : w'.heap[b]? = w.heap[b]?) : At3 w' b o x :=
  ⟨(World.cell?_of_block (a := ⟨b, o, none⟩) hb).trans h.c0, (World.cell?_of_block (a := ⟨b, o + 1, none⟩) hb).trans h.c1, (World.cell?_of_block (a := ⟨b, o + 2, none⟩) hb).trans h.c2⟩
def FRow (W : World) (b off : Nat) (cs : List F3) : Prop := ∀ i (hi : i < cs.length), At3 W b (off + i * 3) cs[i]
theorem FRow.take {W : World} {b off : Nat} {cs : List F3} (h : FRow W b off cs) (k : Nat) : FRow W b off (cs.take k) := by
  intro i hi
  rw [List.getElem_take]
  exact h i (by rw [List.length_take] at hi; omega)
theorem FRow.drop {W : World} {b off : Nat} {cs : List F3} (h : FRow W b off cs) (k : Nat) : FRow W b (off + k * 3) (cs.drop k) := by
  intro i hi
  have hi' : k + i < cs.length := by rw [List.length_drop] at hi; omega
  have := h (k + i) hi'
  rw [List.getElem_drop]
  have e1 : off + k * 3 + i * 3 = off + (k + i) * 3 := by omega
  rw [e1]
  exact this
theorem FRow.cells {W : World} {b off : Nat} {cs : List F3} (h : FRow W b off cs) : ∀ j u, (fcells cs)[j]? = some u → W.cell? ((⟨b, off, none⟩ : Addr).add j) = some u := by
  intro j u hj
  have hlt : j < (fcells cs).length := by
    by_cases x : j < (fcells cs).length
    · exact x
    · rw [List.getElem?_eq_none (by omega)] at hj; cases hj
  rw [fcells_length] at hlt
  have hi : j / 3 < cs.length := by omega
  have e : j / 3 * 3 + j % 3 = j := by omega
  rw [← e, fcells_get cs (j / 3) hi (j % 3) (Nat.mod_lt _ (by omega))] at hj
  obtain ⟨a0, a1, a2⟩ := h (j / 3) hi
  rw [Addr.add_lit, ← e, ← Nat.add_assoc]
  generalize j % 3 = m at hj ⊢
  match m, hj with
  | 0, hj => simp [encF] at hj; subst hj; exact a0
  | 1, hj => simp [encF] at hj; subst hj; exact a1
  | 2, hj => simp [encF] at hj; subst hj; exact a2
  | n + 3, hj => simp [encF] at hj
theorem FRow.of_cells {W : World} {b off : Nat} {cs : List F3} (h : ∀ j u, (fcells cs)[j]? = some u → W.cell? ((⟨b, off, none⟩ : Addr).add j) = some u) : FRow W b off cs := by
  intro i hi
  have g := fun j hj => fcells_get cs i hi j hj
  refine ⟨?_, ?_, ?_⟩
  · have := h _ _ (g 0 (by omega)); rw [Addr.add_lit] at this; exact this
  · have := h _ _ (g 1 (by omega)); rw [Addr.add_lit, ← Nat.add_assoc] at this; exact this
  · have := h _ _ (g 2 (by omega)); rw [Addr.add_lit, ← Nat.add_assoc] at this; exact this
/-- A block of files. -/
def FB (W : World) (b : Nat) : Prop := ∃ cur, W.heap[b]? = some (.cells cur 95 (0, 0))
theorem FB.lt {W : World} {b : Nat} (h : FB W b) : b < W.heap.size := by
  obtain ⟨_, h⟩ := h
  exact (Array.getElem?_eq_some_iff.1 h).1
theorem FB.block {W W' : World} {b : Nat} (h : FB W b) (hb : W'.heap[b]? = W.heap[b]?) : FB W' b := by
  obtain ⟨c, h⟩ := h
  exact ⟨c, hb.trans h⟩
/-- The document's files in memory, as an argument. -/
structure FArg (W : World) (q : Option Addr) (cap : Nat) (P : List F3) : Prop where
  or_ : (q = none ∧ P = [] ∧ cap = 0) ∨ ∃ b off, q = some ⟨b, off, none⟩ ∧ FB W b ∧ FRow W b off P
  le : P.length ≤ cap
theorem FArg.at_ {W : World} {q : Option Addr} {cap : Nat} {P : List F3} (h : FArg W q cap P) (h0 : 0 < P.length) : ∃ b off, q = some ⟨b, off, none⟩ ∧ b < W.heap.size ∧ FRow W b off P := by
  rcases h.or_ with ⟨_, rfl, _⟩ | ⟨b, off, h1, h2, h3⟩
  · simp at h0
  · exact ⟨b, off, h1, h2.lt, h3⟩
theorem FArg.nil {W : World} {q : Option Addr} {cap : Nat} {P : List F3} (h : FArg W q cap P) (hq : q = none) : P = [] ∧ cap = 0 := by
  rcases h.or_ with ⟨_, h1, h2⟩ | ⟨b, off, h1, _⟩
  · exact ⟨h1, h2⟩
  · rw [hq] at h1; cases h1
theorem FArg.below {W W' : World} {q : Option Addr} {cap : Nat} {P : List F3} (h : FArg W q cap P) (hb : Below W.heap.size W W') : FArg W' q cap P :=
  ⟨by
    rcases h.or_ with h1 | ⟨b, off, h1, h2, h3⟩
    · exact Or.inl h1
    · exact Or.inr ⟨b, off, h1, h2.block (hb.block b h2.lt), fun i hi => (h3 i hi).block (hb.block b h2.lt)⟩, h.le⟩
theorem FArg.of_own {w : World} {B : Nat} {v : Value} {P : List F3} (h : w.ownsRow B 95 3 v P.length (fcells P)) : ∃ q cap, v = .slice q P.length cap ∧ FArg w q cap P ∧ ∀ i, v.ownBlock = some i → B ≤ i := by
  rcases h.2 with ⟨rfl, h0⟩ | ⟨g, cap, cur, rfl, hbg, hg, hnc, _, _, _⟩
  · have : P = [] := List.eq_nil_of_length_eq_zero h0
    subst this
    exact ⟨none, 0, rfl, ⟨Or.inl ⟨rfl, rfl, rfl⟩, Nat.le_refl _⟩, fun i hi => by cases hi⟩
  · exact ⟨_, cap, rfl, ⟨Or.inr ⟨g, 0, rfl, ⟨cur, hg⟩, FRow.of_cells (h.cells (g := g) rfl)⟩, hnc⟩, fun i hi => by cases hi; exact hbg⟩
theorem Tryz.infoFile : (Tryz.prog.info? 95).map (fun i => (i.zero, i.size, i.bytes)) = some (some (.agg #[.string ⟨#[]⟩, .string ⟨#[]⟩, .int .i64 0]), 3, 40) := by kernel_rfl
/-- A row appended to one that the call owns. -/
theorem wpList_append_f {w : World} {ops : Array Oper} {rest : List Oper} {o : Oper} {a : Act} {Q : Exit → Act → World → Prop} (hgd : o.guard = none) (s x : Operand)
    (ho : o.op = .call { callee := .builtin .append, args := #[s, x], argTypes := #[27, 27] })
    (base : Nat) (v : Value) (xs : List F3) (hs : a.eval s = v) (hown : w.ownsRow base 95 3 v xs.length (fcells xs))
    (q : Option Addr) (cap : Nat) (ds : List F3) (hx : a.eval x = .slice q ds.length cap) (hA : FArg w q cap ds) (hbytes : (xs.length + ds.length) * 40 ≤ 140737488355328) (hbase : base ≤ w.heap.size)
    (h : ∀ v' w', w'.ownsRow base 95 3 v' (xs ++ ds).length (fcells (xs ++ ds)) → Below base w w' → wpList Tryz.prog ops Q rest (a.put o.dst v') w') : wpList Tryz.prog ops Q (o :: rest) a w := by
  obtain ⟨i0, hi, hz0, hz1, hz2⟩ := info_parts Tryz.infoFile
  cases q with
  | none =>
    obtain ⟨rfl, rfl⟩ := hA.nil rfl
    refine wpList_append_own_none hgd s x 27 ho base 95 i0 3 Tryz.underlying27 hi v _ _ hs hown hx (h v w ?_ (Below.refl _ _))
    rw [List.append_nil]
    exact hown
  | some ad =>
    have hnews : ∀ j u, (fcells ds)[j]? = some u → w.cell? (ad.add j) = some u := by
      intro j u hj
      have h0 : 0 < ds.length := by
        by_cases h : 0 < ds.length
        · exact h
        · have : ds = [] := List.eq_nil_of_length_eq_zero (by omega)
          subst this
          simp [fcells] at hj
      obtain ⟨b, off, e, _, hR⟩ := hA.at_ h0
      cases e
      exact hR.cells j u hj
    refine wpList_append_own w hgd s x 27 ho base 95 i0 (.agg #[.string ⟨#[]⟩, .string ⟨#[]⟩, .int .i64 0]) 3 40 Tryz.underlying27 hi hz0 hz1 hz2 rfl (by decide) v _ _ hs hown ad ds.length cap (fcells ds) hx (fcells_length ds) hnews (fcells_one ds) (by unfold maxLen; omega) hbytes hbase ?_
    intro v' w' hown' hgrow _
    refine h v' w' ?_ ((Below.refl _ _).grown hgrow hbase (fun k hk => (hown.lt k hk).1))
    rw [List.length_append, fcells_append]
    exact hown'

/-- Sorted by names. -/
def SrtP (P : List F3) : Prop := P.Pairwise (fun a b => a.1 < b.1)
theorem Pu_srt {L : List Fl} (h : Srt L) : SrtP (Pu L) := List.pairwise_map.2 h
/-- How many names are ahead. -/
def posP (s : List UInt8) : List F3 → Nat
  | [] => 0
  | f :: r => if f.1 < s then posP s r + 1 else 0
def isP (s : List UInt8) (P : List F3) : Bool := (P.find? (fun f => f.1 == s)).isSome
def wthP (f : F3) : List F3 → List F3
  | [] => [f]
  | x :: r => if x.1 < f.1 then x :: wthP f r else if x.1 = f.1 then f :: r else f :: x :: r
def wtoP (s : List UInt8) (P : List F3) : List F3 := P.filter (fun f => f.1 != s)
theorem posP_le (s : List UInt8) : ∀ P : List F3, posP s P ≤ P.length
  | [] => Nat.le_refl _
  | f :: r => by
    have := posP_le s r
    unfold posP
    split <;> simp only [List.length_cons] <;> omega
theorem posP_lt {s : List UInt8} : ∀ {P : List F3} {i : Nat} (hi : i < P.length), i < posP s P → P[i].1 < s
  | [], _, hi, _ => by simp at hi
  | f :: r, i, hi, h => by
    by_cases hf : f.1 < s
    · have e : posP s (f :: r) = posP s r + 1 := by simp [posP, hf]
      rw [e] at h
      cases i with
      | zero => exact hf
      | succ i => exact posP_lt (P := r) (by simpa using hi) (by omega)
    · have e : posP s (f :: r) = 0 := by simp [posP, hf]
      omega
theorem posP_at {s : List UInt8} : ∀ {P : List F3} (h : posP s P < P.length), ¬ P[posP s P].1 < s
  | [], h => by simp at h
  | f :: r, h => by
    by_cases hf : f.1 < s
    · have e : posP s (f :: r) = posP s r + 1 := by simp [posP, hf]
      have h2 : posP s r < r.length := by rw [e] at h; simpa using h
      have := posP_at h2
      simp only [e, List.getElem_cons_succ]
      exact this
    · have e : posP s (f :: r) = 0 := by simp [posP, hf]
      simp only [e, List.getElem_cons_zero]
      exact hf
theorem posP_is {s : List UInt8} : ∀ {P : List F3}, SrtP P → isP s P = match P[posP s P]? with | some f => f.1 == s | none => false
  | [], _ => rfl
  | f :: r, h => by
    obtain ⟨h1, h2⟩ := List.pairwise_cons.1 h
    by_cases hf : f.1 < s
    · have e : posP s (f :: r) = posP s r + 1 := by simp [posP, hf]
      have hne : (f.1 == s) = false := by simpa using lt_ne hf
      rw [e, List.getElem?_cons_succ, ← posP_is h2]
      simp [isP, hne]
    · have e : posP s (f :: r) = 0 := by simp [posP, hf]
      rw [e, List.getElem?_cons_zero]
      simp only
      by_cases he : f.1 = s
      · simp [isP, he]
      · have hne : (f.1 == s) = false := by simpa using he
        rw [hne]
        have : ∀ x ∈ r, (x.1 == s) = false := fun x hx => by
          have := h1 x hx
          simp only [beq_eq_false_iff_ne, ne_eq]
          intro e2
          rw [e2] at this
          exact hf this
        unfold isP
        rw [List.find?_cons_of_neg (by simpa using he), List.find?_eq_none.2 (fun x hx => by simp [this x hx])]
        rfl
theorem wthP_eq (f : F3) : ∀ {P : List F3}, SrtP P → wthP f P = P.take (posP f.1 P) ++ f :: P.drop (posP f.1 P + if isP f.1 P = true then 1 else 0)
  | [], _ => by simp [wthP, posP]
  | x :: r, h => by
    obtain ⟨h1, h2⟩ := List.pairwise_cons.1 h
    by_cases hf : x.1 < f.1
    · have e : posP f.1 (x :: r) = posP f.1 r + 1 := by simp [posP, hf]
      have hi : isP f.1 (x :: r) = isP f.1 r := by
        have hne : (x.1 == f.1) = false := by simpa using lt_ne hf
        simp [isP, hne]
      have ih := wthP_eq f h2
      simp only [wthP, if_pos hf, e, hi, ih, List.take_succ_cons, List.cons_append]
      congr 3
      have : posP f.1 r + 1 + (if isP f.1 r = true then 1 else 0) = (posP f.1 r + (if isP f.1 r = true then 1 else 0)) + 1 := by omega
      rw [this, List.drop_succ_cons]
    · have e : posP f.1 (x :: r) = 0 := by simp [posP, hf]
      have hi := posP_is (s := f.1) h
      rw [e, List.getElem?_cons_zero] at hi
      simp only at hi
      by_cases he : x.1 = f.1
      · have : (x.1 == f.1) = true := by simpa using he
        rw [this] at hi
        simp [wthP, he, lt_irr, e, hi]
      · have : (x.1 == f.1) = false := by simpa using he
        rw [this] at hi
        simp [wthP, hf, he, e, hi]
theorem Pu_wth (f : Fl) : ∀ L : List Fl, Pu (wth f L) = wthP (pu f) (Pu L)
  | [] => rfl
  | x :: r => by
    have ih := Pu_wth f r
    have e1 : (pu x).1 = x.name := rfl
    have e2 : (pu f).1 = f.name := rfl
    have e3 : Pu (x :: r) = pu x :: Pu r := rfl
    rw [e3]
    unfold wth wthP
    rw [e1, e2]
    split
    · show pu x :: Pu (wth f r) = _
      rw [ih]
    · split <;> rfl
theorem Pu_wto (s : List UInt8) (L : List Fl) : Pu (wto s L) = wtoP s (Pu L) := by
  unfold Pu wto wtoP
  rw [List.filter_map]
  rfl

end Go.Proofs.YtpldfakfgngaaaaGreatDoor

namespace Go.Proofs.YtpldfakfgngaaaaGreatDoor
open Go.RowKit
attribute [local go_sem] size_bstr toList_bstr append_bstr

abbrev rdV (R : Nat) (q : Option Addr) (n cap : Nat) : Value := .agg #[.int .i64 (R : Int), .slice q n cap]
theorem boxed (w : World) (a b : Value) (t : TypeId) : (w.alloc (.cells #[a, b] t)).heap[w.heap.size]? = some (.cells #[a, b] t (0, 0)) := heap_alloc_new w _

set_option maxHeartbeats 2000000 in
set_option maxRecDepth 100000 in
theorem Rfind_any (R cap : Nat) (q : Option Addr) (P : List F3) (s : List UInt8) (w : World) (hP : FArg w q cap P) (hs : SrtP P) (hn : P.length ≤ 1000000) :
    Calls Tryz.prog 95 #[rdV R q P.length cap, .string (bstr s)] w fun e w' => e = .returned (.tuple #[.int .i64 (posP s P : Int), .bool (isP s P)]) ∧ Below w.heap.size w w' := by
  have hb0 : Below w.heap.size w (w.alloc (.cells #[.int .i64 (R : Int), .slice q P.length cap] 29)) := (Below.refl _ _).alloc (Nat.le_refl _) _
  have hbx := boxed w (.int .i64 (R : Int)) (.slice q P.length cap) 29
  have hP1 := hP.below hb0
  go_enter Tryz.func95, Tryz.ntmps95
  go_wp2_with fail
  generalize w.alloc (.cells #[.int .i64 (R : Int), .slice q P.length cap] 29) = W at *
  have c1 : W.cell? ⟨w.heap.size, 1, none⟩ = some (.slice q P.length cap) := (cells_block hbx).1 1
  have hle := posP_le s P
  have his := posP_is (s := s) hs
  go_loopw [6] (fun s6 wr => ∃ i : Nat, s6 = .int .i64 (i : Int) ∧ i ≤ posP s P ∧ wr = W) (fun s6 _ => P.length - (intOf s6).toNat)
  case atStart => exact ⟨0, rfl, Nat.zero_le _, rfl⟩
  case round =>
    obtain ⟨i, rfl, hi, hwr⟩ := hrel
    subst hwr
    by_cases hl : i < P.length
    · obtain ⟨b, off, rfl, _, hR⟩ := hP1.at_ (by omega)
      have a0 := (hR i hl).c0
      by_cases hp : i < posP s P
      · have hlt := posP_lt hl hp
        have hb1 : Op.bytesLess P[i].1 s = true := by rw [bl_eq]; simpa using hlt
        generalize P[i].1 = nm at *
        go_wp2
        go_roundw
        case rel => exact ⟨i + 1, by simp, hp, by trivial⟩
        case measure => simp [intOf]; omega
      · have hie : i = posP s P := by omega
        have hat := posP_at (s := s) (P := P) (by omega)
        have hnm : P[posP s P]'(by omega) = P[i] := by simp only [hie]
        rw [hnm] at hat
        have hb1 : Op.bytesLess P[i].1 s = false := by rw [bl_eq]; simpa using hat
        rw [List.getElem?_eq_getElem (by omega), hnm] at his
        simp only at his
        generalize P[i].1 = nm at *
        have hc : (i : Int) < (P.length : Int) := by omega
        have HIE : Hid (i = posP s P) := hie
        have HIS : Hid (isP s P = (nm == s)) := his
        clear hie his hnm hat hp hi
        go_wp2_with fail
        go_quiet (fail)
        go_wp2
        go_ret2
        rw [HIS.out, ← HIE.out]
        exact ⟨rfl, ⟨hb0.os, hb0.tape, hb0.output, hb0.size, hb0.block⟩⟩
    · have hie : i = posP s P := by omega
      have hpn : posP s P = P.length := by omega
      rw [List.getElem?_eq_none (by omega)] at his
      simp only at his
      have hc : ¬ ((i : Int) < (P.length : Int)) := by omega
      have HIS : Hid (isP s P = false) := his
      have HPN : Hid (posP s P = P.length) := hpn
      clear hie his hpn
      go_wp2
      go_ret2
      rw [HIS.out, HPN.out]
      exact ⟨rfl, hb0⟩

/-- How many bytes all have. -/
def totP (P : List F3) : Nat := (P.map (fun f => f.2.1.length)).sum
theorem totP_Pu (L : List Fl) : totP (Pu L) = tot L := by simp [totP, Pu, pu, tot, Function.comp_def]
def totN (P : List F3) (i : Nat) : Nat := totP (P.take i)
theorem totN_succ {P : List F3} {i : Nat} (h : i < P.length) : totN P (i + 1) = totN P i + P[i].2.1.length := by
  unfold totN totP
  rw [List.take_succ_eq_append_getElem h, List.map_append, List.sum_append]
  rfl
theorem totN_le (P : List F3) (i : Nat) : totN P i ≤ totP P := by
  unfold totN totP
  conv => rhs; rw [← List.take_append_drop i P]
  rw [List.map_append, List.sum_append]
  omega

set_option maxHeartbeats 2000000 in
set_option maxRecDepth 100000 in
theorem RFree_any (R cap : Nat) (q : Option Addr) (P : List F3) (w : World) (hP : FArg w q cap P) (hn : P.length ≤ 1000000) (hR : R ≤ 9223372036854775807) (ht : totP P ≤ R) :
    Calls Tryz.prog 50 #[rdV R q P.length cap] w fun e w' => e = .returned (.int .i64 ((R - totP P : Nat) : Int)) ∧ Below w.heap.size w w' := by
  have hb0 : Below w.heap.size w (w.alloc (.cells #[.int .i64 (R : Int), .slice q P.length cap] 29)) := (Below.refl _ _).alloc (Nat.le_refl _) _
  have hbx := boxed w (.int .i64 (R : Int)) (.slice q P.length cap) 29
  have hP1 := hP.below hb0
  go_enter Tryz.func50, Tryz.ntmps50
  go_wp2_with fail
  generalize w.alloc (.cells #[.int .i64 (R : Int), .slice q P.length cap] 29) = W at *
  have c1 : W.cell? ⟨w.heap.size, 1, none⟩ = some (.slice q P.length cap) := (cells_block hbx).1 1
  go_loopw [3, 4] (fun s3 s4 wr => ∃ i : Nat, s4 = .int .i64 (i : Int) ∧ i ≤ P.length ∧ s3 = .int .i64 ((R - totN P i : Nat) : Int) ∧ wr = W) (fun _ s4 _ => P.length - (intOf s4).toNat)
  case atStart => exact ⟨0, rfl, Nat.zero_le _, by simp [totN, totP], rfl⟩
  case round =>
    obtain ⟨i, rfl, hi, rfl, hwr⟩ := hrel
    subst hwr
    by_cases hl : i < P.length
    · obtain ⟨b, off, rfl, _, hRw⟩ := hP1.at_ (by omega)
      have a1 := (hRw i hl).c1
      have h1 := totN_succ hl
      have h2 := totN_le P (i + 1)
      have hsub : ((R - totN P i : Nat) : Int) - (P[i].2.1.length : Int) = ((R - totN P (i + 1) : Nat) : Int) := by omega
      have hbn : R - totN P i ≤ 9223372036854775807 := by omega
      have hbl : P[i].2.1.length ≤ R - totN P i := by omega
      generalize P[i].2.1 = by0 at *
      generalize R - totN P i = r0 at *
      go_wp2
      go_roundw
      case rel => exact ⟨i + 1, by simp, hl, by simp only [Value.int.injEq, true_and]; omega, by trivial⟩
      case measure => simp [intOf]; omega
    · have hie : i = P.length := by omega
      have hc : ¬ ((i : Int) < (P.length : Int)) := by omega
      have HTE : Hid (totN P P.length = totP P) := by show totN P P.length = totP P; unfold totN; rw [List.take_length]
      subst hie
      go_wp2
      go_ret
      rw [← HTE.out]
      exact ⟨rfl, hb0⟩

end Go.Proofs.YtpldfakfgngaaaaGreatDoor

namespace Go.Proofs.YtpldfakfgngaaaaGreatDoor
open Go.RowKit
attribute [local go_sem] size_bstr toList_bstr append_bstr

/-- A row appended to one that the call owns, as a run. -/
theorem run_append_f {w : World} (ty : TypeId) (base : Nat) (v : Value) (xs : List F3) (hown : w.ownsRow base 95 3 v xs.length (fcells xs))
    (q : Option Addr) (cap : Nat) (ds : List F3) (hA : FArg w q cap ds) (hbytes : (xs.length + ds.length) * 40 ≤ 140737488355328) (hbase : base ≤ w.heap.size) :
    ∃ v' w', (Builtin.append_ #[27, 27] ty #[v, .slice q ds.length cap]).run Tryz.prog w = .ok v' w' ∧ w'.ownsRow base 95 3 v' (xs ++ ds).length (fcells (xs ++ ds)) ∧ Below base w w' := by
  obtain ⟨i0, hi, hz0, hz1, hz2⟩ := info_parts Tryz.infoFile
  cases q with
  | none =>
    obtain ⟨rfl, rfl⟩ := hA.nil rfl
    refine ⟨v, w, run_append_owned_none (P := Tryz.prog) (w := w) base 27 ty 95 i0 3 Tryz.underlying27 hi v _ _ hown, ?_, Below.refl _ _⟩
    rw [List.append_nil]
    exact hown
  | some ad =>
    have hnews : ∀ j u, (fcells ds)[j]? = some u → w.cell? (ad.add j) = some u := by
      intro j u hj
      have h0 : 0 < ds.length := by
        by_cases h : 0 < ds.length
        · exact h
        · have : ds = [] := List.eq_nil_of_length_eq_zero (by omega)
          subst this
          simp [fcells] at hj
      obtain ⟨b, off, e, _, hR⟩ := hA.at_ h0
      cases e
      exact hR.cells j u hj
    obtain ⟨v', w', hr, h2, h3, _⟩ := run_append_own (P := Tryz.prog) w base 27 ty 95 i0 (.agg #[.string ⟨#[]⟩, .string ⟨#[]⟩, .int .i64 0]) 3 40 Tryz.underlying27 hi hz0 hz1 hz2 rfl (by decide) v _ _ hown ad ds.length cap (fcells ds) (fcells_length ds) hnews (fcells_one ds) (by unfold maxLen; omega) hbytes hbase
    refine ⟨v', w', hr, ?_, (Below.refl _ _).grown h3 hbase (fun k hk => (hown.lt k hk).1)⟩
    rw [List.length_append, fcells_append]
    exact h2
theorem set_far (w : World) {a b : Nat} (h : b ≠ a) (o o' : Nat) (v : Value) : (w.setCell ⟨a, o, none⟩ v).cell? ⟨b, o', none⟩ = w.cell? ⟨b, o', none⟩ := World.cell?_of_block (a := ⟨b, o', none⟩) (Below.heap_setCell _ _ _ _ h)
/-- Two cells of a block of its own are written. -/
abbrev set2 (W : World) (g : Nat) (x y : Value) : World := (W.setCell ⟨g, 0, none⟩ x).setCell ⟨g, 1, none⟩ y
theorem set2_block {W : World} {g : Nat} {a b : Value} {t : TypeId} (h : W.heap[g]? = some (.cells #[a, b] t (0, 0))) (x y : Value) : (set2 W g x y).heap[g]? = some (.cells #[x, y] t (0, 0)) := by
  have h1 := block_set h 0 x
  have h2 := block_set h1 1 y
  exact h2
theorem set2_other (W : World) {g i : Nat} (h : i ≠ g) (x y : Value) : (set2 W g x y).heap[i]? = W.heap[i]? := (Below.heap_setCell _ _ _ _ h).trans (Below.heap_setCell _ _ _ _ h)
theorem set2_below {B : Nat} {w0 W : World} {g : Nat} (h : Below B w0 W) (hg : B ≤ g) (x y : Value) : Below B w0 (set2 W g x y) := (h.setCell (p := ⟨g, 0, none⟩) hg x).setCell (p := ⟨g, 1, none⟩) hg y
theorem FArg.set2 {W : World} {q : Option Addr} {cap : Nat} {P : List F3} (h : FArg W q cap P) {g : Nat} (hg : ∀ b off, q = some ⟨b, off, none⟩ → b ≠ g) (x y : Value) : FArg (set2 W g x y) q cap P :=
  ⟨by
    rcases h.or_ with h1 | ⟨b, off, h1, h2, h3⟩
    · exact Or.inl h1
    · exact Or.inr ⟨b, off, h1, h2.block (set2_other W (hg b off h1) x y), fun i hi => (h3 i hi).block (set2_other W (hg b off h1) x y)⟩, h.le⟩
theorem step_app_f {w : World} {ops : Array Oper} {o : Oper} {a : Act} {K : Act → World → Prop} {Q : Exit → Act → World → Prop} {E : Prop} (hgd : o.guard = none) (s x : Operand)
    (ho : o.op = .call { callee := .builtin .append, args := #[s, x], argTypes := #[27, 27] }) (v u : Value) (hs : a.eval s = v) (hx : a.eval x = u) (v' : Value) (w' : World)
    (hrun : (Builtin.append_ #[27, 27] o.type #[v, u]).run Tryz.prog w = .ok v' w') (h : K (a.put o.dst v') w') :
    if Region.wanted o (yielded ops a.tmps) = true then Oper.wp Tryz.prog o a w K Q else E := by
  have hw : Region.wanted o (yielded ops a.tmps) = true := by simp [Region.wanted, hgd]
  rw [if_pos hw]
  unfold Oper.wp execOp
  simp only [ho, resolve, invoke, builtin, Sem.run_bind, Sem.run_pure, Result.andThen_ok, List.map_toArray, List.map_cons, List.map_nil, hs, hx, hrun]
  exact h
theorem FArg.one (w : World) (f : F3) : FArg (w.alloc (.cells #[.string (bstr f.1), .string (bstr f.2.1), .int .i64 (f.2.2 : Int)] 95)) (some ⟨w.heap.size, 0, none⟩) 1 [f] := by
  have hb := heap_alloc_new w (.cells #[.string (bstr f.1), .string (bstr f.2.1), .int .i64 (f.2.2 : Int)] 95 (0, 0))
  refine ⟨Or.inr ⟨w.heap.size, 0, rfl, ⟨_, hb⟩, fun i hi => ?_⟩, by simp⟩
  have : i = 0 := by simpa using hi
  subst this
  have k := (cells_block hb).1
  exact ⟨k 0, k 1, k 2⟩
/-- 'P[:k]' and 'P[k:]'. -/
theorem FArg.take {w : World} {q : Option Addr} {cap : Nat} {P : List F3} (h : FArg w q cap P) (k : Nat) : FArg w q cap (P.take k) :=
  ⟨by
    rcases h.or_ with ⟨h1, rfl, h2⟩ | ⟨b, off, h1, h2, h3⟩
    · exact Or.inl ⟨h1, by simp, h2⟩
    · exact Or.inr ⟨b, off, h1, h2, h3.take k⟩, by have := h.le; rw [List.length_take]; omega⟩
theorem FArg.drop {w : World} {b off cap : Nat} {P : List F3} (h : FArg w (some ⟨b, off, none⟩) cap P) (k : Nat) : FArg w (if cap = k then some ⟨b, off, none⟩ else some ⟨b, off + k * 3, none⟩) (cap - k) (P.drop k) :=
  ⟨by
    rcases h.or_ with ⟨h1, _⟩ | ⟨b', off', h1, h2, h3⟩
    · cases h1
    · cases h1
      by_cases hc : cap = k
      · rw [if_pos hc]
        refine Or.inr ⟨b, off, rfl, h2, ?_⟩
        have : P.drop k = [] := List.drop_eq_nil_of_le (by have := h.le; omega)
        rw [this]
        exact fun i hi => by simp at hi
      · rw [if_neg hc]
        exact Or.inr ⟨b, off + k * 3, rfl, h2, h3.drop k⟩, by have := h.le; rw [List.length_drop]; omega⟩
theorem FArg.drew {w : World} {q : Option Addr} {cap : Nat} {P : List F3} (h : FArg w q cap P) : FArg w.drew q cap P := h.below ((Below.refl _ _).drew)

set_option maxHeartbeats 4000000 in
set_option maxRecDepth 100000 in
theorem Rwith_any (R cap : Nat) (q : Option Addr) (P : List F3) (f : F3) (w : World) (hP : FArg w q cap P) (hs : SrtP P) (hn : P.length ≤ 1000000) :
    Calls Tryz.prog 71 #[rdV R q P.length cap, flV f] w fun e w' => ∃ q' cap', e = .returned (rdV R q' (wthP f P).length cap') ∧ FArg w' q' cap' (wthP f P) ∧ Below w.heap.size w w' := by
  obtain ⟨n, bs, sy0⟩ := f
  have hb0 : Below w.heap.size w (((w.alloc (.cells #[.int .i64 (R : Int), .slice q P.length cap] 29)).alloc (.cells #[.string (bstr n), .string (bstr bs), .int .i64 (sy0 : Int)] 95)).alloc (.cells #[.int .i64 0, .slice none 0 0] 29)) := (((Below.refl _ _).alloc (Nat.le_refl _) _).alloc (by simp) _).alloc (by simp; omega) _
  go_enter Tryz.func71, Tryz.ntmps71
  go_wp2_with fail
  have b0 : (((w.alloc (.cells #[.int .i64 (R : Int), .slice q P.length cap] 29)).alloc (.cells #[.string (bstr n), .string (bstr bs), .int .i64 (sy0 : Int)] 95)).alloc (.cells #[.int .i64 0, .slice none 0 0] 29)).heap[w.heap.size]? = some (.cells #[.int .i64 (R : Int), .slice q P.length cap] 29 (0, 0)) := ((MapKept.heap_alloc _ _).2 w.heap.size (by simp; omega)).trans (((MapKept.heap_alloc _ _).2 w.heap.size (by simp)).trans (boxed w _ _ _))
  have b1 : (((w.alloc (.cells #[.int .i64 (R : Int), .slice q P.length cap] 29)).alloc (.cells #[.string (bstr n), .string (bstr bs), .int .i64 (sy0 : Int)] 95)).alloc (.cells #[.int .i64 0, .slice none 0 0] 29)).heap[w.heap.size + 1]? = some (.cells #[.string (bstr n), .string (bstr bs), .int .i64 (sy0 : Int)] 95 (0, 0)) := ((MapKept.heap_alloc _ _).2 (w.heap.size + 1) (by simp)).trans (by
    have := heap_alloc_new (w.alloc (.cells #[.int .i64 (R : Int), .slice q P.length cap] 29)) (.cells #[.string (bstr n), .string (bstr bs), .int .i64 (sy0 : Int)] 95 (0, 0))
    simpa using this)
  have b2 : (((w.alloc (.cells #[.int .i64 (R : Int), .slice q P.length cap] 29)).alloc (.cells #[.string (bstr n), .string (bstr bs), .int .i64 (sy0 : Int)] 95)).alloc (.cells #[.int .i64 0, .slice none 0 0] 29)).heap[w.heap.size + 1 + 1]? = some (.cells #[.int .i64 0, .slice none 0 0] 29 (0, 0)) := by
    have := heap_alloc_new ((w.alloc (.cells #[.int .i64 (R : Int), .slice q P.length cap] 29)).alloc (.cells #[.string (bstr n), .string (bstr bs), .int .i64 (sy0 : Int)] 95)) (.cells #[.int .i64 0, .slice none 0 0] 29 (0, 0))
    simpa using this
  have hP0 := hP.below hb0
  generalize ((w.alloc (.cells #[.int .i64 (R : Int), .slice q P.length cap] 29)).alloc (.cells #[.string (bstr n), .string (bstr bs), .int .i64 (sy0 : Int)] 95)).alloc (.cells #[.int .i64 0, .slice none 0 0] 29) = W at *
  have hle := posP_le n P
  have hlt0 := (Array.getElem?_eq_some_iff.1 b0).1
  have hlt1 := (Array.getElem?_eq_some_iff.1 b1).1
  have hlt2 := (Array.getElem?_eq_some_iff.1 b2).1
  refine (Rfind_any R cap q P n _ hP0 hs hn).mono ?_
  rintro e w1 ⟨rfl, hb1⟩
  have hP1 := hP0.below hb1
  have k0 : ∀ w', Below w1.heap.size w1 w' → w'.cell? ⟨w.heap.size, 0, none⟩ = some (.int .i64 (R : Int)) ∧ w'.cell? ⟨w.heap.size, 1, none⟩ = some (.slice q P.length cap) ∧ w'.cell? ⟨w.heap.size + 1, 0, none⟩ = some (.string (bstr n)) ∧ w'.cell? ⟨w.heap.size + 1, 1, none⟩ = some (.string (bstr bs)) ∧ w'.cell? ⟨w.heap.size + 1, 2, none⟩ = some (.int .i64 (sy0 : Int)) ∧ w'.cell? ⟨w.heap.size + 1 + 1, 0, none⟩ = some (.int .i64 0) ∧ w'.cell? ⟨w.heap.size + 1 + 1, 1, none⟩ = some (.slice none 0 0) ∧ (∀ o, w'.frozen? ⟨w.heap.size + 1 + 1, o, none⟩ = false) := fun w' hb' => by
    have hsz := hb1.size
    have a0 := cells_block ((hb'.block _ (by omega)).trans ((hb1.block _ hlt0).trans b0))
    have a1 := cells_block ((hb'.block _ (by omega)).trans ((hb1.block _ hlt1).trans b1))
    have a2 := cells_block ((hb'.block _ (by omega)).trans ((hb1.block _ hlt2).trans b2))
    exact ⟨a0.1 0, a0.1 1, a1.1 0, a1.1 1, a1.1 2, a2.1 0, a2.1 1, a2.2⟩
  have hbb : ∀ w', Below w1.heap.size w1 w' → Below w.heap.size w w' := fun w' hb' => b_step (b_step hb0 hb1 (Nat.le_refl _)) hb' (Nat.le_refl _)
  have hres : (wthP (n, bs, sy0) P) = P.take (posP n P) ++ (n, bs, sy0) :: P.drop (posP n P + if isP n P = true then 1 else 0) := wthP_eq (n, bs, sy0) hs
  have hpn : posP n P + (if isP n P = true then 1 else 0) ≤ P.length := by
    have hi := posP_is (s := n) hs
    by_cases h1 : posP n P < P.length
    · split <;> omega
    · rw [List.getElem?_eq_none (by omega)] at hi
      rw [hi]
      simp only
      simp
      omega
  have hblk2 := (hb1.block _ hlt2).trans b2
  have hw1s : w.heap.size + 1 + 1 < w1.heap.size := Nat.lt_of_lt_of_le hlt2 hb1.size
  clear hb0 hb1 hP0 hP b0 b1 b2
  generalize posP n P = p at *
  obtain ⟨c0, c1, c2, c3, c4, c5, c6, c7⟩ := k0 w1 (Below.refl _ _)
  have hown0 : w1.ownsRow w1.heap.size 95 3 (.slice none 0 0) ([] : List F3).length (fcells []) := World.ownsRow_nil _ _ _ _
  have hT : (P.take p).length = p := by rw [List.length_take]; omega
  have hpi : (p : Int) ≤ (cap : Int) := by have := hP1.le; omega
  have kb : ∀ w', Below w1.heap.size w1 w' → w'.heap[w.heap.size + 1 + 1]? = some (.cells #[.int .i64 0, .slice none 0 0] 29 (0, 0)) := fun w' hb' => (hb'.block _ (by omega)).trans hblk2
  have hfin : ∀ (v : Value) (w' : World), w'.ownsRow w1.heap.size 95 3 v (wthP (n, bs, sy0) P).length (fcells (wthP (n, bs, sy0) P)) → Below w1.heap.size w1 w' → ∃ q' cap', v = .slice q' (wthP (n, bs, sy0) P).length cap' ∧ FArg (set2 w' (w.heap.size + 1 + 1) (.int .i64 (R : Int)) (.slice q' (wthP (n, bs, sy0) P).length cap')) q' cap' (wthP (n, bs, sy0) P) ∧ Below w.heap.size w (set2 w' (w.heap.size + 1 + 1) (.int .i64 (R : Int)) (.slice q' (wthP (n, bs, sy0) P).length cap')) ∧ (set2 w' (w.heap.size + 1 + 1) (.int .i64 (R : Int)) (.slice q' (wthP (n, bs, sy0) P).length cap')).cell? ⟨w.heap.size + 1 + 1, 0, none⟩ = some (.int .i64 (R : Int)) ∧ (set2 w' (w.heap.size + 1 + 1) (.int .i64 (R : Int)) (.slice q' (wthP (n, bs, sy0) P).length cap')).cell? ⟨w.heap.size + 1 + 1, 1, none⟩ = some (.slice q' (wthP (n, bs, sy0) P).length cap') := fun v w' ho hb' => by
    obtain ⟨q', cap', e, hF, hge⟩ := FArg.of_own ho
    have hz := cells_block (set2_block (kb w' hb') (.int .i64 (R : Int)) (.slice q' (wthP (n, bs, sy0) P).length cap'))
    refine ⟨q', cap', e, hF.set2 (fun b off hq => ?_) _ _, set2_below (hbb w' hb') (by omega) _ _, hz.1 0, hz.1 1⟩
    have := hge b (by rw [e, hq]; rfl)
    omega
  have hb40 : (P.length + 2) * 40 ≤ 140737488355328 := by omega
  cases hisn : isP n P with
  | false =>
    rw [hisn] at hres hpn
    simp only [Bool.false_eq_true, if_false, Nat.add_zero] at hres hpn
    go_wp2_with (at_builtin; first | (refine wpList_append_f rfl _ _ rfl w1.heap.size _ [] rfl hown0 q cap (P.take p) (by rw [hT]; rfl) (hP1.take p) (by rw [hT]; simp; omega) (Nat.le_refl _) ?_; intro v1 w2 hv1 hb2; rw [List.nil_append] at hv1; clear c0 c1 c2 c3 c4 c5 c6 c7; obtain ⟨c0, c1, c2, c3, c4, c5, c6, c7⟩ := k0 w2 hb2) | (refine wpList_append_f rfl _ _ rfl w1.heap.size _ (P.take p) rfl (hv1.alloc _) _ 1 [(n, bs, sy0)] rfl (FArg.one w2 (n, bs, sy0)) (by rw [hT]; simp; omega) (by have := hb2.size; simp; omega) ?_; intro v2 w3 hv2 hb3))
    have hb13 : Below w1.heap.size w1 w3 := (hb2.alloc hb2.size _).trans hb3
    clear c0 c1 c2 c3 c4 c5 c6 c7 hv1 hb2 hb3
    obtain ⟨c0, c1, c2, c3, c4, c5, c6, c7⟩ := k0 w3 hb13
    have c8 := c7 0
    have c9 := c7 1
    have hP3 := hP1.below hb13
    rcases hP3.or_ with ⟨rfl, rfl, rfl⟩ | ⟨b, off, rfl, _, _⟩
    · have hp0 : p = 0 := by simpa using hle
      subst hp0
      simp only [List.length_nil] at *
      obtain ⟨v3, w4, hrun, hv3, hb4⟩ := run_append_f (w := w3.drew) 27 w1.heap.size v2 (([] : List F3).take 0 ++ [(n, bs, sy0)]) hv2 none (0) (([] : List F3)) ⟨Or.inl ⟨rfl, rfl, rfl⟩, Nat.le_refl _⟩ (by simp) hb13.size
      have hb14 : Below w1.heap.size w1 w4 := hb13.drew.trans hb4
      have hdl : (([] : List F3)).length = 0 := rfl
      rw [hdl] at hrun
      have hlist : ([] : List F3).take 0 ++ [(n, bs, sy0)] ++ ([] : List F3) = wthP (n, bs, sy0) [] := by rw [hres]; simp
      rw [hlist] at hv3
      obtain ⟨q', cap', rfl, hF, hbw, r0, r1⟩ := hfin _ _ hv3 hb14
      clear c0 c1 c2 c3 c4 c5 c6 c7 c8 c9
      obtain ⟨c0, c1, c2, c3, c4, c5, c6, c7⟩ := k0 w3 hb13
      obtain ⟨d0, d1, d2, d3, d4, d5, d6, d7⟩ := k0 w4 hb14
      have c8 := c7 0
      have c9 := c7 1
      have d8 := d7 0
      have d9 := d7 1
      have hatc : ((0 : Nat) : Int) ≤ (0 : Int) := by exact Int.le_refl _
      clear hfin hbb k0 kb hres hlist hv2 hv3 hown0 hP1 hP3
      have HF : Hid _ := hF
      clear hF
      generalize hnl : (wthP (n, bs, sy0) []).length = nl at *
      have e0 : ((w4.setCell ⟨w.heap.size + 1 + 1, 0, none⟩ (.int .i64 (R : Int))).setCell ⟨w.heap.size + 1 + 1, 1, none⟩ (.slice q' nl cap')).cell? ⟨w.heap.size, 0, none⟩ = some (.int .i64 (R : Int)) := by rw [set_far _ (by omega), set_far _ (by omega)]; exact d0
      have e1 : ((w4.setCell ⟨w.heap.size + 1 + 1, 0, none⟩ (.int .i64 (R : Int))).setCell ⟨w.heap.size + 1 + 1, 1, none⟩ (.slice q' nl cap')).cell? ⟨w.heap.size, 1, none⟩ = some (.slice none 0 0) := by rw [set_far _ (by omega), set_far _ (by omega)]; exact d1
      go_region_held3 (fun w' => w'.cell? ⟨w.heap.size, 0, none⟩ = some (.int .i64 (R : Int)) ∧ w'.cell? ⟨w.heap.size, 1, none⟩ = some (.slice none 0 0)) (first | with_reducible exact ⟨c0, c1⟩ | with_reducible exact ⟨d0, d1⟩ | with_reducible exact ⟨e0, e1⟩ | go_keep)
        ((refine step_app_f (by rfl) _ _ (by rfl) _ _ (by rfl) (by rfl) _ _ hrun ?_))
      all_goals
        go_wp2
        all_goals exact bodyPost_ret (v := rdV R q' nl cap') (by simp [results, Tryz.results71, go_sem, r0, r1]) rfl ⟨q', cap', by first | rfl | rw [hnl], HF.out, hbw⟩
    · obtain ⟨v3, w4, hrun, hv3, hb4⟩ := run_append_f (w := w3.drew) 27 w1.heap.size v2 (P.take p ++ [(n, bs, sy0)]) hv2 (if cap = p then some ⟨b, off, none⟩ else some ⟨b, off + (p) * 3, none⟩) (cap - (p)) (P.drop (p)) (hP3.drop (p)).drew (by simp only [List.length_append, hT, List.length_drop, List.length_cons, List.length_nil]; omega) hb13.size
      have hb14 : Below w1.heap.size w1 w4 := hb13.drew.trans hb4
      have hdl : (P.drop (p)).length = P.length - (p) := List.length_drop
      rw [hdl] at hrun
      have hlist : P.take p ++ [(n, bs, sy0)] ++ P.drop (p) = wthP (n, bs, sy0) P := by rw [hres]; simp
      rw [hlist] at hv3
      obtain ⟨q', cap', rfl, hF, hbw, r0, r1⟩ := hfin _ _ hv3 hb14
      clear c0 c1 c2 c3 c4 c5 c6 c7 c8 c9
      obtain ⟨c0, c1, c2, c3, c4, c5, c6, c7⟩ := k0 w3 hb13
      obtain ⟨d0, d1, d2, d3, d4, d5, d6, d7⟩ := k0 w4 hb14
      have c8 := c7 0
      have c9 := c7 1
      have d8 := d7 0
      have d9 := d7 1
      have hatc : ((p : Nat) : Int) ≤ (P.length : Int) := by omega
      clear hfin hbb k0 kb hres hlist hv2 hv3 hown0 hP1 hP3
      have HF : Hid _ := hF
      clear hF
      generalize hnl : (wthP (n, bs, sy0) P).length = nl at *
      have e0 : ((w4.setCell ⟨w.heap.size + 1 + 1, 0, none⟩ (.int .i64 (R : Int))).setCell ⟨w.heap.size + 1 + 1, 1, none⟩ (.slice q' nl cap')).cell? ⟨w.heap.size, 0, none⟩ = some (.int .i64 (R : Int)) := by rw [set_far _ (by omega), set_far _ (by omega)]; exact d0
      have e1 : ((w4.setCell ⟨w.heap.size + 1 + 1, 0, none⟩ (.int .i64 (R : Int))).setCell ⟨w.heap.size + 1 + 1, 1, none⟩ (.slice q' nl cap')).cell? ⟨w.heap.size, 1, none⟩ = some (.slice (some ⟨b, off, none⟩) P.length cap) := by rw [set_far _ (by omega), set_far _ (by omega)]; exact d1
      go_region_held3 (fun w' => w'.cell? ⟨w.heap.size, 0, none⟩ = some (.int .i64 (R : Int)) ∧ w'.cell? ⟨w.heap.size, 1, none⟩ = some (.slice (some ⟨b, off, none⟩) P.length cap)) (first | with_reducible exact ⟨c0, c1⟩ | with_reducible exact ⟨d0, d1⟩ | with_reducible exact ⟨e0, e1⟩ | go_keep)
        ((refine step_app_f (by rfl) _ _ (by rfl) _ _ (by rfl) (by rfl) _ _ hrun ?_))
      all_goals
        go_wp2
        all_goals exact bodyPost_ret (v := rdV R q' nl cap') (by simp [results, Tryz.results71, go_sem, r0, r1]) rfl ⟨q', cap', by first | rfl | rw [hnl], HF.out, hbw⟩
  | true =>
    rw [hisn] at hres hpn
    simp only [if_true] at hres hpn
    go_wp2_with (at_builtin; first | (refine wpList_append_f rfl _ _ rfl w1.heap.size _ [] rfl hown0 q cap (P.take p) (by rw [hT]; rfl) (hP1.take p) (by rw [hT]; simp; omega) (Nat.le_refl _) ?_; intro v1 w2 hv1 hb2; rw [List.nil_append] at hv1; clear c0 c1 c2 c3 c4 c5 c6 c7; obtain ⟨c0, c1, c2, c3, c4, c5, c6, c7⟩ := k0 w2 hb2) | (refine wpList_append_f rfl _ _ rfl w1.heap.size _ (P.take p) rfl (hv1.alloc _) _ 1 [(n, bs, sy0)] rfl (FArg.one w2 (n, bs, sy0)) (by rw [hT]; simp; omega) (by have := hb2.size; simp; omega) ?_; intro v2 w3 hv2 hb3))
    have hb13 : Below w1.heap.size w1 w3 := (hb2.alloc hb2.size _).trans hb3
    clear c0 c1 c2 c3 c4 c5 c6 c7 hv1 hb2 hb3
    obtain ⟨c0, c1, c2, c3, c4, c5, c6, c7⟩ := k0 w3 hb13
    have c8 := c7 0
    have c9 := c7 1
    have hP3 := hP1.below hb13
    rcases hP3.or_ with ⟨rfl, rfl, rfl⟩ | ⟨b, off, rfl, _, _⟩
    · cases hisn
    · have hcast : (p : Int) + 1 = ((p + 1 : Nat) : Int) := by simp
      rw [hcast]
      clear hcast
      generalize p + 1 = m at *
      obtain ⟨v3, w4, hrun, hv3, hb4⟩ := run_append_f (w := w3.drew) 27 w1.heap.size v2 (P.take p ++ [(n, bs, sy0)]) hv2 (if cap = m then some ⟨b, off, none⟩ else some ⟨b, off + (m) * 3, none⟩) (cap - (m)) (P.drop (m)) (hP3.drop (m)).drew (by simp only [List.length_append, hT, List.length_drop, List.length_cons, List.length_nil]; omega) hb13.size
      have hb14 : Below w1.heap.size w1 w4 := hb13.drew.trans hb4
      have hdl : (P.drop (m)).length = P.length - (m) := List.length_drop
      rw [hdl] at hrun
      have hlist : P.take p ++ [(n, bs, sy0)] ++ P.drop (m) = wthP (n, bs, sy0) P := by rw [hres]; simp
      rw [hlist] at hv3
      obtain ⟨q', cap', rfl, hF, hbw, r0, r1⟩ := hfin _ _ hv3 hb14
      clear c0 c1 c2 c3 c4 c5 c6 c7 c8 c9
      obtain ⟨c0, c1, c2, c3, c4, c5, c6, c7⟩ := k0 w3 hb13
      obtain ⟨d0, d1, d2, d3, d4, d5, d6, d7⟩ := k0 w4 hb14
      have c8 := c7 0
      have c9 := c7 1
      have d8 := d7 0
      have d9 := d7 1
      have hatc : ((m : Nat) : Int) ≤ (P.length : Int) := by omega
      clear hfin hbb k0 kb hres hlist hv2 hv3 hown0 hP1 hP3
      have HF : Hid _ := hF
      clear hF
      generalize hnl : (wthP (n, bs, sy0) P).length = nl at *
      have e0 : ((w4.setCell ⟨w.heap.size + 1 + 1, 0, none⟩ (.int .i64 (R : Int))).setCell ⟨w.heap.size + 1 + 1, 1, none⟩ (.slice q' nl cap')).cell? ⟨w.heap.size, 0, none⟩ = some (.int .i64 (R : Int)) := by rw [set_far _ (by omega), set_far _ (by omega)]; exact d0
      have e1 : ((w4.setCell ⟨w.heap.size + 1 + 1, 0, none⟩ (.int .i64 (R : Int))).setCell ⟨w.heap.size + 1 + 1, 1, none⟩ (.slice q' nl cap')).cell? ⟨w.heap.size, 1, none⟩ = some (.slice (some ⟨b, off, none⟩) P.length cap) := by rw [set_far _ (by omega), set_far _ (by omega)]; exact d1
      go_region_held3 (fun w' => w'.cell? ⟨w.heap.size, 0, none⟩ = some (.int .i64 (R : Int)) ∧ w'.cell? ⟨w.heap.size, 1, none⟩ = some (.slice (some ⟨b, off, none⟩) P.length cap)) (first | with_reducible exact ⟨c0, c1⟩ | with_reducible exact ⟨d0, d1⟩ | with_reducible exact ⟨e0, e1⟩ | go_keep)
        ((refine step_app_f (by rfl) _ _ (by rfl) _ _ (by rfl) (by rfl) _ _ hrun ?_))
      all_goals
        go_wp2
        all_goals exact bodyPost_ret (v := rdV R q' nl cap') (by simp [results, Tryz.results71, go_sem, r0, r1]) rfl ⟨q', cap', by first | rfl | rw [hnl], HF.out, hbw⟩

end Go.Proofs.YtpldfakfgngaaaaGreatDoor

namespace Go.Proofs.YtpldfakfgngaaaaGreatDoor
open Go.RowKit
attribute [local go_sem] size_bstr toList_bstr append_bstr

theorem wtoP_succ {P : List F3} {i : Nat} (h : i < P.length) (s : List UInt8) : wtoP s (P.take (i + 1)) = wtoP s (P.take i) ++ (if P[i].1 = s then [] else [P[i]]) := by
  unfold wtoP
  rw [List.take_succ_eq_append_getElem h, List.filter_append]
  congr 1
  by_cases hs : P[i].1 = s <;> simp [hs]
theorem wtoP_len (s : List UInt8) (P : List F3) : (wtoP s P).length ≤ P.length := List.length_filter_le _ _
/-- A name's file, or none. -/
def ofP (s : List UInt8) (P : List F3) : F3 := (P.find? (fun f => f.1 == s)).getD ([], [], 0)
theorem ofP_at {s : List UInt8} : ∀ {P : List F3}, SrtP P → isP s P = true → ∃ h : posP s P < P.length, P[posP s P] = ofP s P
  | [], _, h => by cases h
  | f :: r, hs, h => by
    obtain ⟨h1, h2⟩ := List.pairwise_cons.1 hs
    have hi := posP_is (s := s) hs
    by_cases hf : f.1 < s
    · have e : posP s (f :: r) = posP s r + 1 := by simp [posP, hf]
      have hne : (f.1 == s) = false := by simpa using lt_ne hf
      have hr : isP s r = true := by simpa [isP, hne] using h
      obtain ⟨h3, h4⟩ := ofP_at h2 hr
      refine ⟨by rw [e]; simpa using h3, ?_⟩
      have e2 : ofP s (f :: r) = ofP s r := by unfold ofP; rw [List.find?_cons_of_neg (by simp [hne])]
      rw [e2, ← h4]
      simp only [e, List.getElem_cons_succ]
    · have e : posP s (f :: r) = 0 := by simp [posP, hf]
      rw [e, List.getElem?_cons_zero, h] at hi
      simp only at hi
      refine ⟨by rw [e]; simp, ?_⟩
      have e2 : ofP s (f :: r) = f := by unfold ofP; rw [List.find?_cons_of_pos (by rw [← hi])]; rfl
      rw [e2]
      simp only [e, List.getElem_cons_zero]
theorem ofP_none {s : List UInt8} {P : List F3} (h : isP s P = false) : ofP s P = ([], [], 0) := by
  unfold isP at h
  unfold ofP
  cases hf : P.find? (fun f => f.1 == s) with
  | none => rfl
  | some x => rw [hf] at h; cases h

set_option maxHeartbeats 2000000 in
set_option maxRecDepth 100000 in
theorem Rname_any (s : List UInt8) (w : World) (hn : s.length ≤ 9223372036854775807) :
    Calls Tryz.prog 69 #[.string (bstr s)] w fun e w' => e = .returned (.bool (decide (1 ≤ s.length ∧ s.length ≤ 64))) ∧ w' = w := by
  by_cases h1 : 1 ≤ s.length
  · have e : decide ((s.length : Int) ≤ 64) = decide (1 ≤ s.length ∧ s.length ≤ 64) := by rw [decide_eq_decide]; omega
    have e' : Hid (decide ((s.length : Int) ≤ 64) = decide (1 ≤ s.length ∧ s.length ≤ 64)) := e
    clear e
    go_enter Tryz.func69, Tryz.ntmps69
    go_wp2
    go_ret
    refine ⟨?_, rfl⟩
    rw [← e'.out]
    rfl
  · have e : decide (1 ≤ s.length ∧ s.length ≤ 64) = false := by simp [h1]
    have h2 : ¬ (1 : Int) ≤ (s.length : Int) := by omega
    rw [e]
    clear e h1
    go_enter Tryz.func69, Tryz.ntmps69
    go_wp2
    go_ret
    exact ⟨rfl, rfl⟩

set_option maxHeartbeats 2000000 in
set_option maxRecDepth 100000 in
theorem RNew_any (room : Int) (w : World) :
    Calls Tryz.prog 35 #[.int .i64 room] w fun e w' => e = .returned (rdV room.toNat none 0 0) ∧ Below w.heap.size w w' := by
  go_enter Tryz.func35, Tryz.ntmps35
  go_wp2
  have hmax : max room 0 = (room.toNat : Int) := by omega
  rw [hmax]
  refine bodyPost_ret (v := rdV room.toNat none 0 0) ?_ ?_ ?_
  · simp [results, Tryz.results35, go_sem]
  · rfl
  · exact ⟨rfl, (Below.refl _ _).alloc (Nat.le_refl _) _⟩

set_option maxHeartbeats 2000000 in
set_option maxRecDepth 100000 in
theorem Rwithout_any (R cap : Nat) (q : Option Addr) (P : List F3) (s : List UInt8) (w : World) (hP : FArg w q cap P) (hn : P.length ≤ 1000000) :
    Calls Tryz.prog 78 #[rdV R q P.length cap, .string (bstr s)] w fun e w' => ∃ q' cap', e = .returned (rdV R q' (wtoP s P).length cap') ∧ FArg w' q' cap' (wtoP s P) ∧ Below w.heap.size w w' := by
  have hb0 : Below w.heap.size w ((w.alloc (.cells #[.int .i64 (R : Int), .slice q P.length cap] 29)).alloc (.cells #[.int .i64 0, .slice none 0 0] 29)) := ((Below.refl _ _).alloc (Nat.le_refl _) _).alloc (by simp) _
  go_enter Tryz.func78, Tryz.ntmps78
  go_wp2_with fail
  have b0 : ((w.alloc (.cells #[.int .i64 (R : Int), .slice q P.length cap] 29)).alloc (.cells #[.int .i64 0, .slice none 0 0] 29)).heap[w.heap.size]? = some (.cells #[.int .i64 (R : Int), .slice q P.length cap] 29 (0, 0)) := ((MapKept.heap_alloc _ _).2 w.heap.size (by simp)).trans (boxed w _ _ _)
  have b1 : ((w.alloc (.cells #[.int .i64 (R : Int), .slice q P.length cap] 29)).alloc (.cells #[.int .i64 0, .slice none 0 0] 29)).heap[w.heap.size + 1]? = some (.cells #[.int .i64 0, .slice none 0 0] 29 (0, 0)) := by
    have := heap_alloc_new (w.alloc (.cells #[.int .i64 (R : Int), .slice q P.length cap] 29)) (.cells #[.int .i64 0, .slice none 0 0] 29 (0, 0))
    simpa using this
  have hP0 := hP.below hb0
  generalize (w.alloc (.cells #[.int .i64 (R : Int), .slice q P.length cap] 29)).alloc (.cells #[.int .i64 0, .slice none 0 0] 29) = W at *
  have hlt0 := (Array.getElem?_eq_some_iff.1 b0).1
  have hlt1 := (Array.getElem?_eq_some_iff.1 b1).1
  go_loopw [5, 6] (fun s5 s6 wr => ∃ i : Nat, s6 = .int .i64 (i : Int) ∧ i ≤ P.length ∧ wr.ownsRow W.heap.size 95 3 s5 (wtoP s (P.take i)).length (fcells (wtoP s (P.take i))) ∧ Below W.heap.size W wr) (fun _ s6 _ => P.length - (intOf s6).toNat)
  case atStart => exact ⟨0, rfl, Nat.zero_le _, World.ownsRow_nil _ _ _ _, Below.refl _ _⟩
  case round =>
    obtain ⟨i, rfl, hi, hown, hbr⟩ := hrel
    have k0 := cells_block ((hbr.block _ hlt0).trans b0)
    have c0 := k0.1 0
    have c1 := k0.1 1
    have k1 := (hbr.block _ hlt1).trans b1
    by_cases hl : i < P.length
    · have hPr := hP0.below hbr
      obtain ⟨b, off, rfl, _, hR⟩ := hPr.at_ (by omega)
      have hx := hR i hl
      have hst := wtoP_succ hl s
      have hlen := wtoP_len s (P.take i)
      have htk : (P.take i).length = i := by rw [List.length_take]; omega
      have hil : (i : Int) < (P.length : Int) := by omega
      generalize P[i] = x at *
      obtain ⟨nm, bs, sy⟩ := x
      obtain ⟨a0, a1, a2⟩ := hx
      simp only at a0 a1 a2 hst
      by_cases hnm : nm = s
      · subst hnm
        rw [if_pos rfl, List.append_nil] at hst
        have HS : Hid _ := hst
        clear hst
        go_wp2
        go_roundw
        case rel => exact ⟨i + 1, by simp, hl, by rw [HS.out]; exact hown, hbr⟩
        case measure => simp [intOf]; omega
      · rw [if_neg hnm] at hst
        have hnb : (nm == s) = false := by simpa using hnm
        have HS : Hid _ := hst
        clear hst
        go_wp2_with (at_builtin; refine wpList_append_f rfl _ _ rfl W.heap.size _ (wtoP s (P.take i)) rfl (hown.alloc _) _ 1 [(nm, bs, sy)] rfl (FArg.one _ (nm, bs, sy)) (by simp only [List.length_cons, List.length_nil]; omega) (by have := hbr.size; simp; omega) ?_; intro v1 w2 hv1 hb2)
        go_roundw
        case rel => exact ⟨i + 1, by simp, hl, by rw [HS.out]; exact hv1, (hbr.alloc hbr.size _).trans hb2⟩
        case measure => simp [intOf]; omega
    · have hie : i = P.length := by omega
      have hc : ¬ ((i : Int) < (P.length : Int)) := by omega
      rw [hie, List.take_length] at hown
      obtain ⟨q', cap', rfl, hF, hge⟩ := FArg.of_own hown
      have hz := cells_block (set2_block k1 (.int .i64 (R : Int)) (.slice q' (wtoP s P).length cap'))
      have hF' : Hid _ := hF.set2 (g := w.heap.size + 1) (fun b off hq => by have := hge b (by rw [hq]; rfl); omega) (.int .i64 (R : Int)) (.slice q' (wtoP s P).length cap')
      have hbw := set2_below (g := w.heap.size + 1) (b_step hb0 hbr (Nat.le_refl _)) (Nat.le_succ _) (.int .i64 (R : Int)) (.slice q' (wtoP s P).length cap')
      have r0 := hz.1 0
      have r1 := hz.1 1
      have g0 := (cells_block k1).1 0
      have g1 := (cells_block k1).1 1
      have d0 := (cells_block k1).2 0
      have d1 := (cells_block k1).2 1
      clear hie hown hF hge hz
      go_wp2
      refine bodyPost_ret (v := rdV R q' (wtoP s P).length cap') ?_ ?_ ?_
      · simp [results, Tryz.results78, go_sem, r0, r1]
      · rfl
      · exact ⟨q', cap', rfl, hF'.out, hbw⟩

/-- Three cells of a block of its own are written. -/
abbrev set3 (W : World) (g : Nat) (x y z : Value) : World := ((W.setCell ⟨g, 0, none⟩ x).setCell ⟨g, 1, none⟩ y).setCell ⟨g, 2, none⟩ z
theorem set3_block {W : World} {g : Nat} {a b c : Value} {t : TypeId} (h : W.heap[g]? = some (.cells #[a, b, c] t (0, 0))) (x y z : Value) : (set3 W g x y z).heap[g]? = some (.cells #[x, y, z] t (0, 0)) := by
  have h1 := block_set h 0 x
  have h2 := block_set h1 1 y
  have h3 := block_set h2 2 z
  exact h3
theorem set3_below {B : Nat} {w0 W : World} {g : Nat} (h : Below B w0 W) (hg : B ≤ g) (x y z : Value) : Below B w0 (set3 W g x y z) := ((h.setCell (p := ⟨g, 0, none⟩) hg x).setCell (p := ⟨g, 1, none⟩) hg y).setCell (p := ⟨g, 2, none⟩) hg z

set_option maxHeartbeats 2000000 in
set_option maxRecDepth 100000 in
theorem ROf_any (R cap : Nat) (q : Option Addr) (P : List F3) (s : List UInt8) (w : World) (hP : FArg w q cap P) (hs : SrtP P) (hn : P.length ≤ 1000000) :
    Calls Tryz.prog 70 #[rdV R q P.length cap, .string (bstr s)] w fun e w' => e = .returned (.tuple #[flV (ofP s P), .bool (isP s P)]) ∧ Below w.heap.size w w' := by
  have hb0 : Below w.heap.size w ((w.alloc (.cells #[.int .i64 (R : Int), .slice q P.length cap] 29)).alloc (.cells #[.string ⟨#[]⟩, .string ⟨#[]⟩, .int .i64 0] 95)) := ((Below.refl _ _).alloc (Nat.le_refl _) _).alloc (by simp) _
  go_enter Tryz.func70, Tryz.ntmps70
  go_wp2_with fail
  have b0 : ((w.alloc (.cells #[.int .i64 (R : Int), .slice q P.length cap] 29)).alloc (.cells #[.string ⟨#[]⟩, .string ⟨#[]⟩, .int .i64 0] 95)).heap[w.heap.size]? = some (.cells #[.int .i64 (R : Int), .slice q P.length cap] 29 (0, 0)) := ((MapKept.heap_alloc _ _).2 w.heap.size (by simp)).trans (boxed w _ _ _)
  have b1 : ((w.alloc (.cells #[.int .i64 (R : Int), .slice q P.length cap] 29)).alloc (.cells #[.string ⟨#[]⟩, .string ⟨#[]⟩, .int .i64 0] 95)).heap[w.heap.size + 1]? = some (.cells #[.string ⟨#[]⟩, .string ⟨#[]⟩, .int .i64 0] 95 (0, 0)) := by
    have := heap_alloc_new (w.alloc (.cells #[.int .i64 (R : Int), .slice q P.length cap] 29)) (.cells #[.string ⟨#[]⟩, .string ⟨#[]⟩, .int .i64 0] 95 (0, 0))
    simpa using this
  have hP0 := hP.below hb0
  generalize (w.alloc (.cells #[.int .i64 (R : Int), .slice q P.length cap] 29)).alloc (.cells #[.string ⟨#[]⟩, .string ⟨#[]⟩, .int .i64 0] 95) = W at *
  have hlt0 := (Array.getElem?_eq_some_iff.1 b0).1
  have hlt1 := (Array.getElem?_eq_some_iff.1 b1).1
  refine (Rfind_any R cap q P s _ hP0 hs hn).mono ?_
  rintro e w1 ⟨rfl, hb1⟩
  have hP1 := hP0.below hb1
  have k0 := cells_block ((hb1.block _ hlt0).trans b0)
  have c0 := k0.1 0
  have c1 := k0.1 1
  have k1 := (hb1.block _ hlt1).trans b1
  have g0 := (cells_block k1).1 0
  have g1 := (cells_block k1).1 1
  have g2 := (cells_block k1).1 2
  have d0 := (cells_block k1).2 0
  have d1 := (cells_block k1).2 1
  have d2 := (cells_block k1).2 2
  have hbw := b_step hb0 hb1 (Nat.le_refl _)
  cases hisn : isP s P with
  | false =>
    have HOF : Hid _ := ofP_none hisn
    have HIS : Hid _ := hisn
    have hz := cells_block (set3_block k1 (.string ⟨#[]⟩) (.string ⟨#[]⟩) (.int .i64 0))
    have hbz := set3_below (g := w.heap.size + 1) hbw (Nat.le_succ _) (.string ⟨#[]⟩) (.string ⟨#[]⟩) (.int .i64 0)
    have r0 := hz.1 0
    have r1 := hz.1 1
    have r2 := hz.1 2
    clear hisn hz
    go_wp2_with fail
    go_wp2
    refine bodyPost_ret (v := .tuple #[flV ([], [], 0), .bool false]) ?_ ?_ ?_
    · simp [results, Tryz.results70, go_sem, r0, r1, r2]; rfl
    · rfl
    · exact ⟨by rw [HOF.out, HIS.out], hbz⟩
  | true =>
    obtain ⟨hl, hof⟩ := ofP_at hs hisn
    obtain ⟨b, off, rfl, _, hR⟩ := hP1.at_ (by omega)
    have hx := hR _ hl
    have hil : (posP s P : Int) < (P.length : Int) := by omega
    have HOF : Hid (ofP s P = P[posP s P]) := hof.symm
    have HIS : Hid _ := hisn
    clear hof hisn
    generalize P[posP s P] = x at *
    generalize posP s P = p at *
    obtain ⟨nm, bs, sy⟩ := x
    obtain ⟨a0, a1, a2⟩ := hx
    simp only at a0 a1 a2
    have hz := cells_block (set3_block k1 (.string (bstr nm)) (.string (bstr bs)) (.int .i64 (sy : Int)))
    have hbz := set3_below (g := w.heap.size + 1) hbw (Nat.le_succ _) (.string (bstr nm)) (.string (bstr bs)) (.int .i64 (sy : Int))
    have r0 := hz.1 0
    have r1 := hz.1 1
    have r2 := hz.1 2
    clear hz
    go_wp2_with fail
    go_wp2
    refine bodyPost_ret (v := .tuple #[flV (nm, bs, sy), .bool true]) ?_ ?_ ?_
    · simp [results, Tryz.results70, go_sem, r0, r1, r2]
    · rfl
    · exact ⟨by rw [HOF.out, HIS.out], hbz⟩

end Go.Proofs.YtpldfakfgngaaaaGreatDoor

