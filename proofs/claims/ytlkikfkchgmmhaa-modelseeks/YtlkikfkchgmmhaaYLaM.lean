/-
  What is put last is got: the law's counts, values, versions beside a model's cells.
-/
import Derived.Test.YtlkikfkchgmmhaaYWks
namespace Go.Proofs.Ytlkikfkchgmmhaa
open Go.RowKit

/-- The law's rows and columns, by small numbers. -/
def rowN (r : Nat) : List UInt8 := [114, UInt8.ofNat r]
def colN (c : Nat) : List UInt8 := [99, UInt8.ofNat c]
theorem rowN_inj {r s : Nat} (hr : r < 256) (hs : s < 256) (h : rowN r = rowN s) : r = s := by
  unfold rowN at h
  injection h with _ h
  injection h with h _
  have := congrArg UInt8.toNat h
  simp [UInt8.toNat_ofNat'] at this
  omega
theorem colN_inj {r s : Nat} (hr : r < 256) (hs : s < 256) (h : colN r = colN s) : r = s := by
  unfold colN at h
  injection h with _ h
  injection h with h _
  have := congrArg UInt8.toNat h
  simp [UInt8.toNat_ofNat'] at this
  omega
theorem colN_some (c : Nat) : colN c ≠ [] := by unfold colN; simp

/-- A model's cells stand where they are looked for. -/
def Stands (F : Mf) : Prop := ∀ r c x, F r c = some x → x.row = r ∧ x.col = c
theorem Stands.none : Stands (fun _ _ => none) := fun _ _ _ h => by cases h
theorem Stands.putF {F : Mf} (h : Stands F) (x : Cl) : Stands (putF F x) := by
  intro r c y hy
  unfold Go.Proofs.Ytlkikfkchgmmhaa.putF at hy
  split at hy
  · rename_i e
    cases hy
    exact ⟨e.1.symm, e.2.symm⟩
  · exact h r c y hy
theorem Stands.puts {F : Mf} (h : Stands F) (l : List Cl) : Stands (putsF F l) := by
  induction l generalizing F with
  | nil => exact h
  | cons a l ih => exact ih (h.putF a)

/-- What a look of the cells that an operation hangs on tells. -/
theorem look_tou {F : Mf} (h : Stands F) (o : Oq) (hc : o.col ≠ []) : lookL o.row o.col (touL F o) = ⟨o.row, o.col, (F o.row o.col).getD zC, (F o.row o.col).isSome⟩ := by
  have e1 : ∀ l : Lk, l.row = o.row → l.col = o.col → (optL (F o.row [])).foldl seeL l = l := by
    intro l _ h2
    cases hf : F o.row [] with
    | none => rfl
    | some x =>
      have := h _ _ _ hf
      show seeL l x = l
      unfold seeL
      rw [if_neg]
      intro hx
      exact hc (by rw [← h2, ← hx.2.1, this.2])
  unfold lookL touL
  rw [List.foldl_append, e1 _ rfl rfl]
  cases hf : F o.row o.col with
  | none => rfl
  | some x =>
    have := h _ _ _ hf
    show seeL ⟨o.row, o.col, zC, false⟩ x = _
    unfold seeL
    rw [if_pos ⟨this.1, this.2, .inl rfl⟩]
    rfl
theorem look_cnt {F : Mf} (h : Stands F) (o : Oq) (hc : o.col ≠ []) : (lookL o.row [] (touL F o)).new.ver = ((F o.row []).getD zC).ver := by
  have e1 : ∀ l : Lk, l.row = o.row → l.col = [] → (optL (F o.row o.col)).foldl seeL l = l := by
    intro l _ h2
    cases hf : F o.row o.col with
    | none => rfl
    | some x =>
      have := h _ _ _ hf
      show seeL l x = l
      unfold seeL
      rw [if_neg]
      intro hx
      exact hc (by rw [← this.2, hx.2.1, h2])
  unfold lookL touL
  rw [List.foldl_append]
  cases hf : F o.row [] with
  | none => rw [e1 _ (fold_place _ _).1 (fold_place _ _).2]; rfl
  | some x =>
    have := h _ _ _ hf
    rw [e1 _ (fold_place _ _).1 (fold_place _ _).2]
    show (seeL ⟨o.row, [], zC, false⟩ x).new.ver = _
    unfold seeL
    rw [if_pos ⟨this.1, this.2, .inl rfl⟩]
    rfl

/-- Does the operation change the place? What it answers, with 0 for the version of one that does. -/
def chgW (k : Int) (there has : Bool) (same : Bool) : Bool := if k = 1 then true else if k = 2 then false else if k = 3 then there else (there == has) && (!there || same)
def ansW (k : Int) (there ch : Bool) (val : List UInt8) (ver n : Int) : Rz :=
  if k = 1 then ⟨0, false, [], [], n + 1⟩
  else if k = 2 then (if there then ⟨0, true, [], val, ver⟩ else rz0)
  else if ch then ⟨0, true, [], [], n + 1⟩
  else if k = 3 then rz0
  else if there then ⟨0, false, [], val, ver⟩ else rz0
/-- The law's state: how many changes of each row, the value and the version of each place. -/
structure LSt (F : Mf) (cn : Nat → Nat) (vl : Nat → List UInt8) (vr : Nat → Nat) : Prop where
  st : Stands F
  cnt : ∀ r, r < 4 → ((F (rowN r) []).getD zC).ver = (cn r : Int)
  is : ∀ r c, r < 4 → c < 3 → 0 < vr (3 * r + c) → F (rowN r) (colN c) = some ⟨rowN r, colN c, (vr (3 * r + c) : Int), false, vl (3 * r + c)⟩
  no : ∀ r c, r < 4 → c < 3 → vr (3 * r + c) = 0 → ∀ x, F (rowN r) (colN c) = some x → x.gone = true
theorem LSt.none : LSt (fun _ _ => none) (fun _ => 0) (fun _ => []) (fun _ => 0) := ⟨Stands.none, fun _ _ => rfl, fun _ _ _ _ h => by omega, fun _ _ _ _ _ _ h => by cases h⟩
def updN {α : Type} (f : Nat → α) (i : Nat) (v : α) : Nat → α := fun j => if j = i then v else f j

theorem LSt.there {F : Mf} {cn : Nat → Nat} {vl : Nat → List UInt8} {vr : Nat → Nat} (h : LSt F cn vl vr) {r c : Nat} (hr : r < 4) (hc : c < 3) {o : Oq} (h1 : o.row = rowN r) (h2 : o.col = colN c) :
    thereL (lookL o.row o.col (touL F o)) = decide (0 < vr (3 * r + c)) ∧ (0 < vr (3 * r + c) → (lookL o.row o.col (touL F o)).new.val = vl (3 * r + c) ∧ (lookL o.row o.col (touL F o)).new.ver = vr (3 * r + c)) := by
  rw [look_tou h.st o (by rw [h2]; exact colN_some c), h1, h2]
  by_cases hv : 0 < vr (3 * r + c)
  · rw [h.is r c hr hc hv]
    refine ⟨?_, fun _ => ⟨rfl, rfl⟩⟩
    simp [thereL, hv]
  · refine ⟨?_, fun h => absurd h hv⟩
    have h0 := h.no r c hr hc (by omega)
    cases hf : F (rowN r) (colN c) with
    | none => simp [thereL]; omega
    | some x =>
      have := h0 x hf
      simp [thereL, this]
      omega
/-- What an operation answers, by the law's state. -/
theorem LSt.ans {F : Mf} {cn : Nat → Nat} {vl : Nat → List UInt8} {vr : Nat → Nat} (h : LSt F cn vl vr) {r c : Nat} (hr : r < 4) (hc : c < 3) {o : Oq} (h1 : o.row = rowN r) (h2 : o.col = colN c) (hm : mayO o = true) (hk : 1 ≤ o.kind ∧ o.kind ≤ 4) (hn : cn r < 1000000) :
    doR F o = ansW o.kind (decide (0 < vr (3 * r + c))) (chgW o.kind (decide (0 < vr (3 * r + c))) o.has (decide (vl (3 * r + c) = o.exp))) (vl (3 * r + c)) (vr (3 * r + c)) (cn r) := by
  obtain ⟨ht, hv⟩ := h.there hr hc h1 h2
  have hct : (lookL o.row [] (touL F o)).new.ver = (cn r : Int) := by
    rw [look_cnt h.st o (by rw [h2]; exact colN_some c), h1]
    exact h.cnt r hr
  unfold doR effR
  rw [if_neg (by rw [hm]; simp; omega), hct]
  generalize hL : lookL o.row o.col (touL F o) = L at *
  obtain ⟨k, row, col, val, has, exp⟩ := o
  simp only at *
  by_cases hp : 0 < vr (3 * r + c)
  · obtain ⟨v1, v2⟩ := hv hp
    rw [show decide (0 < vr (3 * r + c)) = true from decide_eq_true hp] at ht ⊢
    obtain rfl | rfl | rfl | rfl : k = 1 ∨ k = 2 ∨ k = 3 ∨ k = 4 := by omega
    · simp [ansW, chgR]; omega
    · simp [ansW, tellL, ht, v1, v2]
    · simp [ansW, chgW, chgR, ht]; omega
    · cases has <;> by_cases he : vl (3 * r + c) = exp <;> simp [ansW, chgW, asL, tellL, chgR, ht, v1, v2, he] <;> omega
  · rw [show decide (0 < vr (3 * r + c)) = false from decide_eq_false hp] at ht ⊢
    obtain rfl | rfl | rfl | rfl : k = 1 ∨ k = 2 ∨ k = 3 ∨ k = 4 := by omega
    · simp [ansW, chgR]; omega
    · simp [ansW, tellL, ht]
    · simp [ansW, chgW, ht]
    · cases has <;> simp [ansW, chgW, asL, tellL, chgR, ht] <;> omega
/-- What it leaves. -/
theorem LSt.step {F : Mf} {cn : Nat → Nat} {vl : Nat → List UInt8} {vr : Nat → Nat} (h : LSt F cn vl vr) {r c : Nat} (hr : r < 4) (hc : c < 3) {o : Oq} (h1 : o.row = rowN r) (h2 : o.col = colN c) (hm : mayO o = true) (hk : 1 ≤ o.kind ∧ o.kind ≤ 4) (hn : cn r < 1000000) :
    (chgW o.kind (decide (0 < vr (3 * r + c))) o.has (decide (vl (3 * r + c) = o.exp)) = false → doF F o = F) ∧
    (chgW o.kind (decide (0 < vr (3 * r + c))) o.has (decide (vl (3 * r + c) = o.exp)) = true → LSt (doF F o) (updN cn r (cn r + 1)) (updN vl (3 * r + c) o.val) (updN vr (3 * r + c) (if o.kind = 3 then 0 else cn r + 1))) := by
  obtain ⟨ht, hv⟩ := h.there hr hc h1 h2
  have hct : (lookL o.row [] (touL F o)).new.ver = (cn r : Int) := by
    rw [look_cnt h.st o (by rw [h2]; exact colN_some c), h1]
    exact h.cnt r hr
  have hlr := look_row o.row o.col (touL F o)
  have hE : effC o (touL F o) = if chgW o.kind (decide (0 < vr (3 * r + c))) o.has (decide (vl (3 * r + c) = o.exp)) = true then [⟨rowN r, [], (cn r : Int) + 1, false, []⟩, ⟨rowN r, colN c, (cn r : Int) + 1, o.kind == 3, o.val⟩] else [] := by
    unfold effC
    have hcc : chgC (lookL o.row o.col (touL F o)) o (cn r : Int) = [⟨rowN r, [], (cn r : Int) + 1, false, []⟩, ⟨rowN r, colN c, (cn r : Int) + 1, o.kind == 3, o.val⟩] := by
      unfold chgC
      rw [if_neg (by omega), hlr.1, hlr.2, h1, h2]
    rw [if_neg (by rw [hm]; simp; omega), hct, hcc]
    rw [h1, h2] at ht hv ⊢
    clear hcc hlr hct
    generalize hL : lookL (rowN r) (colN c) (touL F o) = L at *
    obtain ⟨k, row, col, val, has, exp⟩ := o
    simp only at *
    by_cases hp : 0 < vr (3 * r + c)
    · obtain ⟨v1, v2⟩ := hv hp
      rw [show decide (0 < vr (3 * r + c)) = true from decide_eq_true hp] at ht ⊢
      obtain rfl | rfl | rfl | rfl : k = 1 ∨ k = 2 ∨ k = 3 ∨ k = 4 := by omega
      · simp [chgW]
      · simp [chgW]
      · simp [chgW, ht]
      · cases has <;> by_cases he : vl (3 * r + c) = exp <;> simp [chgW, asL, ht, v1, he]
    · rw [show decide (0 < vr (3 * r + c)) = false from decide_eq_false hp] at ht ⊢
      obtain rfl | rfl | rfl | rfl : k = 1 ∨ k = 2 ∨ k = 3 ∨ k = 4 := by omega
      · simp [chgW]
      · simp [chgW]
      · simp [chgW, ht]
      · cases has <;> simp [chgW, asL, ht]
  unfold doF
  rw [hE]
  refine ⟨fun hf => by rw [if_neg (by rw [hf]; simp)]; rfl, fun hf => ?_⟩
  rw [if_pos hf]
  have hstn : Stands (putsF F [⟨rowN r, [], (cn r : Int) + 1, false, []⟩, ⟨rowN r, colN c, (cn r : Int) + 1, o.kind == 3, o.val⟩]) := h.st.puts _
  refine ⟨hstn, ?_, ?_, ?_⟩
  · intro s hs
    show ((putF (putF F _) _ (rowN s) []).getD zC).ver = _
    unfold putF updN
    by_cases e : s = r
    · subst e
      simp [colN]
    · have hne : ¬ rowN s = rowN r := fun h => e (rowN_inj (by omega) (by omega) h)
      simp [hne, e, h.cnt s hs]
  · intro s d hs hd hp
    show putF (putF F _) _ (rowN s) (colN d) = _
    unfold putF
    simp only
    by_cases e : s = r ∧ d = c
    · obtain ⟨rfl, rfl⟩ := e
      rw [if_pos ⟨rfl, rfl⟩]
      unfold updN at hp ⊢
      rw [if_pos rfl] at hp ⊢
      rw [if_pos rfl]
      have hk3 : ¬ o.kind = 3 := fun h => by rw [if_pos h] at hp; omega
      rw [if_neg hk3]
      simp [hk3]
    · have hne : ¬ 3 * s + d = 3 * r + c := by omega
      unfold updN at hp ⊢
      rw [if_neg hne] at hp ⊢
      rw [if_neg hne]
      rw [if_neg (fun h => e ⟨rowN_inj (by omega) (by omega) h.1, colN_inj (by omega) (by omega) h.2⟩), if_neg (fun h => colN_some d h.2)]
      exact h.is s d hs hd hp
  · intro s d hs hd hp x hx
    have hx : putF (putF F _) _ (rowN s) (colN d) = some x := hx
    unfold putF at hx
    simp only at hx
    by_cases e : s = r ∧ d = c
    · obtain ⟨rfl, rfl⟩ := e
      rw [if_pos ⟨rfl, rfl⟩] at hx
      unfold updN at hp
      rw [if_pos rfl] at hp
      cases hx
      by_cases hk3 : o.kind = 3
      · simp [hk3]
      · rw [if_neg hk3] at hp
        omega
    · have hne : ¬ 3 * s + d = 3 * r + c := by omega
      unfold updN at hp
      rw [if_neg hne] at hp
      rw [if_neg (fun h => e ⟨rowN_inj (by omega) (by omega) h.1, colN_inj (by omega) (by omega) h.2⟩), if_neg (fun h => colN_some d h.2)] at hx
      exact h.no s d hs hd hp x hx

end Go.Proofs.Ytlkikfkchgmmhaa
