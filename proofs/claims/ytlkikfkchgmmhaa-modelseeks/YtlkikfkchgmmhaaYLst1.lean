/-
  The law ModelLast: arrays of its own; where it stands between operations.
-/
import Derived.Test.YtlkikfkchgmmhaaYLaO
namespace Go.Proofs.Ytlkikfkchgmmhaa
open Go.RowKit Go.BigFrame Go.Sort
attribute [local go_sem] size_bstr toList_bstr ls_def

/-- An array that lies in a block of its own. -/
def ArB (w : World) (b : Nat) (t : TypeId) (n : Nat) (f : Nat → Value) : Prop := w.heap[b]? = some (.cells ((List.range n).map f).toArray t (0, 0))
theorem ArB.cell {w : World} {b n : Nat} {t : TypeId} {f : Nat → Value} (h : ArB w b t n f) {i : Nat} (hi : i < n) : w.cell? ⟨b, i, none⟩ = some (f i) := by
  rw [(mcells h).1 i]
  simp [hi]
theorem ArB.frz {w : World} {b n : Nat} {t : TypeId} {f : Nat → Value} (h : ArB w b t n f) : ∀ i, w.frozen? ⟨b, i, none⟩ = false := (mcells h).2
theorem ArB.set {w : World} {b n : Nat} {t : TypeId} {f : Nat → Value} (h : ArB w b t n f) (i : Nat) (v : Value) : ArB (w.setCell ⟨b, i, none⟩ v) b t n (updN f i v) := by
  have h1 := heap_set_same h (o := i) v
  unfold ArB
  rw [h1]
  congr 2
  apply Array.ext_getElem?
  intro j
  rw [Array.getElem?_setIfInBounds]
  by_cases e : i = j
  · subst e
    by_cases hi : i < n <;> simp [hi, updN]
  · rw [if_neg e]
    by_cases hj : j < n
    · have : j ≠ i := fun h => e h.symm
      simp [hj, updN, this]
    · simp [hj]
theorem ArB.keep {w w' : World} {b n : Nat} {t : TypeId} {f : Nat → Value} (h : ArB w b t n f) (e : w'.heap[b]? = w.heap[b]?) : ArB w' b t n f := e.trans h
theorem ArB.lt {w : World} {b n : Nat} {t : TypeId} {f : Nat → Value} (h : ArB w b t n f) : b < w.heap.size := blk_lt h
def cnV (f : Nat → Nat) (i : Nat) : Value := .int .u64 (f i : Int)
def vlV (f : Nat → List UInt8) (i : Nat) : Value := .string (bstr (f i))
theorem cnV_upd (f : Nat → Nat) (i k : Nat) : updN (cnV f) i (.int .u64 (k : Int)) = cnV (updN f i k) := by
  funext j
  unfold updN cnV
  by_cases e : j = i <;> simp [e]
theorem vlV_upd (f : Nat → List UInt8) (i : Nat) (l : List UInt8) : updN (vlV f) i (.string (bstr l)) = vlV (updN f i l) := by
  funext j
  unfold updN vlV
  by_cases e : j = i <;> simp [e]

/-- A row of operations by small numbers. -/
def AcRow (w : World) (b off : Nat) (l : List Ac) : Prop := ∀ i (h : i < l.length), AcB w b (off + i * 6) l[i]

/-- Where the law stands: the model's cells and its own three arrays. -/
structure LWd (N g m : Nat) (wr : World) (n : Nat) (F : Mf) (cn : Nat → Nat) (vl : Nat → List UInt8) (vr : Nat → Nat) : Prop where
  gN : g < N
  mN : m < N
  md : Md wr g m n F
  a1 : ArB wr N 42 4 (cnV cn)
  a2 : ArB wr (N + 1) 43 12 (vlV vl)
  a3 : ArB wr (N + 1 + 1) 44 12 (cnV vr)
theorem LWd.keep {N g m : Nat} {wr wx : World} {n : Nat} {F : Mf} {cn : Nat → Nat} {vl : Nat → List UInt8} {vr : Nat → Nat} (h : LWd N g m wr n F cn vl vr) (e : ∀ j, j < N + 3 → wx.heap[j]? = wr.heap[j]?) : LWd N g m wx n F cn vl vr :=
  ⟨h.gN, h.mN, h.md.kept (e _ (by have := h.gN; omega)) (e _ (by have := h.mN; omega)), h.a1.keep (e _ (by omega)), h.a2.keep (e _ (by omega)), h.a3.keep (e _ (by omega))⟩
theorem LWd.lt {N g m : Nat} {wr : World} {n : Nat} {F : Mf} {cn : Nat → Nat} {vl : Nat → List UInt8} {vr : Nat → Nat} (h : LWd N g m wr n F cn vl vr) : N + 3 ≤ wr.heap.size := by
  have := h.a3.lt
  omega
theorem LWd.below {N g m : Nat} {wr wx : World} {n B : Nat} {F : Mf} {cn : Nat → Nat} {vl : Nat → List UInt8} {vr : Nat → Nat} (h : LWd N g m wr n F cn vl vr) (hb : Below B wr wx) (hB : N + 3 ≤ B) : LWd N g m wx n F cn vl vr := h.keep fun j hj => hb.block j (by omega)
/-- What a Do leaves. -/
theorem LWd.do {N g m : Nat} {wr wx : World} {n n' : Nat} {F F' : Mf} {cn : Nat → Nat} {vl : Nat → List UInt8} {vr : Nat → Nat} (h : LWd N g m wr n F cn vl vr) (hM : Md wx g m n' F') (hk : Kp wr wx (fun i => i = m)) : LWd N g m wx n' F' cn vl vr :=
  ⟨h.gN, h.mN, hM, h.a1.keep (hk.block _ h.a1.lt (by have := h.mN; omega)), h.a2.keep (hk.block _ h.a2.lt (by have := h.mN; omega)), h.a3.keep (hk.block _ h.a3.lt (by have := h.mN; omega))⟩
theorem LWd.put1 {N g m : Nat} {wr : World} {n : Nat} {F : Mf} {cn : Nat → Nat} {vl : Nat → List UInt8} {vr : Nat → Nat} (h : LWd N g m wr n F cn vl vr) (i k : Nat) : LWd N g m (wr.setCell ⟨N, i, none⟩ (.int .u64 (k : Int))) n F (updN cn i k) vl vr :=
  ⟨h.gN, h.mN, h.md.kept (heap_set_other _ (by have := h.gN; omega)) (heap_set_other _ (by have := h.mN; omega)), by rw [← cnV_upd]; exact h.a1.set i _, h.a2.keep (heap_set_other _ (by omega)), h.a3.keep (heap_set_other _ (by omega))⟩
theorem LWd.put2 {N g m : Nat} {wr : World} {n : Nat} {F : Mf} {cn : Nat → Nat} {vl : Nat → List UInt8} {vr : Nat → Nat} (h : LWd N g m wr n F cn vl vr) (i : Nat) (x : List UInt8) : LWd N g m (wr.setCell ⟨N + 1, i, none⟩ (.string (bstr x))) n F cn (updN vl i x) vr :=
  ⟨h.gN, h.mN, h.md.kept (heap_set_other _ (by have := h.gN; omega)) (heap_set_other _ (by have := h.mN; omega)), h.a1.keep (heap_set_other _ (by omega)), by rw [← vlV_upd]; exact h.a2.set i _, h.a3.keep (heap_set_other _ (by omega))⟩
theorem LWd.put3 {N g m : Nat} {wr : World} {n : Nat} {F : Mf} {cn : Nat → Nat} {vl : Nat → List UInt8} {vr : Nat → Nat} (h : LWd N g m wr n F cn vl vr) (i k : Nat) : LWd N g m (wr.setCell ⟨N + 1 + 1, i, none⟩ (.int .u64 (k : Int))) n F cn vl (updN vr i k) :=
  ⟨h.gN, h.mN, h.md.kept (heap_set_other _ (by have := h.gN; omega)) (heap_set_other _ (by have := h.mN; omega)), h.a1.keep (heap_set_other _ (by omega)), h.a2.keep (heap_set_other _ (by omega)), by rw [← cnV_upd]; exact h.a3.set i _⟩

theorem RzB.set1 {w : World} {b : Nat} {r : Rz} (h : RzB w b r) (f : Bool) : RzB (w.setCell ⟨b, 1, none⟩ (.bool f)) b ⟨r.err, f, r.row, r.val, r.ver⟩ := heap_set_same h (o := 1) _
theorem RzB.set4 {w : World} {b : Nat} {r : Rz} (h : RzB w b r) (n : Int) : RzB (w.setCell ⟨b, 4, none⟩ (.int .u64 n)) b ⟨r.err, r.found, r.row, r.val, n⟩ := heap_set_same h (o := 4) _
theorem kp_P5 {w W : World} {P : Nat} (p q r s t : Value) (h : Kp w W (fun j => j = P)) : Kp w (((((W.setCell ⟨P, 0, none⟩ p).setCell ⟨P, 1, none⟩ q).setCell ⟨P, 2, none⟩ r).setCell ⟨P, 3, none⟩ s).setCell ⟨P, 4, none⟩ t) (fun j => j = P) := ((((h.setCell _ (.inl rfl)).setCell _ (.inl rfl)).setCell _ (.inl rfl)).setCell _ (.inl rfl)).setCell _ (.inl rfl)
theorem updN_two {α : Type} (f : Nat → α) (i : Nat) (x y : α) : updN (updN f i x) i y = updN f i y := by
  funext j
  unfold updN
  by_cases e : j = i <;> simp [e]
theorem updN_self {α : Type} (f : Nat → α) (i : Nat) (x : α) : updN f i x i = x := if_pos rfl
theorem updN_le {f : Nat → Nat} {i n : Nat} (h : ∀ r, f r ≤ n) : ∀ r, updN f i (f i + 1) r ≤ n + 1 := by
  intro r
  unfold updN
  have := h r
  have := h i
  split <;> omega
theorem LWd.drew {N g m : Nat} {wr : World} {n : Nat} {F : Mf} {cn : Nat → Nat} {vl : Nat → List UInt8} {vr : Nat → Nat} (h : LWd N g m wr n F cn vl vr) : LWd N g m wr.drew n F cn vl vr := h.keep fun _ _ => rfl
theorem kpcd {w w' : World} {m b o : Nat} {v : Value} (hk : Kp w.drew w' (fun j => j = m)) (hS : ¬ b = m) (h : w.cell? ⟨b, o, none⟩ = some v) : w'.cell? ⟨b, o, none⟩ = some v := by
  have h9 : w.drew.cell? ⟨b, o, none⟩ = some v := h
  rw [World.cell?_of_block (hk.block b (block_lt_of_cell h9) hS)]
  exact h9
/-- What the law holds an answer against, ahead of the new count. -/
def preW (k : Int) (there ch : Bool) (val : List UInt8) (ver : Int) : Rz :=
  if k = 1 then rz0
  else if k = 2 then (if there then ⟨0, true, [], val, ver⟩ else rz0)
  else if ch then ⟨0, true, [], [], 0⟩
  else if k = 3 then rz0
  else if there then ⟨0, false, [], val, ver⟩ else rz0
theorem preW_yes {k : Int} {there has same : Bool} {val : List UInt8} {ver n : Int} (hk : 1 ≤ k ∧ k ≤ 4) (h : chgW k there has same = true) : ansW k there true val ver n = ⟨(preW k there true val ver).err, (preW k there true val ver).found, (preW k there true val ver).row, (preW k there true val ver).val, n + 1⟩ := by
  obtain rfl | rfl | rfl | rfl : k = 1 ∨ k = 2 ∨ k = 3 ∨ k = 4 := by omega
  · simp [ansW, preW]
  · simp [chgW] at h
  · simp [ansW, preW]
  · simp [ansW, preW]
theorem preW_no {k : Int} {there has same : Bool} {val : List UInt8} {ver n : Int} (hk : 1 ≤ k ∧ k ≤ 4) (h : chgW k there has same = false) : ansW k there false val ver n = preW k there false val ver := by
  obtain rfl | rfl | rfl | rfl : k = 1 ∨ k = 2 ∨ k = 3 ∨ k = 4 := by omega
  · simp [chgW] at h
  · simp [ansW, preW]
  · simp [ansW, preW]
  · simp [ansW, preW]
theorem rz_neq (k : Int) (g : Bool) (r v : List UInt8) (n k' : Int) (g' : Bool) (r' v' : List UInt8) (n' : Int) (w : World) : (binOp .neq 29 (.agg #[.int .i64 k, .bool g, .string (bstr r), .string (bstr v), .int .u64 n]) (.agg #[.int .i64 k', .bool g', .string (bstr r'), .string (bstr v'), .int .u64 n'])).run Try.prog w = .ok (.bool (!eqR ⟨k, g, r, v, n⟩ ⟨k', g', r', v', n'⟩)) w := by
  have := eqFields_rz ⟨k, g, r, v, n⟩ ⟨k', g', r', v', n'⟩ w
  rw [run_neq_struct, this]
  rfl
theorem rz_self (k : Int) (g : Bool) (r v : List UInt8) (n : Int) (w : World) : (binOp .neq 29 (.agg #[.int .i64 k, .bool g, .string (bstr r), .string (bstr v), .int .u64 n]) (.agg #[.int .i64 k, .bool g, .string (bstr r), .string (bstr v), .int .u64 n])).run Try.prog w = .ok (.bool false) w := by
  rw [rz_neq, eqR_iff.2 rfl]
  rfl
theorem doF_inv {F : Mf} (h : FInv F) (a : Ac) : FInv (doF F (ofQ a)) := h.do (ofQ_len a).1 (ofQ_len a).2.1 (ofQ_len a).2.2
theorem last_num (r c : Nat) : 3 * (r % 4) + c % 3 < 12 ∧ ((r : Int) % 4 = ((r % 4 : Nat) : Int)) ∧ (3 * ((r : Int) % 4) + (c : Int) % 3 = ((3 * (r % 4) + c % 3 : Nat) : Int)) ∧ r % 4 < 4 ∧ c % 3 < 3 := by omega

/-- What a get answers, by the law's state. -/
def getW (vl : Nat → List UInt8) (vr : Nat → Nat) (k : Nat) : Rz := if 0 < vr k then ⟨0, true, [], vl k, (vr k : Int)⟩ else rz0
theorem LWd.get {N g m : Nat} {W : World} {n : Nat} {F : Mf} {cn : Nat → Nat} {vl : Nat → List UInt8} {vr : Nat → Nat} (h : LWd N g m W n F cn vl vr) (hS : LSt F cn vl vr) (hF : FInv F) (hcn : ∀ r, cn r ≤ 80) (hgm : g ≠ m) (hn : n < 1000) {k : Nat} (hk : k < 12) :
    Calls Try.prog 10 #[.pointer (some ⟨g, 0, none⟩), oqV ⟨2, [114, UInt8.ofNat (k / 3)], [99, UInt8.ofNat (k % 3)], [], false, []⟩] W fun e w' => e = .returned (rzV (getW vl vr k)) ∧ LWd N g m w' (n + 2) F cn vl vr ∧ Kp W w' (fun j => j = m) := by
  have hm : mayO ⟨2, [114, UInt8.ofNat (k / 3)], [99, UInt8.ofNat (k % 3)], [], false, []⟩ = true := by simp [mayO, mayQ]
  have h9 := YDo_any g m n F ⟨2, [114, UInt8.ofNat (k / 3)], [99, UInt8.ofNat (k % 3)], [], false, []⟩ W h.md hgm hF (by omega) (by simp) (show 2 ≤ bigL by decide) (show 2 ≤ bigL by decide)
  have ha := hS.ans (r := k / 3) (c := k % 3) (o := ⟨2, [114, UInt8.ofNat (k / 3)], [99, UInt8.ofNat (k % 3)], [], false, []⟩) (by omega) (by omega) rfl rfl hm ⟨by simp only; omega, by simp only; omega⟩ (by have := hcn (k / 3); omega)
  have hd := (hS.step (r := k / 3) (c := k % 3) (o := ⟨2, [114, UInt8.ofNat (k / 3)], [99, UInt8.ofNat (k % 3)], [], false, []⟩) (by omega) (by omega) rfl rfl hm ⟨by simp only; omega, by simp only; omega⟩ (by have := hcn (k / 3); omega)).1 rfl
  have e : 3 * (k / 3) + k % 3 = k := by omega
  rw [e] at ha
  have hg : getW vl vr k = ansW 2 (decide (0 < vr k)) (chgW 2 (decide (0 < vr k)) false (decide (vl k = []))) (vl k) (vr k) (cn (k / 3)) := by
    unfold getW ansW
    by_cases hp : 0 < vr k <;> simp [hp]
  refine h9.mono fun e w' ⟨h1, h2, h3⟩ => ?_
  have h2 : Md w' g m (n + 2) (doF F ⟨2, [114, UInt8.ofNat (k / 3)], [99, UInt8.ofNat (k % 3)], [], false, []⟩) := h2
  rw [hd] at h2
  exact ⟨by rw [h1, hg, ← ha]; rfl, h.do h2 h3, h3⟩

end Go.Proofs.Ytlkikfkchgmmhaa
