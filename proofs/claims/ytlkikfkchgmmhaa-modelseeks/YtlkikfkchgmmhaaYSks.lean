/-
  The law ModelSeeks: what it looks for, and that a seek finds just that.
-/
import Derived.Test.YtlkikfkchgmmhaaYDo5
import Derived.Test.YtlkikfkchgmmhaaYLst1
namespace Go.Proofs.Ytlkikfkchgmmhaa
open Go.RowKit Go.BigFrame Go.Sort

/-- Every row is one of the four. -/
def Rws (F : Mf) : Prop := ∀ r c x, F r c = some x → ∃ k, k < 4 ∧ r = rowN k
theorem Rws.none : Rws (fun _ _ => none) := fun _ _ _ h => by cases h
theorem Rws.puts {F : Mf} (h : Rws F) {k : Nat} (hk : k < 4) (l : List Cl) : (∀ x ∈ l, x.row = rowN k) → Rws (putsF F l) := by
  induction l generalizing F with
  | nil => exact fun _ => h
  | cons a l ih =>
    intro hl
    refine ih (F := putF F a) (fun r c x hx => ?_) fun x hx => hl x (List.mem_cons_of_mem _ hx)
    unfold putF at hx
    split at hx
    · rename_i e
      exact ⟨k, hk, e.1.trans (hl a List.mem_cons_self)⟩
    · exact h r c x hx
theorem Rws.do {F : Mf} (h : Rws F) {o : Oq} {k : Nat} (hk : k < 4) (ho : o.row = rowN k) : Rws (doF F o) :=
  h.puts hk _ fun x hx => (effC_fit o _ x hx).1.trans ho
theorem Rws.len {F : Mf} (h : Rws F) : ∀ r c x, F r c = some x → r.length ≤ bigL := fun r c x hx => by
  obtain ⟨k, _, rfl⟩ := h r c x hx
  exact show 2 ≤ bigL by decide

/-- What the law looks for, when i rows are gone through (from the last on). -/
def wntW (vl : Nat → List UInt8) (vr : Nat → Nat) (low : List UInt8) (c : Nat) : Nat → Rz
  | 0 => rz0
  | i + 1 => if ls (rowN (3 - i)) low = false ∧ 0 < vr (3 * (3 - i) + c) then ⟨0, true, rowN (3 - i), vl (3 * (3 - i) + c), (vr (3 * (3 - i) + c) : Int)⟩ else wntW vl vr low c i
theorem wntW_succ (vl : Nat → List UInt8) (vr : Nat → Nat) (low : List UInt8) (c : Nat) {k : Nat} (hk : k < 4) : wntW vl vr low c (4 - k) = if ls (rowN k) low = false ∧ 0 < vr (3 * k + c) then ⟨0, true, rowN k, vl (3 * k + c), (vr (3 * k + c) : Int)⟩ else wntW vl vr low c (4 - (k + 1)) := by
  rcases (show k = 0 ∨ k = 1 ∨ k = 2 ∨ k = 3 by omega) with rfl | rfl | rfl | rfl <;> rfl
theorem ls_rowN : ls (rowN 0) (rowN 1) = true ∧ ls (rowN 0) (rowN 2) = true ∧ ls (rowN 0) (rowN 3) = true ∧ ls (rowN 1) (rowN 2) = true ∧ ls (rowN 1) (rowN 3) = true ∧ ls (rowN 2) (rowN 3) = true := by decide
theorem mt_iff {F : Mf} {cn : Nat → Nat} {vl : Nat → List UInt8} {vr : Nat → Nat} (h : LSt F cn vl vr) (low : List UInt8) {k c : Nat} (hk : k < 4) (hc : c < 3) : Mt F low (colN c) (rowN k) ↔ (ls (rowN k) low = false ∧ 0 < vr (3 * k + c)) := by
  unfold Mt
  refine and_congr Iff.rfl ⟨fun ⟨x, hx, hg⟩ => ?_, fun hv => ⟨_, h.is k c hk hc hv, rfl⟩⟩
  by_cases hv : 0 < vr (3 * k + c)
  · exact hv
  · have := h.no k c hk hc (by omega) x hx
    rw [this] at hg
    cases hg
theorem seek_want {F : Mf} {cn : Nat → Nat} {vl : Nat → List UInt8} {vr : Nat → Nat} (h : LSt F cn vl vr) (hR : Rws F) {low : List UInt8} {c : Nat} (hc : c < 3) {z : Rz} (hz : SeekOk F low (colN c) z) : z = wntW vl vr low c 4 := by
  have m0 := mt_iff h low (show 0 < 4 by omega) hc
  have m1 := mt_iff h low (show 1 < 4 by omega) hc
  have m2 := mt_iff h low (show 2 < 4 by omega) hc
  have m3 := mt_iff h low (show 3 < 4 by omega) hc
  have hlen : ∀ k, (rowN k).length ≤ bigL := fun k => show 2 ≤ bigL by decide
  obtain ⟨l01, l02, l03, l12, l13, l23⟩ := ls_rowN
  simp only [wntW, Nat.sub_zero, Nat.reduceSub]
  rcases hz with ⟨rfl, hno⟩ | ⟨r, x, hm, hx, rfl, hmin⟩
  · rw [if_neg (mt m0.2 (hno _ (hlen _))), if_neg (mt m1.2 (hno _ (hlen _))), if_neg (mt m2.2 (hno _ (hlen _))), if_neg (mt m3.2 (hno _ (hlen _)))]
  · obtain ⟨k, hk, rfl⟩ := hR _ _ _ hx
    have hv := ((mt_iff h low hk hc).1 hm).2
    rw [h.is k c hk hc hv] at hx
    cases hx
    have hnot : ∀ j, ls (rowN j) (rowN k) = true → ¬ Mt F low (colN c) (rowN j) := fun j hj hM => by
      have := hmin _ (hlen j) hM
      rw [hj] at this
      cases this
    rcases (show k = 0 ∨ k = 1 ∨ k = 2 ∨ k = 3 by omega) with rfl | rfl | rfl | rfl
    · rw [if_pos (m0.1 hm)]
    · rw [if_neg (mt m0.2 (hnot 0 l01)), if_pos (m1.1 hm)]
    · rw [if_neg (mt m0.2 (hnot 0 l02)), if_neg (mt m1.2 (hnot 1 l12)), if_pos (m2.1 hm)]
    · rw [if_neg (mt m0.2 (hnot 0 l03)), if_neg (mt m1.2 (hnot 1 l13)), if_neg (mt m2.2 (hnot 2 l23)), if_pos (m3.1 hm)]

/-- Where the law stands. -/
structure KSt (F : Mf) (cn : Nat → Nat) (vl : Nat → List UInt8) (vr : Nat → Nat) : Prop where
  st : LSt F cn vl vr
  fi : FInv F
  rw : Rws F
theorem KSt.get {g m : Nat} {W : World} {n : Nat} {F : Mf} {cn : Nat → Nat} {vl : Nat → List UInt8} {vr : Nat → Nat} (hM : Md W g m n F) (hK : KSt F cn vl vr) (hcn : ∀ r, cn r ≤ 80) (hgm : g ≠ m) (hn : n < 1000) {r c : Nat} (hr : r < 4) (hc : c < 3) :
    Calls Try.prog 10 #[.pointer (some ⟨g, 0, none⟩), oqV ⟨2, rowN r, colN c, [], false, []⟩] W fun e w' => e = .returned (rzV (getW vl vr (3 * r + c))) ∧ Md w' g m (n + 2) F ∧ Kp W w' (fun j => j = m) := by
  have hm : mayO ⟨2, rowN r, colN c, [], false, []⟩ = true := by simp [mayO, mayQ, rowN, colN]
  have h9 := YDo_any g m n F ⟨2, rowN r, colN c, [], false, []⟩ W hM hgm hK.fi (by omega) (by simp) (show 2 ≤ bigL by decide) (show 2 ≤ bigL by decide)
  have ha := hK.st.ans (r := r) (c := c) (o := ⟨2, rowN r, colN c, [], false, []⟩) hr hc rfl rfl hm ⟨by simp only; omega, by simp only; omega⟩ (by have := hcn r; omega)
  have hd := (hK.st.step (r := r) (c := c) (o := ⟨2, rowN r, colN c, [], false, []⟩) hr hc rfl rfl hm ⟨by simp only; omega, by simp only; omega⟩ (by have := hcn r; omega)).1 rfl
  have hg : getW vl vr (3 * r + c) = ansW 2 (decide (0 < vr (3 * r + c))) (chgW 2 (decide (0 < vr (3 * r + c))) false (decide (vl (3 * r + c) = []))) (vl (3 * r + c)) (vr (3 * r + c)) (cn r) := by
    unfold getW ansW
    by_cases hp : 0 < vr (3 * r + c) <;> simp [hp]
  refine h9.mono fun e w' ⟨h1, h2, h3⟩ => ?_
  have h2 : Md w' g m (n + 2) (doF F ⟨2, rowN r, colN c, [], false, []⟩) := h2
  rw [hd] at h2
  exact ⟨by rw [h1, hg, ← ha]; rfl, h2, h3⟩
theorem KSt.seek {g m : Nat} {W : World} {n : Nat} {F : Mf} {cn : Nat → Nat} {vl : Nat → List UInt8} {vr : Nat → Nat} (hM : Md W g m n F) (hK : KSt F cn vl vr) (low : Nat) {c : Nat} (hc : c < 3) :
    Calls Try.prog 10 #[.pointer (some ⟨g, 0, none⟩), oqV ⟨5, rowN low, colN c, [], false, []⟩] W fun e w' => e = .returned (rzV (wntW vl vr (rowN low) c 4)) ∧ Below W.heap.size W w' := by
  have hm : mayO ⟨5, rowN low, colN c, [], false, []⟩ = true := by simp [mayO, mayQ, rowN, colN]
  refine (YDo5_any g m n F ⟨5, rowN low, colN c, [], false, []⟩ W hM hK.fi hK.rw.len rfl hm (show 2 ≤ bigL by decide)).mono fun e w' ⟨z, h1, h2, h3⟩ => ?_
  rw [seek_want hK.st hK.rw hc h2] at h1
  exact ⟨h1, h3⟩
/-- One operation more. -/
theorem KSt.do {F : Mf} {cn : Nat → Nat} {vl : Nat → List UInt8} {vr : Nat → Nat} {i : Nat} (hK : KSt F cn vl vr) (hcn : ∀ r, cn r ≤ i) (hi : i < 80) (a : Ac) : ∃ cn' vl' vr', KSt (doF F (ofQ a)) cn' vl' vr' ∧ ∀ r, cn' r ≤ i + 1 := by
  obtain ⟨hmay, hk1, hk4, horow, hocol⟩ := ofQ_may a
  obtain ⟨_, _, _, hr4, hc3⟩ := last_num a.r a.c
  obtain ⟨s0, s1⟩ := hK.st.step hr4 hc3 horow hocol hmay ⟨hk1, hk4⟩ (by have := hcn (a.r % 4); omega)
  have hF := doF_inv hK.fi a
  have hR := hK.rw.do hr4 horow
  cases hch : chgW (ofQ a).kind (decide (0 < vr (3 * (a.r % 4) + a.c % 3))) (ofQ a).has (decide (vl (3 * (a.r % 4) + a.c % 3) = (ofQ a).exp)) with
  | false => exact ⟨cn, vl, vr, ⟨by rw [s0 hch]; exact hK.st, hF, hR⟩, fun r => Nat.le_succ_of_le (hcn r)⟩
  | true => exact ⟨_, _, _, ⟨s1 hch, hF, hR⟩, updN_le hcn⟩

end Go.Proofs.Ytlkikfkchgmmhaa
