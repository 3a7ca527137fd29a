/-
  A list of seven cells that may not be, three of them with texts made of bytes 0: whatever order their parts are made in, the list stands in a new block, and nothing else has turned.
-/
import Derived.Test.YtalkhkndelpdfaaKCell
import Derived.Test.YtalkhkndelpdfaaMade
import Derived.Deep.RegionHeld3
namespace Go.Proofs.Ytalkhkndelpdfaa
open Go.RowKit Go.BigFrame
attribute [local go_sem] size_bstr toList_bstr

def tl : Nat → Code → Code
  | n + 1, .seq _ r => tl n r
  | _, c => c
def hd : Code → Code
  | .seq l _ => l
  | c => c
theorem getD_same (t : Array Value) (i : Nat) (v : Value) (h : i < t.size) : (t.setIfInBounds i v).getD i undef = v := by
  simp [Array.getD, h]
theorem getD_ne (t : Array Value) (i j : Nat) (v : Value) (h : i ≠ j) : (t.setIfInBounds i v).getD j undef = t.getD j undef := by
  rw [Array.getD_eq_getD_getElem?, Array.getD_eq_getD_getElem?, Array.getElem?_setIfInBounds_ne h]
/-- Three slots next to one another are filled. -/
def put3 (a : Act) (i : Nat) (x y z : Value) : Act := { a with tmps := ((a.tmps.setIfInBounds i x).setIfInBounds (i + 1) y).setIfInBounds (i + 2) z }
theorem put3_comm (a : Act) (i j : Nat) (x y z x' y' z' : Value) (h : i + 3 ≤ j) : put3 (put3 a j x' y' z') i x y z = put3 (put3 a i x y z) j x' y' z' := by
  have c : ∀ (t : Array Value) (k l : Nat) (u v : Value), k ≠ l → (t.setIfInBounds k u).setIfInBounds l v = (t.setIfInBounds l v).setIfInBounds k u := fun t k l u v hkl => Array.setIfInBounds_comm u v hkl
  unfold put3
  simp only [Act.mk.injEq, and_true]
  rw [c _ (j + 2) i _ _ (by omega), c _ (j + 1) i _ _ (by omega), c _ j i _ _ (by omega), c _ (j + 2) (i + 1) _ _ (by omega), c _ (j + 1) (i + 1) _ _ (by omega), c _ j (i + 1) _ _ (by omega), c _ (j + 2) (i + 2) _ _ (by omega), c _ (j + 1) (i + 2) _ _ (by omega), c _ j (i + 2) _ _ (by omega)]
theorem wpAnyH_turn {P : Program} {md : Region.Mode} {ops : Array Oper} {Q : Exit → Act → World → Prop} {S S' : World → Prop} (hS : ∀ w, S w → S' w) : ∀ (fuel : Nat) (listed : Array Bool) (a : Act) (w : World), wpAnyH P md ops Q S fuel listed a w → wpAnyH P md ops Q S' fuel listed a w
  | 0, _, _, _, h => h
  | fuel + 1, _, _, _, h => ⟨h.1, fun i hi => wpOp_mono (fun a' w' h' => ⟨hS w' h'.1, wpAnyH_turn hS fuel _ a' w' h'.2⟩) (h.2 i hi)⟩
theorem old_block {W : World} {b : Nat} {x : Obj} (o : Obj) (h : W.heap[b]? = some x) : (W.alloc o).heap[b]? = some x :=
  (((RowKit.Below.refl _ W).alloc (Nat.le_refl _) o).block b (lt_of_block h)).trans h
/-- Block b is a new row of n bytes. -/
def Zb (z : Array Value) (b : Nat) (W : World) : Prop := W.heap[b]? = some (.cells z 5 (0, 0))
theorem cvw (W : World) (b n : Nat) (h : Zb (zs n) b W) (hn : n ≤ 2000000) :
    (convert 22 9 (.slice (some ⟨b, 0, none⟩) n n)).run Try.prog W = .ok (.string (bstr (zeros n))) W := by
  have hown : W.ownsRow 0 5 1 (.slice (some ⟨b, 0, none⟩) n n) n (Lib.byteCells (zeros n)) := by
    have hl : (zs n).size = n := by rw [← Array.length_toList, zs_toList, Lib.byteCells_length, zeros_length]
    refine ⟨by rw [Lib.byteCells_length, zeros_length]; omega, .inr ⟨b, n, zs n, rfl, Nat.zero_le _, h, Nat.le_refl _, by unfold maxLen; omega, by omega, ?_⟩⟩
    rw [zs_toList, List.take_of_length_le (by rw [Lib.byteCells_length, zeros_length]; omega)]
  exact run_convert_own hown Try.underlying22 Try.underlying5 Try.underlying9

theorem getD_get (t : Array Value) (i : Nat) (h : i < t.size) {v : Value} (e : t.getD i undef = v) : t[i]'h = v := by
  rw [← e]
  simp [Array.getD, h]
/-- The cells of the list. -/
def badCells (y33 y17 yB : List UInt8) : Array Value := #[.string (bstr [114]), .string (bstr []), .int .u64 0, .bool false, .string (bstr []), .string (bstr []), .string (bstr []), .int .u64 1, .bool false, .string (bstr []), .string (bstr y33), .string (bstr []), .int .u64 1, .bool false, .string (bstr []), .string (bstr [114]), .string (bstr y17), .int .u64 1, .bool false, .string (bstr []), .string (bstr [114]), .string (bstr []), .int .u64 1099511627777, .bool false, .string (bstr []), .string (bstr [114]), .string (bstr []), .int .u64 1, .bool true, .string (bstr [118]), .string (bstr [114]), .string (bstr []), .int .u64 1, .bool false, .string (bstr yB)]
def BadAt (y33 y17 yB : List UInt8) (W : World) (n : Nat) : Prop := ∀ j v, (badCells y33 y17 yB)[j]? = some v → W.cell? ⟨n, j, none⟩ = some v
def base4 (a : Act) : Act := { a with tmps := (((a.tmps.setIfInBounds 191 (.agg #[.string (bstr [114]), .string (bstr []), .int .u64 0, .bool false, .string (bstr [])])).setIfInBounds 192 (.agg #[.string (bstr []), .string (bstr []), .int .u64 1, .bool false, .string (bstr [])])).setIfInBounds 199 (.agg #[.string (bstr [114]), .string (bstr []), .int .u64 1099511627777, .bool false, .string (bstr [])])).setIfInBounds 200 (.agg #[.string (bstr [114]), .string (bstr []), .int .u64 1, .bool true, .string (bstr [118])]) }
theorem base4_defers (a : Act) : (base4 a).defers = a.defers := rfl
def fin3 (y33 y17 yB : List UInt8) (a : Act) (p q r : Value) : Act := put3 (put3 (put3 (base4 a) 193 p (.string (bstr y33)) (.agg #[.string (bstr y33), .string (bstr []), .int .u64 1, .bool false, .string (bstr [])])) 196 q (.string (bstr y17)) (.agg #[.string (bstr [114]), .string (bstr y17), .int .u64 1, .bool false, .string (bstr [])])) 201 r (.string (bstr yB)) (.agg #[.string (bstr [114]), .string (bstr []), .int .u64 1, .bool false, .string (bstr yB)])
def finA (y33 y17 yB : List UInt8) (a : Act) (p q r s : Value) : Act := { fin3 y33 y17 yB a p q r with tmps := ((fin3 y33 y17 yB a p q r).tmps.setIfInBounds 204 s).setIfInBounds 20 s }
attribute [local go_sem] getD_same getD_ne

set_option maxHeartbeats 4000000 in
set_option maxRecDepth 100000 in
theorem bad_region (z33 z17 zB : Array Value) (y33 y17 yB : List UInt8) (a : Act) (X : World) (Q : Exit → Act → World → Prop) (hsz : a.tmps.size = 263)
    (m33 : ∀ W : World, (Instr.makeSlice 22 (.int .i64 33) (.int .i64 33)).run Try.prog W = .ok (.slice (some ⟨W.heap.size, 0, none⟩) 33 33) (W.alloc (.cells z33 5))) (c33 : ∀ (W : World) (b : Nat), Zb z33 b W → (convert 22 9 (.slice (some ⟨b, 0, none⟩) 33 33)).run Try.prog W = .ok (.string (bstr y33)) W)
    (m17 : ∀ W : World, (Instr.makeSlice 22 (.int .i64 17) (.int .i64 17)).run Try.prog W = .ok (.slice (some ⟨W.heap.size, 0, none⟩) 17 17) (W.alloc (.cells z17 5))) (c17 : ∀ (W : World) (b : Nat), Zb z17 b W → (convert 22 9 (.slice (some ⟨b, 0, none⟩) 17 17)).run Try.prog W = .ok (.string (bstr y17)) W)
    (mB : ∀ W : World, (Instr.makeSlice 22 (.int .i64 65537) (.int .i64 65537)).run Try.prog W = .ok (.slice (some ⟨W.heap.size, 0, none⟩) 65537 65537) (W.alloc (.cells zB 5))) (cB : ∀ (W : World) (b : Nat), Zb zB b W → (convert 22 9 (.slice (some ⟨b, 0, none⟩) 65537 65537)).run Try.prog W = .ok (.string (bstr yB)) W)
    (h : ∀ (n : Nat) (p q r : Value) (wx : World), BadAt y33 y17 yB wx n → RowKit.Below X.heap.size X wx → Q .normal (finA y33 y17 yB a p q r (.slice (some ⟨n, 0, none⟩) 7 7)) wx) :
    (hd (tl 13 (Try.f3.body.getD .skip))).wp Try.prog Q a X := by
  have hE0 : (⟨#[]⟩ : ByteArray) = bstr [] := rfl
  have hE6 : (⟨#[114]⟩ : ByteArray) = bstr [114] := rfl
  have hE7 : (⟨#[118]⟩ : ByteArray) = bstr [118] := rfl
  simp only [Try.f3, Option.getD_some, tl, hd]
  refine wp_region_noPanic ?_
  refine wp_region_held (S := fun _ => True) (by kernel_rfl) ?_
  change wpAnyH _ _ _ _ _ _ _ _ (World.drew _)
  refine wpAnyH_take (i := 0) (v := .agg #[.string (bstr [114]), .string (bstr []), .int .u64 0, .bool false, .string (bstr [])]) rfl (by kernel_rfl) (by kernel_rfl) (by kernel_rfl) (fun _ _ _ h => h) (Or.inl ⟨by rfl, ?y0⟩) trivial ?_
  case y0 => (intro w _; go_simp; try with_reducible rfl)
  refine wpAnyH_take (i := 1) (v := .agg #[.string (bstr []), .string (bstr []), .int .u64 1, .bool false, .string (bstr [])]) rfl (by kernel_rfl) (by kernel_rfl) (by kernel_rfl) (fun _ _ _ h => h) (Or.inl ⟨by rfl, ?y1⟩) trivial ?_
  case y1 => (intro w _; go_simp; try with_reducible rfl)
  refine wpAnyH_take (i := 8) (v := .agg #[.string (bstr [114]), .string (bstr []), .int .u64 1099511627777, .bool false, .string (bstr [])]) rfl (by kernel_rfl) (by kernel_rfl) (by kernel_rfl) (fun _ _ _ h => h) (Or.inl ⟨by rfl, ?y8⟩) trivial ?_
  case y8 => (intro w _; go_simp; try with_reducible rfl)
  refine wpAnyH_take (i := 9) (v := .agg #[.string (bstr [114]), .string (bstr []), .int .u64 1, .bool true, .string (bstr [118])]) rfl (by kernel_rfl) (by kernel_rfl) (by kernel_rfl) (fun _ _ _ h => h) (Or.inl ⟨by rfl, ?y9⟩) trivial ?_
  case y9 => (intro w _; go_simp; try with_reducible rfl)
  simp only [Act.put]
  obtain ⟨t1, ht1⟩ : ∃ t1, t1 = (base4 a).tmps := ⟨_, rfl⟩
  change wpAnyH _ _ _ _ _ _ _ { tmps := (base4 a).tmps, defers := a.defers } _
  rw [← ht1]
  have z1 : t1.size = 263 := by rw [ht1]; simp [base4, hsz]
  have e1_191 : t1.getD 191 undef = .agg #[.string (bstr [114]), .string (bstr []), .int .u64 0, .bool false, .string (bstr [])] := by rw [ht1, base4, getD_ne _ _ _ _ (by decide), getD_ne _ _ _ _ (by decide), getD_ne _ _ _ _ (by decide), getD_same _ _ _ (by omega)]
  have e1_192 : t1.getD 192 undef = .agg #[.string (bstr []), .string (bstr []), .int .u64 1, .bool false, .string (bstr [])] := by rw [ht1, base4, getD_ne _ _ _ _ (by decide), getD_ne _ _ _ _ (by decide), getD_same _ _ _ (by simp [hsz])]
  have e1_199 : t1.getD 199 undef = .agg #[.string (bstr [114]), .string (bstr []), .int .u64 1099511627777, .bool false, .string (bstr [])] := by rw [ht1, base4, getD_ne _ _ _ _ (by decide), getD_same _ _ _ (by simp [hsz])]
  have e1_200 : t1.getD 200 undef = .agg #[.string (bstr [114]), .string (bstr []), .int .u64 1, .bool true, .string (bstr [118])] := by rw [ht1, base4, getD_same _ _ _ (by simp [hsz])]
  have H1 : Hid _ := ht1
  clear ht1
  refine wpAnyH_ready (rs := [2, 5, 10]) (by kernel_rfl) (by simp) ?_
  refine AllReadyH.cons rfl (fun K hK => ?_) ?_
  · go_simp
    refine hK _ _ trivial ?_
    intro _
    clear hK K
    refine wpAnyH_turn (S := fun w => Zb z33 (X.heap.size) w) (fun _ _ => trivial) _ _ _ _ ?_
    have hz1 : (fun w => Zb z33 (X.heap.size) w) (X.alloc (.cells z33 5)) := (show Zb z33 (X.heap.size) (X.alloc (.cells z33 5)) from (by unfold Zb; exact heap_alloc_new X _))
    refine wpAnyH_take (i := 3) (v := .string (bstr y33)) rfl (by kernel_rfl) (by kernel_rfl) (by kernel_rfl) (fun _ _ _ h => h) (Or.inl ⟨by rfl, ?y⟩) hz1 ?_
    case y => (intro w hS; have hc := c33 w _ hS; go_simp)
    simp only [Act.put]
    refine wpAnyH_take (i := 4) (v := .agg #[.string (bstr y33), .string (bstr []), .int .u64 1, .bool false, .string (bstr [])]) rfl (by kernel_rfl) (by kernel_rfl) (by kernel_rfl) (fun _ _ _ h => h) (Or.inl ⟨by rfl, ?y⟩) hz1 ?_
    case y => (intro w _; go_simp; try with_reducible rfl)
    simp only [Act.put]
    obtain ⟨t2, ht⟩ : ∃ u, u = ((t1.setIfInBounds 193 (.slice (some ⟨X.heap.size, 0, none⟩) 33 33)).setIfInBounds 194 (.string (bstr y33))).setIfInBounds 195 (.agg #[.string (bstr y33), .string (bstr []), .int .u64 1, .bool false, .string (bstr [])]) := ⟨_, rfl⟩
    change wpAnyH _ _ _ _ _ _ _ { tmps := ((t1.setIfInBounds 193 (.slice (some ⟨X.heap.size, 0, none⟩) 33 33)).setIfInBounds 194 (.string (bstr y33))).setIfInBounds 195 (.agg #[.string (bstr y33), .string (bstr []), .int .u64 1, .bool false, .string (bstr [])]), defers := a.defers } _
    rw [← ht]
    have z2 : t2.size = 263 := by rw [ht]; simp [z1]
    have e2_191 := (show t2.getD 191 undef = t1.getD 191 undef by rw [ht, getD_ne _ _ _ _ (by decide), getD_ne _ _ _ _ (by decide), getD_ne _ _ _ _ (by decide)]).trans e1_191
    have e2_192 := (show t2.getD 192 undef = t1.getD 192 undef by rw [ht, getD_ne _ _ _ _ (by decide), getD_ne _ _ _ _ (by decide), getD_ne _ _ _ _ (by decide)]).trans e1_192
    have e2_199 := (show t2.getD 199 undef = t1.getD 199 undef by rw [ht, getD_ne _ _ _ _ (by decide), getD_ne _ _ _ _ (by decide), getD_ne _ _ _ _ (by decide)]).trans e1_199
    have e2_200 := (show t2.getD 200 undef = t1.getD 200 undef by rw [ht, getD_ne _ _ _ _ (by decide), getD_ne _ _ _ _ (by decide), getD_ne _ _ _ _ (by decide)]).trans e1_200
    have e2_195 : t2.getD 195 undef = .agg #[.string (bstr y33), .string (bstr []), .int .u64 1, .bool false, .string (bstr [])] := by rw [ht, getD_same _ _ _ (by simp [z1])]
    have H2 : Hid _ := ht
    clear ht z1 e1_191 e1_192 e1_199 e1_200
    refine wpAnyH_ready (rs := [5, 10]) (by kernel_rfl) (by simp) ?_
    refine AllReadyH.cons rfl (fun K hK => ?_) ?_
    · go_simp
      refine hK _ _ (old_block _ hz1) ?_
      intro _
      clear hK K
      refine wpAnyH_turn (S := fun w => Zb z33 (X.heap.size) w ∧ Zb z17 (X.heap.size + 1) w) (fun _ h => h.1) _ _ _ _ ?_
      have hz2 : (fun w => Zb z33 (X.heap.size) w ∧ Zb z17 (X.heap.size + 1) w) ((X.alloc (.cells z33 5)).alloc (.cells z17 5)) := ⟨old_block _ hz1, (show Zb z17 (X.heap.size + 1) ((X.alloc (.cells z33 5)).alloc (.cells z17 5)) from (by unfold Zb; rw [show X.heap.size + 1 = (X.alloc (.cells z33 5)).heap.size from by simp]; exact heap_alloc_new (X.alloc (.cells z33 5)) _))⟩
      refine wpAnyH_take (i := 6) (v := .string (bstr y17)) rfl (by kernel_rfl) (by kernel_rfl) (by kernel_rfl) (fun _ _ _ h => h) (Or.inl ⟨by rfl, ?y⟩) hz2 ?_
      case y => (intro w hS; have hc := c17 w _ hS.2; go_simp)
      simp only [Act.put]
      refine wpAnyH_take (i := 7) (v := .agg #[.string (bstr [114]), .string (bstr y17), .int .u64 1, .bool false, .string (bstr [])]) rfl (by kernel_rfl) (by kernel_rfl) (by kernel_rfl) (fun _ _ _ h => h) (Or.inl ⟨by rfl, ?y⟩) hz2 ?_
      case y => (intro w _; go_simp; try with_reducible rfl)
      simp only [Act.put]
      obtain ⟨t3, ht⟩ : ∃ u, u = ((t2.setIfInBounds 196 (.slice (some ⟨X.heap.size + 1, 0, none⟩) 17 17)).setIfInBounds 197 (.string (bstr y17))).setIfInBounds 198 (.agg #[.string (bstr [114]), .string (bstr y17), .int .u64 1, .bool false, .string (bstr [])]) := ⟨_, rfl⟩
      change wpAnyH _ _ _ _ _ _ _ { tmps := ((t2.setIfInBounds 196 (.slice (some ⟨X.heap.size + 1, 0, none⟩) 17 17)).setIfInBounds 197 (.string (bstr y17))).setIfInBounds 198 (.agg #[.string (bstr [114]), .string (bstr y17), .int .u64 1, .bool false, .string (bstr [])]), defers := a.defers } _
      rw [← ht]
      have z3 : t3.size = 263 := by rw [ht]; simp [z2]
      have e3_191 := (show t3.getD 191 undef = t2.getD 191 undef by rw [ht, getD_ne _ _ _ _ (by decide), getD_ne _ _ _ _ (by decide), getD_ne _ _ _ _ (by decide)]).trans e2_191
      have e3_192 := (show t3.getD 192 undef = t2.getD 192 undef by rw [ht, getD_ne _ _ _ _ (by decide), getD_ne _ _ _ _ (by decide), getD_ne _ _ _ _ (by decide)]).trans e2_192
      have e3_199 := (show t3.getD 199 undef = t2.getD 199 undef by rw [ht, getD_ne _ _ _ _ (by decide), getD_ne _ _ _ _ (by decide), getD_ne _ _ _ _ (by decide)]).trans e2_199
      have e3_200 := (show t3.getD 200 undef = t2.getD 200 undef by rw [ht, getD_ne _ _ _ _ (by decide), getD_ne _ _ _ _ (by decide), getD_ne _ _ _ _ (by decide)]).trans e2_200
      have e3_195 := (show t3.getD 195 undef = t2.getD 195 undef by rw [ht, getD_ne _ _ _ _ (by decide), getD_ne _ _ _ _ (by decide), getD_ne _ _ _ _ (by decide)]).trans e2_195
      have e3_198 : t3.getD 198 undef = .agg #[.string (bstr [114]), .string (bstr y17), .int .u64 1, .bool false, .string (bstr [])] := by rw [ht, getD_same _ _ _ (by simp [z2])]
      have H3 : Hid _ := ht
      clear ht z2 e2_191 e2_192 e2_199 e2_200 e2_195
      refine wpAnyH_ready (rs := [10]) (by kernel_rfl) (by simp) ?_
      refine AllReadyH.cons rfl (fun K hK => ?_) AllReadyH.nil
      · go_simp
        refine hK _ _ ⟨old_block _ hz2.1, old_block _ hz2.2⟩ ?_
        intro _
        clear hK K
        refine wpAnyH_turn (S := fun w => Zb z33 (X.heap.size) w ∧ Zb z17 (X.heap.size + 1) w ∧ Zb zB (X.heap.size + 1 + 1) w) (fun _ h => ⟨h.1, h.2.1⟩) _ _ _ _ ?_
        have hz3 : (fun w => Zb z33 (X.heap.size) w ∧ Zb z17 (X.heap.size + 1) w ∧ Zb zB (X.heap.size + 1 + 1) w) (((X.alloc (.cells z33 5)).alloc (.cells z17 5)).alloc (.cells zB 5)) := ⟨old_block _ hz2.1, old_block _ hz2.2, (show Zb zB (X.heap.size + 1 + 1) (((X.alloc (.cells z33 5)).alloc (.cells z17 5)).alloc (.cells zB 5)) from (by unfold Zb; rw [show X.heap.size + 1 + 1 = ((X.alloc (.cells z33 5)).alloc (.cells z17 5)).heap.size from by simp]; exact heap_alloc_new ((X.alloc (.cells z33 5)).alloc (.cells z17 5)) _))⟩
        refine wpAnyH_take (i := 11) (v := .string (bstr yB)) rfl (by kernel_rfl) (by kernel_rfl) (by kernel_rfl) (fun _ _ _ h => h) (Or.inl ⟨by rfl, ?y⟩) hz3 ?_
        case y => (intro w hS; have hc := cB w _ hS.2.2; go_simp)
        simp only [Act.put]
        refine wpAnyH_take (i := 12) (v := .agg #[.string (bstr [114]), .string (bstr []), .int .u64 1, .bool false, .string (bstr yB)]) rfl (by kernel_rfl) (by kernel_rfl) (by kernel_rfl) (fun _ _ _ h => h) (Or.inl ⟨by rfl, ?y⟩) hz3 ?_
        case y => (intro w _; go_simp; try with_reducible rfl)
        simp only [Act.put]
        obtain ⟨t4, ht⟩ : ∃ u, u = ((t3.setIfInBounds 201 (.slice (some ⟨X.heap.size + 1 + 1, 0, none⟩) 65537 65537)).setIfInBounds 202 (.string (bstr yB))).setIfInBounds 203 (.agg #[.string (bstr [114]), .string (bstr []), .int .u64 1, .bool false, .string (bstr yB)]) := ⟨_, rfl⟩
        change wpAnyH _ _ _ _ _ _ _ { tmps := ((t3.setIfInBounds 201 (.slice (some ⟨X.heap.size + 1 + 1, 0, none⟩) 65537 65537)).setIfInBounds 202 (.string (bstr yB))).setIfInBounds 203 (.agg #[.string (bstr [114]), .string (bstr []), .int .u64 1, .bool false, .string (bstr yB)]), defers := a.defers } _
        rw [← ht]
        have z4 : t4.size = 263 := by rw [ht]; simp [z3]
        have e4_191 := (show t4.getD 191 undef = t3.getD 191 undef by rw [ht, getD_ne _ _ _ _ (by decide), getD_ne _ _ _ _ (by decide), getD_ne _ _ _ _ (by decide)]).trans e3_191
        have e4_192 := (show t4.getD 192 undef = t3.getD 192 undef by rw [ht, getD_ne _ _ _ _ (by decide), getD_ne _ _ _ _ (by decide), getD_ne _ _ _ _ (by decide)]).trans e3_192
        have e4_199 := (show t4.getD 199 undef = t3.getD 199 undef by rw [ht, getD_ne _ _ _ _ (by decide), getD_ne _ _ _ _ (by decide), getD_ne _ _ _ _ (by decide)]).trans e3_199
        have e4_200 := (show t4.getD 200 undef = t3.getD 200 undef by rw [ht, getD_ne _ _ _ _ (by decide), getD_ne _ _ _ _ (by decide), getD_ne _ _ _ _ (by decide)]).trans e3_200
        have e4_195 := (show t4.getD 195 undef = t3.getD 195 undef by rw [ht, getD_ne _ _ _ _ (by decide), getD_ne _ _ _ _ (by decide), getD_ne _ _ _ _ (by decide)]).trans e3_195
        have e4_198 := (show t4.getD 198 undef = t3.getD 198 undef by rw [ht, getD_ne _ _ _ _ (by decide), getD_ne _ _ _ _ (by decide), getD_ne _ _ _ _ (by decide)]).trans e3_198
        have e4_203 : t4.getD 203 undef = .agg #[.string (bstr [114]), .string (bstr []), .int .u64 1, .bool false, .string (bstr yB)] := by rw [ht, getD_same _ _ _ (by simp [z3])]
        have H4 : Hid _ := ht
        clear ht z3 e3_191 e3_192 e3_199 e3_200 e3_195 e3_198
        have k_191 := getD_get t4 191 (by omega) e4_191
        have k_192 := getD_get t4 192 (by omega) e4_192
        have k_195 := getD_get t4 195 (by omega) e4_195
        have k_198 := getD_get t4 198 (by omega) e4_198
        have k_199 := getD_get t4 199 (by omega) e4_199
        have k_200 := getD_get t4 200 (by omega) e4_200
        have k_203 := getD_get t4 203 (by omega) e4_203
        clear e4_191 e4_192 e4_195 e4_198 e4_199 e4_200 e4_203
        refine wpAnyH_ready (rs := [13]) (by kernel_rfl) (by simp) ?_
        refine AllReadyH.cons rfl (fun K hK => ?_) AllReadyH.nil
        go_simp
        refine hK _ _ ⟨old_block _ hz3.1, old_block _ hz3.2.1, old_block _ hz3.2.2⟩ ?_
        intro _
        clear hK K
        refine wpAnyH_ready (rs := [14]) (by kernel_rfl) (by simp) ?_
        refine AllReadyH.cons rfl (fun K hK => ?_) AllReadyH.nil
        go_simp
        refine hK _ _ ⟨old_block _ hz3.1, old_block _ hz3.2.1, old_block _ hz3.2.2⟩ ?_
        intro _
        clear hK K
        refine wpAnyH_done (by kernel_rfl) ?_ _
        refine NoPanic.normal ?_
        have hq := h (X.heap.size + 1 + 1 + 1) (.slice (some ⟨X.heap.size, 0, none⟩) 33 33) (.slice (some ⟨X.heap.size + 1, 0, none⟩) 17 17) (.slice (some ⟨X.heap.size + 1 + 1, 0, none⟩) 65537 65537) ((((X.alloc (.cells z33 5)).alloc (.cells z17 5)).alloc (.cells zB 5)).alloc (.cells (badCells y33 y17 yB) 37)).drew (fun j v hj => (World.cell?_alloc_at (badCells y33 y17 yB) 37 (X.heap.size + 1 + 1 + 1) j (by simp)).trans hj) (RowKit.Below.drew ((((((RowKit.Below.refl _ X).alloc (Nat.le_refl _) _).alloc (by simp) _).alloc (by simp; omega) _)).alloc (by simp; omega) _))
        have hw : (put3 (put3 (put3 (base4 a) 193 (.slice (some ⟨X.heap.size, 0, none⟩) 33 33) (.string (bstr y33)) (.agg #[.string (bstr y33), .string (bstr []), .int .u64 1, .bool false, .string (bstr [])])) 196 (.slice (some ⟨X.heap.size + 1, 0, none⟩) 17 17) (.string (bstr y17)) (.agg #[.string (bstr [114]), .string (bstr y17), .int .u64 1, .bool false, .string (bstr [])])) 201 (.slice (some ⟨X.heap.size + 1 + 1, 0, none⟩) 65537 65537) (.string (bstr yB)) (.agg #[.string (bstr [114]), .string (bstr []), .int .u64 1, .bool false, .string (bstr yB)])) = fin3 y33 y17 yB a (.slice (some ⟨X.heap.size, 0, none⟩) 33 33) (.slice (some ⟨X.heap.size + 1, 0, none⟩) 17 17) (.slice (some ⟨X.heap.size + 1 + 1, 0, none⟩) 65537 65537) := rfl
        unfold finA at hq
        rw [← hw] at hq
        simp only [put3, Nat.reduceAdd, base4_defers, badCells] at hq
        rw [H4.out, H3.out, H2.out, H1.out]
        exact hq
    refine AllReadyH.cons rfl (fun K hK => ?_) AllReadyH.nil
    · go_simp
      refine hK _ _ (old_block _ hz1) ?_
      intro _
      clear hK K
      refine wpAnyH_turn (S := fun w => Zb z33 (X.heap.size) w ∧ Zb zB (X.heap.size + 1) w) (fun _ h => h.1) _ _ _ _ ?_
      have hz2 : (fun w => Zb z33 (X.heap.size) w ∧ Zb zB (X.heap.size + 1) w) ((X.alloc (.cells z33 5)).alloc (.cells zB 5)) := ⟨old_block _ hz1, (show Zb zB (X.heap.size + 1) ((X.alloc (.cells z33 5)).alloc (.cells zB 5)) from (by unfold Zb; rw [show X.heap.size + 1 = (X.alloc (.cells z33 5)).heap.size from by simp]; exact heap_alloc_new (X.alloc (.cells z33 5)) _))⟩
      refine wpAnyH_take (i := 11) (v := .string (bstr yB)) rfl (by kernel_rfl) (by kernel_rfl) (by kernel_rfl) (fun _ _ _ h => h) (Or.inl ⟨by rfl, ?y⟩) hz2 ?_
      case y => (intro w hS; have hc := cB w _ hS.2; go_simp)
      simp only [Act.put]
      refine wpAnyH_take (i := 12) (v := .agg #[.string (bstr [114]), .string (bstr []), .int .u64 1, .bool false, .string (bstr yB)]) rfl (by kernel_rfl) (by kernel_rfl) (by kernel_rfl) (fun _ _ _ h => h) (Or.inl ⟨by rfl, ?y⟩) hz2 ?_
      case y => (intro w _; go_simp; try with_reducible rfl)
      simp only [Act.put]
      obtain ⟨t3, ht⟩ : ∃ u, u = ((t2.setIfInBounds 201 (.slice (some ⟨X.heap.size + 1, 0, none⟩) 65537 65537)).setIfInBounds 202 (.string (bstr yB))).setIfInBounds 203 (.agg #[.string (bstr [114]), .string (bstr []), .int .u64 1, .bool false, .string (bstr yB)]) := ⟨_, rfl⟩
      change wpAnyH _ _ _ _ _ _ _ { tmps := ((t2.setIfInBounds 201 (.slice (some ⟨X.heap.size + 1, 0, none⟩) 65537 65537)).setIfInBounds 202 (.string (bstr yB))).setIfInBounds 203 (.agg #[.string (bstr [114]), .string (bstr []), .int .u64 1, .bool false, .string (bstr yB)]), defers := a.defers } _
      rw [← ht]
      have z3 : t3.size = 263 := by rw [ht]; simp [z2]
      have e3_191 := (show t3.getD 191 undef = t2.getD 191 undef by rw [ht, getD_ne _ _ _ _ (by decide), getD_ne _ _ _ _ (by decide), getD_ne _ _ _ _ (by decide)]).trans e2_191
      have e3_192 := (show t3.getD 192 undef = t2.getD 192 undef by rw [ht, getD_ne _ _ _ _ (by decide), getD_ne _ _ _ _ (by decide), getD_ne _ _ _ _ (by decide)]).trans e2_192
      have e3_199 := (show t3.getD 199 undef = t2.getD 199 undef by rw [ht, getD_ne _ _ _ _ (by decide), getD_ne _ _ _ _ (by decide), getD_ne _ _ _ _ (by decide)]).trans e2_199
      have e3_200 := (show t3.getD 200 undef = t2.getD 200 undef by rw [ht, getD_ne _ _ _ _ (by decide), getD_ne _ _ _ _ (by decide), getD_ne _ _ _ _ (by decide)]).trans e2_200
      have e3_195 := (show t3.getD 195 undef = t2.getD 195 undef by rw [ht, getD_ne _ _ _ _ (by decide), getD_ne _ _ _ _ (by decide), getD_ne _ _ _ _ (by decide)]).trans e2_195
      have e3_203 : t3.getD 203 undef = .agg #[.string (bstr [114]), .string (bstr []), .int .u64 1, .bool false, .string (bstr yB)] := by rw [ht, getD_same _ _ _ (by simp [z2])]
      have H3 : Hid _ := ht
      clear ht z2 e2_191 e2_192 e2_199 e2_200 e2_195
      refine wpAnyH_ready (rs := [5]) (by kernel_rfl) (by simp) ?_
      refine AllReadyH.cons rfl (fun K hK => ?_) AllReadyH.nil
      · go_simp
        refine hK _ _ ⟨old_block _ hz2.1, old_block _ hz2.2⟩ ?_
        intro _
        clear hK K
        refine wpAnyH_turn (S := fun w => Zb z33 (X.heap.size) w ∧ Zb zB (X.heap.size + 1) w ∧ Zb z17 (X.heap.size + 1 + 1) w) (fun _ h => ⟨h.1, h.2.1⟩) _ _ _ _ ?_
        have hz3 : (fun w => Zb z33 (X.heap.size) w ∧ Zb zB (X.heap.size + 1) w ∧ Zb z17 (X.heap.size + 1 + 1) w) (((X.alloc (.cells z33 5)).alloc (.cells zB 5)).alloc (.cells z17 5)) := ⟨old_block _ hz2.1, old_block _ hz2.2, (show Zb z17 (X.heap.size + 1 + 1) (((X.alloc (.cells z33 5)).alloc (.cells zB 5)).alloc (.cells z17 5)) from (by unfold Zb; rw [show X.heap.size + 1 + 1 = ((X.alloc (.cells z33 5)).alloc (.cells zB 5)).heap.size from by simp]; exact heap_alloc_new ((X.alloc (.cells z33 5)).alloc (.cells zB 5)) _))⟩
        refine wpAnyH_take (i := 6) (v := .string (bstr y17)) rfl (by kernel_rfl) (by kernel_rfl) (by kernel_rfl) (fun _ _ _ h => h) (Or.inl ⟨by rfl, ?y⟩) hz3 ?_
        case y => (intro w hS; have hc := c17 w _ hS.2.2; go_simp)
        simp only [Act.put]
        refine wpAnyH_take (i := 7) (v := .agg #[.string (bstr [114]), .string (bstr y17), .int .u64 1, .bool false, .string (bstr [])]) rfl (by kernel_rfl) (by kernel_rfl) (by kernel_rfl) (fun _ _ _ h => h) (Or.inl ⟨by rfl, ?y⟩) hz3 ?_
        case y => (intro w _; go_simp; try with_reducible rfl)
        simp only [Act.put]
        obtain ⟨t4, ht⟩ : ∃ u, u = ((t3.setIfInBounds 196 (.slice (some ⟨X.heap.size + 1 + 1, 0, none⟩) 17 17)).setIfInBounds 197 (.string (bstr y17))).setIfInBounds 198 (.agg #[.string (bstr [114]), .string (bstr y17), .int .u64 1, .bool false, .string (bstr [])]) := ⟨_, rfl⟩
        change wpAnyH _ _ _ _ _ _ _ { tmps := ((t3.setIfInBounds 196 (.slice (some ⟨X.heap.size + 1 + 1, 0, none⟩) 17 17)).setIfInBounds 197 (.string (bstr y17))).setIfInBounds 198 (.agg #[.string (bstr [114]), .string (bstr y17), .int .u64 1, .bool false, .string (bstr [])]), defers := a.defers } _
        rw [← ht]
        have z4 : t4.size = 263 := by rw [ht]; simp [z3]
        have e4_191 := (show t4.getD 191 undef = t3.getD 191 undef by rw [ht, getD_ne _ _ _ _ (by decide), getD_ne _ _ _ _ (by decide), getD_ne _ _ _ _ (by decide)]).trans e3_191
        have e4_192 := (show t4.getD 192 undef = t3.getD 192 undef by rw [ht, getD_ne _ _ _ _ (by decide), getD_ne _ _ _ _ (by decide), getD_ne _ _ _ _ (by decide)]).trans e3_192
        have e4_199 := (show t4.getD 199 undef = t3.getD 199 undef by rw [ht, getD_ne _ _ _ _ (by decide), getD_ne _ _ _ _ (by decide), getD_ne _ _ _ _ (by decide)]).trans e3_199
        have e4_200 := (show t4.getD 200 undef = t3.getD 200 undef by rw [ht, getD_ne _ _ _ _ (by decide), getD_ne _ _ _ _ (by decide), getD_ne _ _ _ _ (by decide)]).trans e3_200
        have e4_195 := (show t4.getD 195 undef = t3.getD 195 undef by rw [ht, getD_ne _ _ _ _ (by decide), getD_ne _ _ _ _ (by decide), getD_ne _ _ _ _ (by decide)]).trans e3_195
        have e4_203 := (show t4.getD 203 undef = t3.getD 203 undef by rw [ht, getD_ne _ _ _ _ (by decide), getD_ne _ _ _ _ (by decide), getD_ne _ _ _ _ (by decide)]).trans e3_203
        have e4_198 : t4.getD 198 undef = .agg #[.string (bstr [114]), .string (bstr y17), .int .u64 1, .bool false, .string (bstr [])] := by rw [ht, getD_same _ _ _ (by simp [z3])]
        have H4 : Hid _ := ht
        clear ht z3 e3_191 e3_192 e3_199 e3_200 e3_195 e3_203
        have k_191 := getD_get t4 191 (by omega) e4_191
        have k_192 := getD_get t4 192 (by omega) e4_192
        have k_195 := getD_get t4 195 (by omega) e4_195
        have k_198 := getD_get t4 198 (by omega) e4_198
        have k_199 := getD_get t4 199 (by omega) e4_199
        have k_200 := getD_get t4 200 (by omega) e4_200
        have k_203 := getD_get t4 203 (by omega) e4_203
        clear e4_191 e4_192 e4_195 e4_198 e4_199 e4_200 e4_203
        refine wpAnyH_ready (rs := [13]) (by kernel_rfl) (by simp) ?_
        refine AllReadyH.cons rfl (fun K hK => ?_) AllReadyH.nil
        go_simp
        refine hK _ _ ⟨old_block _ hz3.1, old_block _ hz3.2.1, old_block _ hz3.2.2⟩ ?_
        intro _
        clear hK K
        refine wpAnyH_ready (rs := [14]) (by kernel_rfl) (by simp) ?_
        refine AllReadyH.cons rfl (fun K hK => ?_) AllReadyH.nil
        go_simp
        refine hK _ _ ⟨old_block _ hz3.1, old_block _ hz3.2.1, old_block _ hz3.2.2⟩ ?_
        intro _
        clear hK K
        refine wpAnyH_done (by kernel_rfl) ?_ _
        refine NoPanic.normal ?_
        have hq := h (X.heap.size + 1 + 1 + 1) (.slice (some ⟨X.heap.size, 0, none⟩) 33 33) (.slice (some ⟨X.heap.size + 1 + 1, 0, none⟩) 17 17) (.slice (some ⟨X.heap.size + 1, 0, none⟩) 65537 65537) ((((X.alloc (.cells z33 5)).alloc (.cells zB 5)).alloc (.cells z17 5)).alloc (.cells (badCells y33 y17 yB) 37)).drew (fun j v hj => (World.cell?_alloc_at (badCells y33 y17 yB) 37 (X.heap.size + 1 + 1 + 1) j (by simp)).trans hj) (RowKit.Below.drew ((((((RowKit.Below.refl _ X).alloc (Nat.le_refl _) _).alloc (by simp) _).alloc (by simp; omega) _)).alloc (by simp; omega) _))
        have hw : (put3 (put3 (put3 (base4 a) 193 (.slice (some ⟨X.heap.size, 0, none⟩) 33 33) (.string (bstr y33)) (.agg #[.string (bstr y33), .string (bstr []), .int .u64 1, .bool false, .string (bstr [])])) 201 (.slice (some ⟨X.heap.size + 1, 0, none⟩) 65537 65537) (.string (bstr yB)) (.agg #[.string (bstr [114]), .string (bstr []), .int .u64 1, .bool false, .string (bstr yB)])) 196 (.slice (some ⟨X.heap.size + 1 + 1, 0, none⟩) 17 17) (.string (bstr y17)) (.agg #[.string (bstr [114]), .string (bstr y17), .int .u64 1, .bool false, .string (bstr [])])) = fin3 y33 y17 yB a (.slice (some ⟨X.heap.size, 0, none⟩) 33 33) (.slice (some ⟨X.heap.size + 1 + 1, 0, none⟩) 17 17) (.slice (some ⟨X.heap.size + 1, 0, none⟩) 65537 65537) := by
          unfold fin3
          rw [put3_comm _ 196 201 _ _ _ _ _ _ (by omega)]
        unfold finA at hq
        rw [← hw] at hq
        simp only [put3, Nat.reduceAdd, base4_defers, badCells] at hq
        rw [H4.out, H3.out, H2.out, H1.out]
        exact hq
  refine AllReadyH.cons rfl (fun K hK => ?_) ?_
  · go_simp
    refine hK _ _ trivial ?_
    intro _
    clear hK K
    refine wpAnyH_turn (S := fun w => Zb z17 (X.heap.size) w) (fun _ _ => trivial) _ _ _ _ ?_
    have hz1 : (fun w => Zb z17 (X.heap.size) w) (X.alloc (.cells z17 5)) := (show Zb z17 (X.heap.size) (X.alloc (.cells z17 5)) from (by unfold Zb; exact heap_alloc_new X _))
    refine wpAnyH_take (i := 6) (v := .string (bstr y17)) rfl (by kernel_rfl) (by kernel_rfl) (by kernel_rfl) (fun _ _ _ h => h) (Or.inl ⟨by rfl, ?y⟩) hz1 ?_
    case y => (intro w hS; have hc := c17 w _ hS; go_simp)
    simp only [Act.put]
    refine wpAnyH_take (i := 7) (v := .agg #[.string (bstr [114]), .string (bstr y17), .int .u64 1, .bool false, .string (bstr [])]) rfl (by kernel_rfl) (by kernel_rfl) (by kernel_rfl) (fun _ _ _ h => h) (Or.inl ⟨by rfl, ?y⟩) hz1 ?_
    case y => (intro w _; go_simp; try with_reducible rfl)
    simp only [Act.put]
    obtain ⟨t2, ht⟩ : ∃ u, u = ((t1.setIfInBounds 196 (.slice (some ⟨X.heap.size, 0, none⟩) 17 17)).setIfInBounds 197 (.string (bstr y17))).setIfInBounds 198 (.agg #[.string (bstr [114]), .string (bstr y17), .int .u64 1, .bool false, .string (bstr [])]) := ⟨_, rfl⟩
    change wpAnyH _ _ _ _ _ _ _ { tmps := ((t1.setIfInBounds 196 (.slice (some ⟨X.heap.size, 0, none⟩) 17 17)).setIfInBounds 197 (.string (bstr y17))).setIfInBounds 198 (.agg #[.string (bstr [114]), .string (bstr y17), .int .u64 1, .bool false, .string (bstr [])]), defers := a.defers } _
    rw [← ht]
    have z2 : t2.size = 263 := by rw [ht]; simp [z1]
    have e2_191 := (show t2.getD 191 undef = t1.getD 191 undef by rw [ht, getD_ne _ _ _ _ (by decide), getD_ne _ _ _ _ (by decide), getD_ne _ _ _ _ (by decide)]).trans e1_191
    have e2_192 := (show t2.getD 192 undef = t1.getD 192 undef by rw [ht, getD_ne _ _ _ _ (by decide), getD_ne _ _ _ _ (by decide), getD_ne _ _ _ _ (by decide)]).trans e1_192
    have e2_199 := (show t2.getD 199 undef = t1.getD 199 undef by rw [ht, getD_ne _ _ _ _ (by decide), getD_ne _ _ _ _ (by decide), getD_ne _ _ _ _ (by decide)]).trans e1_199
    have e2_200 := (show t2.getD 200 undef = t1.getD 200 undef by rw [ht, getD_ne _ _ _ _ (by decide), getD_ne _ _ _ _ (by decide), getD_ne _ _ _ _ (by decide)]).trans e1_200
    have e2_198 : t2.getD 198 undef = .agg #[.string (bstr [114]), .string (bstr y17), .int .u64 1, .bool false, .string (bstr [])] := by rw [ht, getD_same _ _ _ (by simp [z1])]
    have H2 : Hid _ := ht
    clear ht z1 e1_191 e1_192 e1_199 e1_200
    refine wpAnyH_ready (rs := [2, 10]) (by kernel_rfl) (by simp) ?_
    refine AllReadyH.cons rfl (fun K hK => ?_) ?_
    · go_simp
      refine hK _ _ (old_block _ hz1) ?_
      intro _
      clear hK K
      refine wpAnyH_turn (S := fun w => Zb z17 (X.heap.size) w ∧ Zb z33 (X.heap.size + 1) w) (fun _ h => h.1) _ _ _ _ ?_
      have hz2 : (fun w => Zb z17 (X.heap.size) w ∧ Zb z33 (X.heap.size + 1) w) ((X.alloc (.cells z17 5)).alloc (.cells z33 5)) := ⟨old_block _ hz1, (show Zb z33 (X.heap.size + 1) ((X.alloc (.cells z17 5)).alloc (.cells z33 5)) from (by unfold Zb; rw [show X.heap.size + 1 = (X.alloc (.cells z17 5)).heap.size from by simp]; exact heap_alloc_new (X.alloc (.cells z17 5)) _))⟩
      refine wpAnyH_take (i := 3) (v := .string (bstr y33)) rfl (by kernel_rfl) (by kernel_rfl) (by kernel_rfl) (fun _ _ _ h => h) (Or.inl ⟨by rfl, ?y⟩) hz2 ?_
      case y => (intro w hS; have hc := c33 w _ hS.2; go_simp)
      simp only [Act.put]
      refine wpAnyH_take (i := 4) (v := .agg #[.string (bstr y33), .string (bstr []), .int .u64 1, .bool false, .string (bstr [])]) rfl (by kernel_rfl) (by kernel_rfl) (by kernel_rfl) (fun _ _ _ h => h) (Or.inl ⟨by rfl, ?y⟩) hz2 ?_
      case y => (intro w _; go_simp; try with_reducible rfl)
      simp only [Act.put]
      obtain ⟨t3, ht⟩ : ∃ u, u = ((t2.setIfInBounds 193 (.slice (some ⟨X.heap.size + 1, 0, none⟩) 33 33)).setIfInBounds 194 (.string (bstr y33))).setIfInBounds 195 (.agg #[.string (bstr y33), .string (bstr []), .int .u64 1, .bool false, .string (bstr [])]) := ⟨_, rfl⟩
      change wpAnyH _ _ _ _ _ _ _ { tmps := ((t2.setIfInBounds 193 (.slice (some ⟨X.heap.size + 1, 0, none⟩) 33 33)).setIfInBounds 194 (.string (bstr y33))).setIfInBounds 195 (.agg #[.string (bstr y33), .string (bstr []), .int .u64 1, .bool false, .string (bstr [])]), defers := a.defers } _
      rw [← ht]
      have z3 : t3.size = 263 := by rw [ht]; simp [z2]
      have e3_191 := (show t3.getD 191 undef = t2.getD 191 undef by rw [ht, getD_ne _ _ _ _ (by decide), getD_ne _ _ _ _ (by decide), getD_ne _ _ _ _ (by decide)]).trans e2_191
      have e3_192 := (show t3.getD 192 undef = t2.getD 192 undef by rw [ht, getD_ne _ _ _ _ (by decide), getD_ne _ _ _ _ (by decide), getD_ne _ _ _ _ (by decide)]).trans e2_192
      have e3_199 := (show t3.getD 199 undef = t2.getD 199 undef by rw [ht, getD_ne _ _ _ _ (by decide), getD_ne _ _ _ _ (by decide), getD_ne _ _ _ _ (by decide)]).trans e2_199
      have e3_200 := (show t3.getD 200 undef = t2.getD 200 undef by rw [ht, getD_ne _ _ _ _ (by decide), getD_ne _ _ _ _ (by decide), getD_ne _ _ _ _ (by decide)]).trans e2_200
      have e3_198 := (show t3.getD 198 undef = t2.getD 198 undef by rw [ht, getD_ne _ _ _ _ (by decide), getD_ne _ _ _ _ (by decide), getD_ne _ _ _ _ (by decide)]).trans e2_198
      have e3_195 : t3.getD 195 undef = .agg #[.string (bstr y33), .string (bstr []), .int .u64 1, .bool false, .string (bstr [])] := by rw [ht, getD_same _ _ _ (by simp [z2])]
      have H3 : Hid _ := ht
      clear ht z2 e2_191 e2_192 e2_199 e2_200 e2_198
      refine wpAnyH_ready (rs := [10]) (by kernel_rfl) (by simp) ?_
      refine AllReadyH.cons rfl (fun K hK => ?_) AllReadyH.nil
      · go_simp
        refine hK _ _ ⟨old_block _ hz2.1, old_block _ hz2.2⟩ ?_
        intro _
        clear hK K
        refine wpAnyH_turn (S := fun w => Zb z17 (X.heap.size) w ∧ Zb z33 (X.heap.size + 1) w ∧ Zb zB (X.heap.size + 1 + 1) w) (fun _ h => ⟨h.1, h.2.1⟩) _ _ _ _ ?_
        have hz3 : (fun w => Zb z17 (X.heap.size) w ∧ Zb z33 (X.heap.size + 1) w ∧ Zb zB (X.heap.size + 1 + 1) w) (((X.alloc (.cells z17 5)).alloc (.cells z33 5)).alloc (.cells zB 5)) := ⟨old_block _ hz2.1, old_block _ hz2.2, (show Zb zB (X.heap.size + 1 + 1) (((X.alloc (.cells z17 5)).alloc (.cells z33 5)).alloc (.cells zB 5)) from (by unfold Zb; rw [show X.heap.size + 1 + 1 = ((X.alloc (.cells z17 5)).alloc (.cells z33 5)).heap.size from by simp]; exact heap_alloc_new ((X.alloc (.cells z17 5)).alloc (.cells z33 5)) _))⟩
        refine wpAnyH_take (i := 11) (v := .string (bstr yB)) rfl (by kernel_rfl) (by kernel_rfl) (by kernel_rfl) (fun _ _ _ h => h) (Or.inl ⟨by rfl, ?y⟩) hz3 ?_
        case y => (intro w hS; have hc := cB w _ hS.2.2; go_simp)
        simp only [Act.put]
        refine wpAnyH_take (i := 12) (v := .agg #[.string (bstr [114]), .string (bstr []), .int .u64 1, .bool false, .string (bstr yB)]) rfl (by kernel_rfl) (by kernel_rfl) (by kernel_rfl) (fun _ _ _ h => h) (Or.inl ⟨by rfl, ?y⟩) hz3 ?_
        case y => (intro w _; go_simp; try with_reducible rfl)
        simp only [Act.put]
        obtain ⟨t4, ht⟩ : ∃ u, u = ((t3.setIfInBounds 201 (.slice (some ⟨X.heap.size + 1 + 1, 0, none⟩) 65537 65537)).setIfInBounds 202 (.string (bstr yB))).setIfInBounds 203 (.agg #[.string (bstr [114]), .string (bstr []), .int .u64 1, .bool false, .string (bstr yB)]) := ⟨_, rfl⟩
        change wpAnyH _ _ _ _ _ _ _ { tmps := ((t3.setIfInBounds 201 (.slice (some ⟨X.heap.size + 1 + 1, 0, none⟩) 65537 65537)).setIfInBounds 202 (.string (bstr yB))).setIfInBounds 203 (.agg #[.string (bstr [114]), .string (bstr []), .int .u64 1, .bool false, .string (bstr yB)]), defers := a.defers } _
        rw [← ht]
        have z4 : t4.size = 263 := by rw [ht]; simp [z3]
        have e4_191 := (show t4.getD 191 undef = t3.getD 191 undef by rw [ht, getD_ne _ _ _ _ (by decide), getD_ne _ _ _ _ (by decide), getD_ne _ _ _ _ (by decide)]).trans e3_191
        have e4_192 := (show t4.getD 192 undef = t3.getD 192 undef by rw [ht, getD_ne _ _ _ _ (by decide), getD_ne _ _ _ _ (by decide), getD_ne _ _ _ _ (by decide)]).trans e3_192
        have e4_199 := (show t4.getD 199 undef = t3.getD 199 undef by rw [ht, getD_ne _ _ _ _ (by decide), getD_ne _ _ _ _ (by decide), getD_ne _ _ _ _ (by decide)]).trans e3_199
        have e4_200 := (show t4.getD 200 undef = t3.getD 200 undef by rw [ht, getD_ne _ _ _ _ (by decide), getD_ne _ _ _ _ (by decide), getD_ne _ _ _ _ (by decide)]).trans e3_200
        have e4_198 := (show t4.getD 198 undef = t3.getD 198 undef by rw [ht, getD_ne _ _ _ _ (by decide), getD_ne _ _ _ _ (by decide), getD_ne _ _ _ _ (by decide)]).trans e3_198
        have e4_195 := (show t4.getD 195 undef = t3.getD 195 undef by rw [ht, getD_ne _ _ _ _ (by decide), getD_ne _ _ _ _ (by decide), getD_ne _ _ _ _ (by decide)]).trans e3_195
        have e4_203 : t4.getD 203 undef = .agg #[.string (bstr [114]), .string (bstr []), .int .u64 1, .bool false, .string (bstr yB)] := by rw [ht, getD_same _ _ _ (by simp [z3])]
        have H4 : Hid _ := ht
        clear ht z3 e3_191 e3_192 e3_199 e3_200 e3_198 e3_195
        have k_191 := getD_get t4 191 (by omega) e4_191
        have k_192 := getD_get t4 192 (by omega) e4_192
        have k_195 := getD_get t4 195 (by omega) e4_195
        have k_198 := getD_get t4 198 (by omega) e4_198
        have k_199 := getD_get t4 199 (by omega) e4_199
        have k_200 := getD_get t4 200 (by omega) e4_200
        have k_203 := getD_get t4 203 (by omega) e4_203
        clear e4_191 e4_192 e4_195 e4_198 e4_199 e4_200 e4_203
        refine wpAnyH_ready (rs := [13]) (by kernel_rfl) (by simp) ?_
        refine AllReadyH.cons rfl (fun K hK => ?_) AllReadyH.nil
        go_simp
        refine hK _ _ ⟨old_block _ hz3.1, old_block _ hz3.2.1, old_block _ hz3.2.2⟩ ?_
        intro _
        clear hK K
        refine wpAnyH_ready (rs := [14]) (by kernel_rfl) (by simp) ?_
        refine AllReadyH.cons rfl (fun K hK => ?_) AllReadyH.nil
        go_simp
        refine hK _ _ ⟨old_block _ hz3.1, old_block _ hz3.2.1, old_block _ hz3.2.2⟩ ?_
        intro _
        clear hK K
        refine wpAnyH_done (by kernel_rfl) ?_ _
        refine NoPanic.normal ?_
        have hq := h (X.heap.size + 1 + 1 + 1) (.slice (some ⟨X.heap.size + 1, 0, none⟩) 33 33) (.slice (some ⟨X.heap.size, 0, none⟩) 17 17) (.slice (some ⟨X.heap.size + 1 + 1, 0, none⟩) 65537 65537) ((((X.alloc (.cells z17 5)).alloc (.cells z33 5)).alloc (.cells zB 5)).alloc (.cells (badCells y33 y17 yB) 37)).drew (fun j v hj => (World.cell?_alloc_at (badCells y33 y17 yB) 37 (X.heap.size + 1 + 1 + 1) j (by simp)).trans hj) (RowKit.Below.drew ((((((RowKit.Below.refl _ X).alloc (Nat.le_refl _) _).alloc (by simp) _).alloc (by simp; omega) _)).alloc (by simp; omega) _))
        have hw : (put3 (put3 (put3 (base4 a) 196 (.slice (some ⟨X.heap.size, 0, none⟩) 17 17) (.string (bstr y17)) (.agg #[.string (bstr [114]), .string (bstr y17), .int .u64 1, .bool false, .string (bstr [])])) 193 (.slice (some ⟨X.heap.size + 1, 0, none⟩) 33 33) (.string (bstr y33)) (.agg #[.string (bstr y33), .string (bstr []), .int .u64 1, .bool false, .string (bstr [])])) 201 (.slice (some ⟨X.heap.size + 1 + 1, 0, none⟩) 65537 65537) (.string (bstr yB)) (.agg #[.string (bstr [114]), .string (bstr []), .int .u64 1, .bool false, .string (bstr yB)])) = fin3 y33 y17 yB a (.slice (some ⟨X.heap.size + 1, 0, none⟩) 33 33) (.slice (some ⟨X.heap.size, 0, none⟩) 17 17) (.slice (some ⟨X.heap.size + 1 + 1, 0, none⟩) 65537 65537) := by
          unfold fin3
          rw [put3_comm _ 193 196 _ _ _ _ _ _ (by omega)]
        unfold finA at hq
        rw [← hw] at hq
        simp only [put3, Nat.reduceAdd, base4_defers, badCells] at hq
        rw [H4.out, H3.out, H2.out, H1.out]
        exact hq
    refine AllReadyH.cons rfl (fun K hK => ?_) AllReadyH.nil
    · go_simp
      refine hK _ _ (old_block _ hz1) ?_
      intro _
      clear hK K
      refine wpAnyH_turn (S := fun w => Zb z17 (X.heap.size) w ∧ Zb zB (X.heap.size + 1) w) (fun _ h => h.1) _ _ _ _ ?_
      have hz2 : (fun w => Zb z17 (X.heap.size) w ∧ Zb zB (X.heap.size + 1) w) ((X.alloc (.cells z17 5)).alloc (.cells zB 5)) := ⟨old_block _ hz1, (show Zb zB (X.heap.size + 1) ((X.alloc (.cells z17 5)).alloc (.cells zB 5)) from (by unfold Zb; rw [show X.heap.size + 1 = (X.alloc (.cells z17 5)).heap.size from by simp]; exact heap_alloc_new (X.alloc (.cells z17 5)) _))⟩
      refine wpAnyH_take (i := 11) (v := .string (bstr yB)) rfl (by kernel_rfl) (by kernel_rfl) (by kernel_rfl) (fun _ _ _ h => h) (Or.inl ⟨by rfl, ?y⟩) hz2 ?_
      case y => (intro w hS; have hc := cB w _ hS.2; go_simp)
      simp only [Act.put]
      refine wpAnyH_take (i := 12) (v := .agg #[.string (bstr [114]), .string (bstr []), .int .u64 1, .bool false, .string (bstr yB)]) rfl (by kernel_rfl) (by kernel_rfl) (by kernel_rfl) (fun _ _ _ h => h) (Or.inl ⟨by rfl, ?y⟩) hz2 ?_
      case y => (intro w _; go_simp; try with_reducible rfl)
      simp only [Act.put]
      obtain ⟨t3, ht⟩ : ∃ u, u = ((t2.setIfInBounds 201 (.slice (some ⟨X.heap.size + 1, 0, none⟩) 65537 65537)).setIfInBounds 202 (.string (bstr yB))).setIfInBounds 203 (.agg #[.string (bstr [114]), .string (bstr []), .int .u64 1, .bool false, .string (bstr yB)]) := ⟨_, rfl⟩
      change wpAnyH _ _ _ _ _ _ _ { tmps := ((t2.setIfInBounds 201 (.slice (some ⟨X.heap.size + 1, 0, none⟩) 65537 65537)).setIfInBounds 202 (.string (bstr yB))).setIfInBounds 203 (.agg #[.string (bstr [114]), .string (bstr []), .int .u64 1, .bool false, .string (bstr yB)]), defers := a.defers } _
      rw [← ht]
      have z3 : t3.size = 263 := by rw [ht]; simp [z2]
      have e3_191 := (show t3.getD 191 undef = t2.getD 191 undef by rw [ht, getD_ne _ _ _ _ (by decide), getD_ne _ _ _ _ (by decide), getD_ne _ _ _ _ (by decide)]).trans e2_191
      have e3_192 := (show t3.getD 192 undef = t2.getD 192 undef by rw [ht, getD_ne _ _ _ _ (by decide), getD_ne _ _ _ _ (by decide), getD_ne _ _ _ _ (by decide)]).trans e2_192
      have e3_199 := (show t3.getD 199 undef = t2.getD 199 undef by rw [ht, getD_ne _ _ _ _ (by decide), getD_ne _ _ _ _ (by decide), getD_ne _ _ _ _ (by decide)]).trans e2_199
      have e3_200 := (show t3.getD 200 undef = t2.getD 200 undef by rw [ht, getD_ne _ _ _ _ (by decide), getD_ne _ _ _ _ (by decide), getD_ne _ _ _ _ (by decide)]).trans e2_200
      have e3_198 := (show t3.getD 198 undef = t2.getD 198 undef by rw [ht, getD_ne _ _ _ _ (by decide), getD_ne _ _ _ _ (by decide), getD_ne _ _ _ _ (by decide)]).trans e2_198
      have e3_203 : t3.getD 203 undef = .agg #[.string (bstr [114]), .string (bstr []), .int .u64 1, .bool false, .string (bstr yB)] := by rw [ht, getD_same _ _ _ (by simp [z2])]
      have H3 : Hid _ := ht
      clear ht z2 e2_191 e2_192 e2_199 e2_200 e2_198
      refine wpAnyH_ready (rs := [2]) (by kernel_rfl) (by simp) ?_
      refine AllReadyH.cons rfl (fun K hK => ?_) AllReadyH.nil
      · go_simp
        refine hK _ _ ⟨old_block _ hz2.1, old_block _ hz2.2⟩ ?_
        intro _
        clear hK K
        refine wpAnyH_turn (S := fun w => Zb z17 (X.heap.size) w ∧ Zb zB (X.heap.size + 1) w ∧ Zb z33 (X.heap.size + 1 + 1) w) (fun _ h => ⟨h.1, h.2.1⟩) _ _ _ _ ?_
        have hz3 : (fun w => Zb z17 (X.heap.size) w ∧ Zb zB (X.heap.size + 1) w ∧ Zb z33 (X.heap.size + 1 + 1) w) (((X.alloc (.cells z17 5)).alloc (.cells zB 5)).alloc (.cells z33 5)) := ⟨old_block _ hz2.1, old_block _ hz2.2, (show Zb z33 (X.heap.size + 1 + 1) (((X.alloc (.cells z17 5)).alloc (.cells zB 5)).alloc (.cells z33 5)) from (by unfold Zb; rw [show X.heap.size + 1 + 1 = ((X.alloc (.cells z17 5)).alloc (.cells zB 5)).heap.size from by simp]; exact heap_alloc_new ((X.alloc (.cells z17 5)).alloc (.cells zB 5)) _))⟩
        refine wpAnyH_take (i := 3) (v := .string (bstr y33)) rfl (by kernel_rfl) (by kernel_rfl) (by kernel_rfl) (fun _ _ _ h => h) (Or.inl ⟨by rfl, ?y⟩) hz3 ?_
        case y => (intro w hS; have hc := c33 w _ hS.2.2; go_simp)
        simp only [Act.put]
        refine wpAnyH_take (i := 4) (v := .agg #[.string (bstr y33), .string (bstr []), .int .u64 1, .bool false, .string (bstr [])]) rfl (by kernel_rfl) (by kernel_rfl) (by kernel_rfl) (fun _ _ _ h => h) (Or.inl ⟨by rfl, ?y⟩) hz3 ?_
        case y => (intro w _; go_simp; try with_reducible rfl)
        simp only [Act.put]
        obtain ⟨t4, ht⟩ : ∃ u, u = ((t3.setIfInBounds 193 (.slice (some ⟨X.heap.size + 1 + 1, 0, none⟩) 33 33)).setIfInBounds 194 (.string (bstr y33))).setIfInBounds 195 (.agg #[.string (bstr y33), .string (bstr []), .int .u64 1, .bool false, .string (bstr [])]) := ⟨_, rfl⟩
        change wpAnyH _ _ _ _ _ _ _ { tmps := ((t3.setIfInBounds 193 (.slice (some ⟨X.heap.size + 1 + 1, 0, none⟩) 33 33)).setIfInBounds 194 (.string (bstr y33))).setIfInBounds 195 (.agg #[.string (bstr y33), .string (bstr []), .int .u64 1, .bool false, .string (bstr [])]), defers := a.defers } _
        rw [← ht]
        have z4 : t4.size = 263 := by rw [ht]; simp [z3]
        have e4_191 := (show t4.getD 191 undef = t3.getD 191 undef by rw [ht, getD_ne _ _ _ _ (by decide), getD_ne _ _ _ _ (by decide), getD_ne _ _ _ _ (by decide)]).trans e3_191
        have e4_192 := (show t4.getD 192 undef = t3.getD 192 undef by rw [ht, getD_ne _ _ _ _ (by decide), getD_ne _ _ _ _ (by decide), getD_ne _ _ _ _ (by decide)]).trans e3_192
        have e4_199 := (show t4.getD 199 undef = t3.getD 199 undef by rw [ht, getD_ne _ _ _ _ (by decide), getD_ne _ _ _ _ (by decide), getD_ne _ _ _ _ (by decide)]).trans e3_199
        have e4_200 := (show t4.getD 200 undef = t3.getD 200 undef by rw [ht, getD_ne _ _ _ _ (by decide), getD_ne _ _ _ _ (by decide), getD_ne _ _ _ _ (by decide)]).trans e3_200
        have e4_198 := (show t4.getD 198 undef = t3.getD 198 undef by rw [ht, getD_ne _ _ _ _ (by decide), getD_ne _ _ _ _ (by decide), getD_ne _ _ _ _ (by decide)]).trans e3_198
        have e4_203 := (show t4.getD 203 undef = t3.getD 203 undef by rw [ht, getD_ne _ _ _ _ (by decide), getD_ne _ _ _ _ (by decide), getD_ne _ _ _ _ (by decide)]).trans e3_203
        have e4_195 : t4.getD 195 undef = .agg #[.string (bstr y33), .string (bstr []), .int .u64 1, .bool false, .string (bstr [])] := by rw [ht, getD_same _ _ _ (by simp [z3])]
        have H4 : Hid _ := ht
        clear ht z3 e3_191 e3_192 e3_199 e3_200 e3_198 e3_203
        have k_191 := getD_get t4 191 (by omega) e4_191
        have k_192 := getD_get t4 192 (by omega) e4_192
        have k_195 := getD_get t4 195 (by omega) e4_195
        have k_198 := getD_get t4 198 (by omega) e4_198
        have k_199 := getD_get t4 199 (by omega) e4_199
        have k_200 := getD_get t4 200 (by omega) e4_200
        have k_203 := getD_get t4 203 (by omega) e4_203
        clear e4_191 e4_192 e4_195 e4_198 e4_199 e4_200 e4_203
        refine wpAnyH_ready (rs := [13]) (by kernel_rfl) (by simp) ?_
        refine AllReadyH.cons rfl (fun K hK => ?_) AllReadyH.nil
        go_simp
        refine hK _ _ ⟨old_block _ hz3.1, old_block _ hz3.2.1, old_block _ hz3.2.2⟩ ?_
        intro _
        clear hK K
        refine wpAnyH_ready (rs := [14]) (by kernel_rfl) (by simp) ?_
        refine AllReadyH.cons rfl (fun K hK => ?_) AllReadyH.nil
        go_simp
        refine hK _ _ ⟨old_block _ hz3.1, old_block _ hz3.2.1, old_block _ hz3.2.2⟩ ?_
        intro _
        clear hK K
        refine wpAnyH_done (by kernel_rfl) ?_ _
        refine NoPanic.normal ?_
        have hq := h (X.heap.size + 1 + 1 + 1) (.slice (some ⟨X.heap.size + 1 + 1, 0, none⟩) 33 33) (.slice (some ⟨X.heap.size, 0, none⟩) 17 17) (.slice (some ⟨X.heap.size + 1, 0, none⟩) 65537 65537) ((((X.alloc (.cells z17 5)).alloc (.cells zB 5)).alloc (.cells z33 5)).alloc (.cells (badCells y33 y17 yB) 37)).drew (fun j v hj => (World.cell?_alloc_at (badCells y33 y17 yB) 37 (X.heap.size + 1 + 1 + 1) j (by simp)).trans hj) (RowKit.Below.drew ((((((RowKit.Below.refl _ X).alloc (Nat.le_refl _) _).alloc (by simp) _).alloc (by simp; omega) _)).alloc (by simp; omega) _))
        have hw : (put3 (put3 (put3 (base4 a) 196 (.slice (some ⟨X.heap.size, 0, none⟩) 17 17) (.string (bstr y17)) (.agg #[.string (bstr [114]), .string (bstr y17), .int .u64 1, .bool false, .string (bstr [])])) 201 (.slice (some ⟨X.heap.size + 1, 0, none⟩) 65537 65537) (.string (bstr yB)) (.agg #[.string (bstr [114]), .string (bstr []), .int .u64 1, .bool false, .string (bstr yB)])) 193 (.slice (some ⟨X.heap.size + 1 + 1, 0, none⟩) 33 33) (.string (bstr y33)) (.agg #[.string (bstr y33), .string (bstr []), .int .u64 1, .bool false, .string (bstr [])])) = fin3 y33 y17 yB a (.slice (some ⟨X.heap.size + 1 + 1, 0, none⟩) 33 33) (.slice (some ⟨X.heap.size, 0, none⟩) 17 17) (.slice (some ⟨X.heap.size + 1, 0, none⟩) 65537 65537) := by
          unfold fin3
          rw [put3_comm _ 193 201 _ _ _ _ _ _ (by omega), put3_comm _ 193 196 _ _ _ _ _ _ (by omega)]
        unfold finA at hq
        rw [← hw] at hq
        simp only [put3, Nat.reduceAdd, base4_defers, badCells] at hq
        rw [H4.out, H3.out, H2.out, H1.out]
        exact hq
  refine AllReadyH.cons rfl (fun K hK => ?_) AllReadyH.nil
  · go_simp
    refine hK _ _ trivial ?_
    intro _
    clear hK K
    refine wpAnyH_turn (S := fun w => Zb zB (X.heap.size) w) (fun _ _ => trivial) _ _ _ _ ?_
    have hz1 : (fun w => Zb zB (X.heap.size) w) (X.alloc (.cells zB 5)) := (show Zb zB (X.heap.size) (X.alloc (.cells zB 5)) from (by unfold Zb; exact heap_alloc_new X _))
    refine wpAnyH_take (i := 11) (v := .string (bstr yB)) rfl (by kernel_rfl) (by kernel_rfl) (by kernel_rfl) (fun _ _ _ h => h) (Or.inl ⟨by rfl, ?y⟩) hz1 ?_
    case y => (intro w hS; have hc := cB w _ hS; go_simp)
    simp only [Act.put]
    refine wpAnyH_take (i := 12) (v := .agg #[.string (bstr [114]), .string (bstr []), .int .u64 1, .bool false, .string (bstr yB)]) rfl (by kernel_rfl) (by kernel_rfl) (by kernel_rfl) (fun _ _ _ h => h) (Or.inl ⟨by rfl, ?y⟩) hz1 ?_
    case y => (intro w _; go_simp; try with_reducible rfl)
    simp only [Act.put]
    obtain ⟨t2, ht⟩ : ∃ u, u = ((t1.setIfInBounds 201 (.slice (some ⟨X.heap.size, 0, none⟩) 65537 65537)).setIfInBounds 202 (.string (bstr yB))).setIfInBounds 203 (.agg #[.string (bstr [114]), .string (bstr []), .int .u64 1, .bool false, .string (bstr yB)]) := ⟨_, rfl⟩
    change wpAnyH _ _ _ _ _ _ _ { tmps := ((t1.setIfInBounds 201 (.slice (some ⟨X.heap.size, 0, none⟩) 65537 65537)).setIfInBounds 202 (.string (bstr yB))).setIfInBounds 203 (.agg #[.string (bstr [114]), .string (bstr []), .int .u64 1, .bool false, .string (bstr yB)]), defers := a.defers } _
    rw [← ht]
    have z2 : t2.size = 263 := by rw [ht]; simp [z1]
    have e2_191 := (show t2.getD 191 undef = t1.getD 191 undef by rw [ht, getD_ne _ _ _ _ (by decide), getD_ne _ _ _ _ (by decide), getD_ne _ _ _ _ (by decide)]).trans e1_191
    have e2_192 := (show t2.getD 192 undef = t1.getD 192 undef by rw [ht, getD_ne _ _ _ _ (by decide), getD_ne _ _ _ _ (by decide), getD_ne _ _ _ _ (by decide)]).trans e1_192
    have e2_199 := (show t2.getD 199 undef = t1.getD 199 undef by rw [ht, getD_ne _ _ _ _ (by decide), getD_ne _ _ _ _ (by decide), getD_ne _ _ _ _ (by decide)]).trans e1_199
    have e2_200 := (show t2.getD 200 undef = t1.getD 200 undef by rw [ht, getD_ne _ _ _ _ (by decide), getD_ne _ _ _ _ (by decide), getD_ne _ _ _ _ (by decide)]).trans e1_200
    have e2_203 : t2.getD 203 undef = .agg #[.string (bstr [114]), .string (bstr []), .int .u64 1, .bool false, .string (bstr yB)] := by rw [ht, getD_same _ _ _ (by simp [z1])]
    have H2 : Hid _ := ht
    clear ht z1 e1_191 e1_192 e1_199 e1_200
    refine wpAnyH_ready (rs := [2, 5]) (by kernel_rfl) (by simp) ?_
    refine AllReadyH.cons rfl (fun K hK => ?_) ?_
    · go_simp
      refine hK _ _ (old_block _ hz1) ?_
      intro _
      clear hK K
      refine wpAnyH_turn (S := fun w => Zb zB (X.heap.size) w ∧ Zb z33 (X.heap.size + 1) w) (fun _ h => h.1) _ _ _ _ ?_
      have hz2 : (fun w => Zb zB (X.heap.size) w ∧ Zb z33 (X.heap.size + 1) w) ((X.alloc (.cells zB 5)).alloc (.cells z33 5)) := ⟨old_block _ hz1, (show Zb z33 (X.heap.size + 1) ((X.alloc (.cells zB 5)).alloc (.cells z33 5)) from (by unfold Zb; rw [show X.heap.size + 1 = (X.alloc (.cells zB 5)).heap.size from by simp]; exact heap_alloc_new (X.alloc (.cells zB 5)) _))⟩
      refine wpAnyH_take (i := 3) (v := .string (bstr y33)) rfl (by kernel_rfl) (by kernel_rfl) (by kernel_rfl) (fun _ _ _ h => h) (Or.inl ⟨by rfl, ?y⟩) hz2 ?_
      case y => (intro w hS; have hc := c33 w _ hS.2; go_simp)
      simp only [Act.put]
      refine wpAnyH_take (i := 4) (v := .agg #[.string (bstr y33), .string (bstr []), .int .u64 1, .bool false, .string (bstr [])]) rfl (by kernel_rfl) (by kernel_rfl) (by kernel_rfl) (fun _ _ _ h => h) (Or.inl ⟨by rfl, ?y⟩) hz2 ?_
      case y => (intro w _; go_simp; try with_reducible rfl)
      simp only [Act.put]
      obtain ⟨t3, ht⟩ : ∃ u, u = ((t2.setIfInBounds 193 (.slice (some ⟨X.heap.size + 1, 0, none⟩) 33 33)).setIfInBounds 194 (.string (bstr y33))).setIfInBounds 195 (.agg #[.string (bstr y33), .string (bstr []), .int .u64 1, .bool false, .string (bstr [])]) := ⟨_, rfl⟩
      change wpAnyH _ _ _ _ _ _ _ { tmps := ((t2.setIfInBounds 193 (.slice (some ⟨X.heap.size + 1, 0, none⟩) 33 33)).setIfInBounds 194 (.string (bstr y33))).setIfInBounds 195 (.agg #[.string (bstr y33), .string (bstr []), .int .u64 1, .bool false, .string (bstr [])]), defers := a.defers } _
      rw [← ht]
      have z3 : t3.size = 263 := by rw [ht]; simp [z2]
      have e3_191 := (show t3.getD 191 undef = t2.getD 191 undef by rw [ht, getD_ne _ _ _ _ (by decide), getD_ne _ _ _ _ (by decide), getD_ne _ _ _ _ (by decide)]).trans e2_191
      have e3_192 := (show t3.getD 192 undef = t2.getD 192 undef by rw [ht, getD_ne _ _ _ _ (by decide), getD_ne _ _ _ _ (by decide), getD_ne _ _ _ _ (by decide)]).trans e2_192
      have e3_199 := (show t3.getD 199 undef = t2.getD 199 undef by rw [ht, getD_ne _ _ _ _ (by decide), getD_ne _ _ _ _ (by decide), getD_ne _ _ _ _ (by decide)]).trans e2_199
      have e3_200 := (show t3.getD 200 undef = t2.getD 200 undef by rw [ht, getD_ne _ _ _ _ (by decide), getD_ne _ _ _ _ (by decide), getD_ne _ _ _ _ (by decide)]).trans e2_200
      have e3_203 := (show t3.getD 203 undef = t2.getD 203 undef by rw [ht, getD_ne _ _ _ _ (by decide), getD_ne _ _ _ _ (by decide), getD_ne _ _ _ _ (by decide)]).trans e2_203
      have e3_195 : t3.getD 195 undef = .agg #[.string (bstr y33), .string (bstr []), .int .u64 1, .bool false, .string (bstr [])] := by rw [ht, getD_same _ _ _ (by simp [z2])]
      have H3 : Hid _ := ht
      clear ht z2 e2_191 e2_192 e2_199 e2_200 e2_203
      refine wpAnyH_ready (rs := [5]) (by kernel_rfl) (by simp) ?_
      refine AllReadyH.cons rfl (fun K hK => ?_) AllReadyH.nil
      · go_simp
        refine hK _ _ ⟨old_block _ hz2.1, old_block _ hz2.2⟩ ?_
        intro _
        clear hK K
        refine wpAnyH_turn (S := fun w => Zb zB (X.heap.size) w ∧ Zb z33 (X.heap.size + 1) w ∧ Zb z17 (X.heap.size + 1 + 1) w) (fun _ h => ⟨h.1, h.2.1⟩) _ _ _ _ ?_
        have hz3 : (fun w => Zb zB (X.heap.size) w ∧ Zb z33 (X.heap.size + 1) w ∧ Zb z17 (X.heap.size + 1 + 1) w) (((X.alloc (.cells zB 5)).alloc (.cells z33 5)).alloc (.cells z17 5)) := ⟨old_block _ hz2.1, old_block _ hz2.2, (show Zb z17 (X.heap.size + 1 + 1) (((X.alloc (.cells zB 5)).alloc (.cells z33 5)).alloc (.cells z17 5)) from (by unfold Zb; rw [show X.heap.size + 1 + 1 = ((X.alloc (.cells zB 5)).alloc (.cells z33 5)).heap.size from by simp]; exact heap_alloc_new ((X.alloc (.cells zB 5)).alloc (.cells z33 5)) _))⟩
        refine wpAnyH_take (i := 6) (v := .string (bstr y17)) rfl (by kernel_rfl) (by kernel_rfl) (by kernel_rfl) (fun _ _ _ h => h) (Or.inl ⟨by rfl, ?y⟩) hz3 ?_
        case y => (intro w hS; have hc := c17 w _ hS.2.2; go_simp)
        simp only [Act.put]
        refine wpAnyH_take (i := 7) (v := .agg #[.string (bstr [114]), .string (bstr y17), .int .u64 1, .bool false, .string (bstr [])]) rfl (by kernel_rfl) (by kernel_rfl) (by kernel_rfl) (fun _ _ _ h => h) (Or.inl ⟨by rfl, ?y⟩) hz3 ?_
        case y => (intro w _; go_simp; try with_reducible rfl)
        simp only [Act.put]
        obtain ⟨t4, ht⟩ : ∃ u, u = ((t3.setIfInBounds 196 (.slice (some ⟨X.heap.size + 1 + 1, 0, none⟩) 17 17)).setIfInBounds 197 (.string (bstr y17))).setIfInBounds 198 (.agg #[.string (bstr [114]), .string (bstr y17), .int .u64 1, .bool false, .string (bstr [])]) := ⟨_, rfl⟩
        change wpAnyH _ _ _ _ _ _ _ { tmps := ((t3.setIfInBounds 196 (.slice (some ⟨X.heap.size + 1 + 1, 0, none⟩) 17 17)).setIfInBounds 197 (.string (bstr y17))).setIfInBounds 198 (.agg #[.string (bstr [114]), .string (bstr y17), .int .u64 1, .bool false, .string (bstr [])]), defers := a.defers } _
        rw [← ht]
        have z4 : t4.size = 263 := by rw [ht]; simp [z3]
        have e4_191 := (show t4.getD 191 undef = t3.getD 191 undef by rw [ht, getD_ne _ _ _ _ (by decide), getD_ne _ _ _ _ (by decide), getD_ne _ _ _ _ (by decide)]).trans e3_191
        have e4_192 := (show t4.getD 192 undef = t3.getD 192 undef by rw [ht, getD_ne _ _ _ _ (by decide), getD_ne _ _ _ _ (by decide), getD_ne _ _ _ _ (by decide)]).trans e3_192
        have e4_199 := (show t4.getD 199 undef = t3.getD 199 undef by rw [ht, getD_ne _ _ _ _ (by decide), getD_ne _ _ _ _ (by decide), getD_ne _ _ _ _ (by decide)]).trans e3_199
        have e4_200 := (show t4.getD 200 undef = t3.getD 200 undef by rw [ht, getD_ne _ _ _ _ (by decide), getD_ne _ _ _ _ (by decide), getD_ne _ _ _ _ (by decide)]).trans e3_200
        have e4_203 := (show t4.getD 203 undef = t3.getD 203 undef by rw [ht, getD_ne _ _ _ _ (by decide), getD_ne _ _ _ _ (by decide), getD_ne _ _ _ _ (by decide)]).trans e3_203
        have e4_195 := (show t4.getD 195 undef = t3.getD 195 undef by rw [ht, getD_ne _ _ _ _ (by decide), getD_ne _ _ _ _ (by decide), getD_ne _ _ _ _ (by decide)]).trans e3_195
        have e4_198 : t4.getD 198 undef = .agg #[.string (bstr [114]), .string (bstr y17), .int .u64 1, .bool false, .string (bstr [])] := by rw [ht, getD_same _ _ _ (by simp [z3])]
        have H4 : Hid _ := ht
        clear ht z3 e3_191 e3_192 e3_199 e3_200 e3_203 e3_195
        have k_191 := getD_get t4 191 (by omega) e4_191
        have k_192 := getD_get t4 192 (by omega) e4_192
        have k_195 := getD_get t4 195 (by omega) e4_195
        have k_198 := getD_get t4 198 (by omega) e4_198
        have k_199 := getD_get t4 199 (by omega) e4_199
        have k_200 := getD_get t4 200 (by omega) e4_200
        have k_203 := getD_get t4 203 (by omega) e4_203
        clear e4_191 e4_192 e4_195 e4_198 e4_199 e4_200 e4_203
        refine wpAnyH_ready (rs := [13]) (by kernel_rfl) (by simp) ?_
        refine AllReadyH.cons rfl (fun K hK => ?_) AllReadyH.nil
        go_simp
        refine hK _ _ ⟨old_block _ hz3.1, old_block _ hz3.2.1, old_block _ hz3.2.2⟩ ?_
        intro _
        clear hK K
        refine wpAnyH_ready (rs := [14]) (by kernel_rfl) (by simp) ?_
        refine AllReadyH.cons rfl (fun K hK => ?_) AllReadyH.nil
        go_simp
        refine hK _ _ ⟨old_block _ hz3.1, old_block _ hz3.2.1, old_block _ hz3.2.2⟩ ?_
        intro _
        clear hK K
        refine wpAnyH_done (by kernel_rfl) ?_ _
        refine NoPanic.normal ?_
        have hq := h (X.heap.size + 1 + 1 + 1) (.slice (some ⟨X.heap.size + 1, 0, none⟩) 33 33) (.slice (some ⟨X.heap.size + 1 + 1, 0, none⟩) 17 17) (.slice (some ⟨X.heap.size, 0, none⟩) 65537 65537) ((((X.alloc (.cells zB 5)).alloc (.cells z33 5)).alloc (.cells z17 5)).alloc (.cells (badCells y33 y17 yB) 37)).drew (fun j v hj => (World.cell?_alloc_at (badCells y33 y17 yB) 37 (X.heap.size + 1 + 1 + 1) j (by simp)).trans hj) (RowKit.Below.drew ((((((RowKit.Below.refl _ X).alloc (Nat.le_refl _) _).alloc (by simp) _).alloc (by simp; omega) _)).alloc (by simp; omega) _))
        have hw : (put3 (put3 (put3 (base4 a) 201 (.slice (some ⟨X.heap.size, 0, none⟩) 65537 65537) (.string (bstr yB)) (.agg #[.string (bstr [114]), .string (bstr []), .int .u64 1, .bool false, .string (bstr yB)])) 193 (.slice (some ⟨X.heap.size + 1, 0, none⟩) 33 33) (.string (bstr y33)) (.agg #[.string (bstr y33), .string (bstr []), .int .u64 1, .bool false, .string (bstr [])])) 196 (.slice (some ⟨X.heap.size + 1 + 1, 0, none⟩) 17 17) (.string (bstr y17)) (.agg #[.string (bstr [114]), .string (bstr y17), .int .u64 1, .bool false, .string (bstr [])])) = fin3 y33 y17 yB a (.slice (some ⟨X.heap.size + 1, 0, none⟩) 33 33) (.slice (some ⟨X.heap.size + 1 + 1, 0, none⟩) 17 17) (.slice (some ⟨X.heap.size, 0, none⟩) 65537 65537) := by
          unfold fin3
          rw [put3_comm _ 193 201 _ _ _ _ _ _ (by omega), put3_comm _ 196 201 _ _ _ _ _ _ (by omega)]
        unfold finA at hq
        rw [← hw] at hq
        simp only [put3, Nat.reduceAdd, base4_defers, badCells] at hq
        rw [H4.out, H3.out, H2.out, H1.out]
        exact hq
    refine AllReadyH.cons rfl (fun K hK => ?_) AllReadyH.nil
    · go_simp
      refine hK _ _ (old_block _ hz1) ?_
      intro _
      clear hK K
      refine wpAnyH_turn (S := fun w => Zb zB (X.heap.size) w ∧ Zb z17 (X.heap.size + 1) w) (fun _ h => h.1) _ _ _ _ ?_
      have hz2 : (fun w => Zb zB (X.heap.size) w ∧ Zb z17 (X.heap.size + 1) w) ((X.alloc (.cells zB 5)).alloc (.cells z17 5)) := ⟨old_block _ hz1, (show Zb z17 (X.heap.size + 1) ((X.alloc (.cells zB 5)).alloc (.cells z17 5)) from (by unfold Zb; rw [show X.heap.size + 1 = (X.alloc (.cells zB 5)).heap.size from by simp]; exact heap_alloc_new (X.alloc (.cells zB 5)) _))⟩
      refine wpAnyH_take (i := 6) (v := .string (bstr y17)) rfl (by kernel_rfl) (by kernel_rfl) (by kernel_rfl) (fun _ _ _ h => h) (Or.inl ⟨by rfl, ?y⟩) hz2 ?_
      case y => (intro w hS; have hc := c17 w _ hS.2; go_simp)
      simp only [Act.put]
      refine wpAnyH_take (i := 7) (v := .agg #[.string (bstr [114]), .string (bstr y17), .int .u64 1, .bool false, .string (bstr [])]) rfl (by kernel_rfl) (by kernel_rfl) (by kernel_rfl) (fun _ _ _ h => h) (Or.inl ⟨by rfl, ?y⟩) hz2 ?_
      case y => (intro w _; go_simp; try with_reducible rfl)
      simp only [Act.put]
      obtain ⟨t3, ht⟩ : ∃ u, u = ((t2.setIfInBounds 196 (.slice (some ⟨X.heap.size + 1, 0, none⟩) 17 17)).setIfInBounds 197 (.string (bstr y17))).setIfInBounds 198 (.agg #[.string (bstr [114]), .string (bstr y17), .int .u64 1, .bool false, .string (bstr [])]) := ⟨_, rfl⟩
      change wpAnyH _ _ _ _ _ _ _ { tmps := ((t2.setIfInBounds 196 (.slice (some ⟨X.heap.size + 1, 0, none⟩) 17 17)).setIfInBounds 197 (.string (bstr y17))).setIfInBounds 198 (.agg #[.string (bstr [114]), .string (bstr y17), .int .u64 1, .bool false, .string (bstr [])]), defers := a.defers } _
      rw [← ht]
      have z3 : t3.size = 263 := by rw [ht]; simp [z2]
      have e3_191 := (show t3.getD 191 undef = t2.getD 191 undef by rw [ht, getD_ne _ _ _ _ (by decide), getD_ne _ _ _ _ (by decide), getD_ne _ _ _ _ (by decide)]).trans e2_191
      have e3_192 := (show t3.getD 192 undef = t2.getD 192 undef by rw [ht, getD_ne _ _ _ _ (by decide), getD_ne _ _ _ _ (by decide), getD_ne _ _ _ _ (by decide)]).trans e2_192
      have e3_199 := (show t3.getD 199 undef = t2.getD 199 undef by rw [ht, getD_ne _ _ _ _ (by decide), getD_ne _ _ _ _ (by decide), getD_ne _ _ _ _ (by decide)]).trans e2_199
      have e3_200 := (show t3.getD 200 undef = t2.getD 200 undef by rw [ht, getD_ne _ _ _ _ (by decide), getD_ne _ _ _ _ (by decide), getD_ne _ _ _ _ (by decide)]).trans e2_200
      have e3_203 := (show t3.getD 203 undef = t2.getD 203 undef by rw [ht, getD_ne _ _ _ _ (by decide), getD_ne _ _ _ _ (by decide), getD_ne _ _ _ _ (by decide)]).trans e2_203
      have e3_198 : t3.getD 198 undef = .agg #[.string (bstr [114]), .string (bstr y17), .int .u64 1, .bool false, .string (bstr [])] := by rw [ht, getD_same _ _ _ (by simp [z2])]
      have H3 : Hid _ := ht
      clear ht z2 e2_191 e2_192 e2_199 e2_200 e2_203
      refine wpAnyH_ready (rs := [2]) (by kernel_rfl) (by simp) ?_
      refine AllReadyH.cons rfl (fun K hK => ?_) AllReadyH.nil
      · go_simp
        refine hK _ _ ⟨old_block _ hz2.1, old_block _ hz2.2⟩ ?_
        intro _
        clear hK K
        refine wpAnyH_turn (S := fun w => Zb zB (X.heap.size) w ∧ Zb z17 (X.heap.size + 1) w ∧ Zb z33 (X.heap.size + 1 + 1) w) (fun _ h => ⟨h.1, h.2.1⟩) _ _ _ _ ?_
        have hz3 : (fun w => Zb zB (X.heap.size) w ∧ Zb z17 (X.heap.size + 1) w ∧ Zb z33 (X.heap.size + 1 + 1) w) (((X.alloc (.cells zB 5)).alloc (.cells z17 5)).alloc (.cells z33 5)) := ⟨old_block _ hz2.1, old_block _ hz2.2, (show Zb z33 (X.heap.size + 1 + 1) (((X.alloc (.cells zB 5)).alloc (.cells z17 5)).alloc (.cells z33 5)) from (by unfold Zb; rw [show X.heap.size + 1 + 1 = ((X.alloc (.cells zB 5)).alloc (.cells z17 5)).heap.size from by simp]; exact heap_alloc_new ((X.alloc (.cells zB 5)).alloc (.cells z17 5)) _))⟩
        refine wpAnyH_take (i := 3) (v := .string (bstr y33)) rfl (by kernel_rfl) (by kernel_rfl) (by kernel_rfl) (fun _ _ _ h => h) (Or.inl ⟨by rfl, ?y⟩) hz3 ?_
        case y => (intro w hS; have hc := c33 w _ hS.2.2; go_simp)
        simp only [Act.put]
        refine wpAnyH_take (i := 4) (v := .agg #[.string (bstr y33), .string (bstr []), .int .u64 1, .bool false, .string (bstr [])]) rfl (by kernel_rfl) (by kernel_rfl) (by kernel_rfl) (fun _ _ _ h => h) (Or.inl ⟨by rfl, ?y⟩) hz3 ?_
        case y => (intro w _; go_simp; try with_reducible rfl)
        simp only [Act.put]
        obtain ⟨t4, ht⟩ : ∃ u, u = ((t3.setIfInBounds 193 (.slice (some ⟨X.heap.size + 1 + 1, 0, none⟩) 33 33)).setIfInBounds 194 (.string (bstr y33))).setIfInBounds 195 (.agg #[.string (bstr y33), .string (bstr []), .int .u64 1, .bool false, .string (bstr [])]) := ⟨_, rfl⟩
        change wpAnyH _ _ _ _ _ _ _ { tmps := ((t3.setIfInBounds 193 (.slice (some ⟨X.heap.size + 1 + 1, 0, none⟩) 33 33)).setIfInBounds 194 (.string (bstr y33))).setIfInBounds 195 (.agg #[.string (bstr y33), .string (bstr []), .int .u64 1, .bool false, .string (bstr [])]), defers := a.defers } _
        rw [← ht]
        have z4 : t4.size = 263 := by rw [ht]; simp [z3]
        have e4_191 := (show t4.getD 191 undef = t3.getD 191 undef by rw [ht, getD_ne _ _ _ _ (by decide), getD_ne _ _ _ _ (by decide), getD_ne _ _ _ _ (by decide)]).trans e3_191
        have e4_192 := (show t4.getD 192 undef = t3.getD 192 undef by rw [ht, getD_ne _ _ _ _ (by decide), getD_ne _ _ _ _ (by decide), getD_ne _ _ _ _ (by decide)]).trans e3_192
        have e4_199 := (show t4.getD 199 undef = t3.getD 199 undef by rw [ht, getD_ne _ _ _ _ (by decide), getD_ne _ _ _ _ (by decide), getD_ne _ _ _ _ (by decide)]).trans e3_199
        have e4_200 := (show t4.getD 200 undef = t3.getD 200 undef by rw [ht, getD_ne _ _ _ _ (by decide), getD_ne _ _ _ _ (by decide), getD_ne _ _ _ _ (by decide)]).trans e3_200
        have e4_203 := (show t4.getD 203 undef = t3.getD 203 undef by rw [ht, getD_ne _ _ _ _ (by decide), getD_ne _ _ _ _ (by decide), getD_ne _ _ _ _ (by decide)]).trans e3_203
        have e4_198 := (show t4.getD 198 undef = t3.getD 198 undef by rw [ht, getD_ne _ _ _ _ (by decide), getD_ne _ _ _ _ (by decide), getD_ne _ _ _ _ (by decide)]).trans e3_198
        have e4_195 : t4.getD 195 undef = .agg #[.string (bstr y33), .string (bstr []), .int .u64 1, .bool false, .string (bstr [])] := by rw [ht, getD_same _ _ _ (by simp [z3])]
        have H4 : Hid _ := ht
        clear ht z3 e3_191 e3_192 e3_199 e3_200 e3_203 e3_198
        have k_191 := getD_get t4 191 (by omega) e4_191
        have k_192 := getD_get t4 192 (by omega) e4_192
        have k_195 := getD_get t4 195 (by omega) e4_195
        have k_198 := getD_get t4 198 (by omega) e4_198
        have k_199 := getD_get t4 199 (by omega) e4_199
        have k_200 := getD_get t4 200 (by omega) e4_200
        have k_203 := getD_get t4 203 (by omega) e4_203
        clear e4_191 e4_192 e4_195 e4_198 e4_199 e4_200 e4_203
        refine wpAnyH_ready (rs := [13]) (by kernel_rfl) (by simp) ?_
        refine AllReadyH.cons rfl (fun K hK => ?_) AllReadyH.nil
        go_simp
        refine hK _ _ ⟨old_block _ hz3.1, old_block _ hz3.2.1, old_block _ hz3.2.2⟩ ?_
        intro _
        clear hK K
        refine wpAnyH_ready (rs := [14]) (by kernel_rfl) (by simp) ?_
        refine AllReadyH.cons rfl (fun K hK => ?_) AllReadyH.nil
        go_simp
        refine hK _ _ ⟨old_block _ hz3.1, old_block _ hz3.2.1, old_block _ hz3.2.2⟩ ?_
        intro _
        clear hK K
        refine wpAnyH_done (by kernel_rfl) ?_ _
        refine NoPanic.normal ?_
        have hq := h (X.heap.size + 1 + 1 + 1) (.slice (some ⟨X.heap.size + 1 + 1, 0, none⟩) 33 33) (.slice (some ⟨X.heap.size + 1, 0, none⟩) 17 17) (.slice (some ⟨X.heap.size, 0, none⟩) 65537 65537) ((((X.alloc (.cells zB 5)).alloc (.cells z17 5)).alloc (.cells z33 5)).alloc (.cells (badCells y33 y17 yB) 37)).drew (fun j v hj => (World.cell?_alloc_at (badCells y33 y17 yB) 37 (X.heap.size + 1 + 1 + 1) j (by simp)).trans hj) (RowKit.Below.drew ((((((RowKit.Below.refl _ X).alloc (Nat.le_refl _) _).alloc (by simp) _).alloc (by simp; omega) _)).alloc (by simp; omega) _))
        have hw : (put3 (put3 (put3 (base4 a) 201 (.slice (some ⟨X.heap.size, 0, none⟩) 65537 65537) (.string (bstr yB)) (.agg #[.string (bstr [114]), .string (bstr []), .int .u64 1, .bool false, .string (bstr yB)])) 196 (.slice (some ⟨X.heap.size + 1, 0, none⟩) 17 17) (.string (bstr y17)) (.agg #[.string (bstr [114]), .string (bstr y17), .int .u64 1, .bool false, .string (bstr [])])) 193 (.slice (some ⟨X.heap.size + 1 + 1, 0, none⟩) 33 33) (.string (bstr y33)) (.agg #[.string (bstr y33), .string (bstr []), .int .u64 1, .bool false, .string (bstr [])])) = fin3 y33 y17 yB a (.slice (some ⟨X.heap.size + 1 + 1, 0, none⟩) 33 33) (.slice (some ⟨X.heap.size + 1, 0, none⟩) 17 17) (.slice (some ⟨X.heap.size, 0, none⟩) 65537 65537) := by
          unfold fin3
          rw [put3_comm _ 193 196 _ _ _ _ _ _ (by omega), put3_comm _ 193 201 _ _ _ _ _ _ (by omega), put3_comm _ 196 201 _ _ _ _ _ _ (by omega)]
        unfold finA at hq
        rw [← hw] at hq
        simp only [put3, Nat.reduceAdd, base4_defers, badCells] at hq
        rw [H4.out, H3.out, H2.out, H1.out]
        exact hq

end Go.Proofs.Ytalkhkndelpdfaa
