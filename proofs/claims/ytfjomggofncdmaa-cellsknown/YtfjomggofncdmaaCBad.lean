/-
  A list of five cells that may not be, two of them with texts made of bytes 0: whatever order their parts are made in, the list stands in a new block, and nothing else has turned.
-/
import Derived.Test.YtfjomggofncdmaaCWks
import Derived.Test.YtfjomggofncdmaaMade
import Derived.Deep.RegionHeld3
namespace Go.Proofs.Ytfjomggofncdmaa
open Go.RowKit Go.BigFrame Go.Sort
attribute [local go_sem] size_bstr toList_bstr

def tl : Nat → Code → Code
  | n + 1, .seq _ r => tl n r
  | _, c => c
def hd : Code → Code
  | .seq l _ => l
  | c => c
theorem getD_same (t : Array Value) (i : Nat) (v : Value) (h : i < t.size) : (t.setIfInBounds i v).getD i undef = v := by
  simp [Array.getD, h]
theorem getD_ne (t : Array Value) (i j : Nat) (v : Value) (h : i ≠ j) : (t.setIfInBounds i v).getD j undef = t.getD j undef := by
  rw [Array.getD_eq_getD_getElem?, Array.getD_eq_getD_getElem?, Array.getElem?_setIfInBounds_ne h]
/-- Three slots next to one another are filled. -/
def put3 (a : Act) (i : Nat) (x y z : Value) : Act := { a with tmps := ((a.tmps.setIfInBounds i x).setIfInBounds (i + 1) y).setIfInBounds (i + 2) z }
theorem put3_comm (a : Act) (i j : Nat) (x y z x' y' z' : Value) (h : i + 3 ≤ j) : put3 (put3 a j x' y' z') i x y z = put3 (put3 a i x y z) j x' y' z' := by
  have c : ∀ (t : Array Value) (k l : Nat) (u v : Value), k ≠ l → (t.setIfInBounds k u).setIfInBounds l v = (t.setIfInBounds l v).setIfInBounds k u := fun t k l u v hkl => Array.setIfInBounds_comm u v hkl
  unfold put3
  simp only [Act.mk.injEq, and_true]
  rw [c _ (j + 2) i _ _ (by omega), c _ (j + 1) i _ _ (by omega), c _ j i _ _ (by omega), c _ (j + 2) (i + 1) _ _ (by omega), c _ (j + 1) (i + 1) _ _ (by omega), c _ j (i + 1) _ _ (by omega), c _ (j + 2) (i + 2) _ _ (by omega), c _ (j + 1) (i + 2) _ _ (by omega), c _ j (i + 2) _ _ (by omega)]
def put1 (a : Act) (i : Nat) (x : Value) : Act := { a with tmps := a.tmps.setIfInBounds i x }
theorem put1_comm (a : Act) (i j : Nat) (x x' y' z' : Value) (h : i + 1 ≤ j) : put1 (put3 a j x' y' z') i x = put3 (put1 a i x) j x' y' z' := by
  have c : ∀ (t : Array Value) (k l : Nat) (u v : Value), k ≠ l → (t.setIfInBounds k u).setIfInBounds l v = (t.setIfInBounds l v).setIfInBounds k u := fun t k l u v hkl => Array.setIfInBounds_comm u v hkl
  unfold put1 put3
  simp only [Act.mk.injEq, and_true]
  rw [c _ (j + 2) i _ _ (by omega), c _ (j + 1) i _ _ (by omega), c _ j i _ _ (by omega)]
theorem wpAnyH_turn {P : Program} {md : Region.Mode} {ops : Array Oper} {Q : Exit → Act → World → Prop} {S S' : World → Prop} (hS : ∀ w, S w → S' w) : ∀ (fuel : Nat) (listed : Array Bool) (a : Act) (w : World), wpAnyH P md ops Q S fuel listed a w → wpAnyH P md ops Q S' fuel listed a w
  | 0, _, _, _, h => h
  | fuel + 1, _, _, _, h => ⟨h.1, fun i hi => wpOp_mono (fun a' w' h' => ⟨hS w' h'.1, wpAnyH_turn hS fuel _ a' w' h'.2⟩) (h.2 i hi)⟩
/-- Block b is a new row of n bytes. -/
def Zb (z : Array Value) (b : Nat) (W : World) : Prop := W.heap[b]? = some (.cells z 5 (0, 0))
theorem Zb.step {z : Array Value} {b : Nat} {W W' : World} (h : Zb z b W) (hb : RowKit.Below W.heap.size W W') : Zb z b W' := (hb.block b (lt_of_block h)).trans h
theorem Zb.alloc {z : Array Value} {b : Nat} {W : World} (h : Zb z b W) (o : Obj) : Zb z b (W.alloc o) := h.step ((RowKit.Below.refl _ W).alloc (Nat.le_refl _) o)
theorem cvw (W : World) (b n : Nat) (h : Zb (zs n) b W) (hn : n ≤ 2000000) :
    (convert 32 9 (.slice (some ⟨b, 0, none⟩) n n)).run Try.prog W = .ok (.string (bstr (zeros n))) W := by
  have hown : W.ownsRow 0 5 1 (.slice (some ⟨b, 0, none⟩) n n) n (Lib.byteCells (zeros n)) := by
    have hl : (zs n).size = n := by rw [← Array.length_toList, zs_toList, Lib.byteCells_length, zeros_length]
    refine ⟨by rw [Lib.byteCells_length, zeros_length]; omega, .inr ⟨b, n, zs n, rfl, Nat.zero_le _, h, Nat.le_refl _, by unfold maxLen; omega, by omega, ?_⟩⟩
    rw [zs_toList, List.take_of_length_le (by rw [Lib.byteCells_length, zeros_length]; omega)]
  exact run_convert_own hown Try.underlying32 Try.underlying5 Try.underlying9

theorem getD_get (t : Array Value) (i : Nat) (h : i < t.size) {v : Value} (e : t.getD i undef = v) : t[i]'h = v := by
  rw [← e]
  simp [Array.getD, h]
/-- The cells of the list. -/
def badL (y33 y17 : List UInt8) : List Cl := [⟨[97], [120], 1099511627777, false, []⟩, ⟨[97], [120], 1, true, [118]⟩, ⟨[], [], 1, false, []⟩, ⟨y33, [120], 1, false, []⟩, ⟨[97], y17, 1, false, []⟩]
def base2 (a : Act) : Act := { a with tmps := (a.tmps.setIfInBounds 93 (.agg #[.string (bstr [97]), .string (bstr [120]), .int .u64 1, .bool true, .string (bstr [118])])).setIfInBounds 94 (.agg #[.string (bstr []), .string (bstr []), .int .u64 1, .bool false, .string (bstr [])]) }
theorem base2_defers (a : Act) : (base2 a).defers = a.defers := rfl
def fin3 (y33 y17 : List UInt8) (a : Act) (p q : Value) : Act := put3 (put3 (put1 (base2 a) 92 (.agg #[.string (bstr [97]), .string (bstr [120]), .int .u64 1099511627777, .bool false, .string (bstr [])])) 95 p (.string (bstr y33)) (.agg #[.string (bstr y33), .string (bstr [120]), .int .u64 1, .bool false, .string (bstr [])])) 98 q (.string (bstr y17)) (.agg #[.string (bstr [97]), .string (bstr y17), .int .u64 1, .bool false, .string (bstr [])])
def finA (y33 y17 : List UInt8) (a : Act) (p q s : Value) : Act := { fin3 y33 y17 a p q with tmps := ((fin3 y33 y17 a p q).tmps.setIfInBounds 101 s).setIfInBounds 24 s }
attribute [local go_sem] getD_same getD_ne

set_option maxHeartbeats 4000000 in
set_option maxRecDepth 100000 in
theorem bad_region (z33 z17 : Array Value) (y33 y17 : List UInt8) (a : Act) (X : World) (Q : Exit → Act → World → Prop) (hsz : a.tmps.size = 204)
    (m33 : ∀ W : World, (Instr.makeSlice 32 (.int .i64 33) (.int .i64 33)).run Try.prog W = .ok (.slice (some ⟨W.heap.size, 0, none⟩) 33 33) (W.alloc (.cells z33 5))) (c33 : ∀ (W : World) (b : Nat), Zb z33 b W → (convert 32 9 (.slice (some ⟨b, 0, none⟩) 33 33)).run Try.prog W = .ok (.string (bstr y33)) W)
    (m17 : ∀ W : World, (Instr.makeSlice 32 (.int .i64 17) (.int .i64 17)).run Try.prog W = .ok (.slice (some ⟨W.heap.size, 0, none⟩) 17 17) (W.alloc (.cells z17 5))) (c17 : ∀ (W : World) (b : Nat), Zb z17 b W → (convert 32 9 (.slice (some ⟨b, 0, none⟩) 17 17)).run Try.prog W = .ok (.string (bstr y17)) W)
    (h : ∀ (n : Nat) (p q : Value) (wx : World), CRow wx n 0 (badL y33 y17) → n < wx.heap.size → RowKit.Below X.heap.size X wx → Q .normal (finA y33 y17 a p q (.slice (some ⟨n, 0, none⟩) 5 5)) wx) :
    (hd (tl 14 (Try.f3.body.getD .skip))).wp Try.prog Q a X := by
  have hE0 : (⟨#[]⟩ : ByteArray) = bstr [] := rfl
  have hE1 : (⟨#[97]⟩ : ByteArray) = bstr [97] := rfl
  have hE4 : (⟨#[120]⟩ : ByteArray) = bstr [120] := rfl
  have hE7 : (⟨#[118]⟩ : ByteArray) = bstr [118] := rfl
  have hat : ∀ W : World, Calls Try.prog 4 #[.string (bstr [97]), .int .u64 1099511627777, .bool false] W fun e w' => e = .returned (.agg #[.string (bstr [97]), .string (bstr [120]), .int .u64 1099511627777, .bool false, .string (bstr [])]) ∧ RowKit.Below W.heap.size W w' := fun W => at_any [97] 1099511627777 false W
  simp only [Try.f3, Option.getD_some, tl, hd]
  refine wp_region_noPanic ?_
  refine wp_region_held (S := fun _ => True) (by kernel_rfl) ?_
  change wpAnyH _ _ _ _ _ _ _ _ (World.drew _)
  have hb0 : RowKit.Below X.heap.size X X.drew := RowKit.Below.drew (RowKit.Below.refl _ X)
  generalize X.drew = W1 at *
  refine wpAnyH_take (i := 1) (v := .agg #[.string (bstr [97]), .string (bstr [120]), .int .u64 1, .bool true, .string (bstr [118])]) rfl (by kernel_rfl) (by kernel_rfl) (by kernel_rfl) (fun _ _ _ h => h) (Or.inl ⟨by rfl, ?y1⟩) trivial ?_
  case y1 => (intro w _; go_simp; try with_reducible rfl)
  refine wpAnyH_take (i := 2) (v := .agg #[.string (bstr []), .string (bstr []), .int .u64 1, .bool false, .string (bstr [])]) rfl (by kernel_rfl) (by kernel_rfl) (by kernel_rfl) (fun _ _ _ h => h) (Or.inl ⟨by rfl, ?y2⟩) trivial ?_
  case y2 => (intro w _; go_simp; try with_reducible rfl)
  simp only [Act.put]
  obtain ⟨t1, ht1⟩ : ∃ t1, t1 = (base2 a).tmps := ⟨_, rfl⟩
  change wpAnyH _ _ _ _ _ _ _ { tmps := (base2 a).tmps, defers := a.defers } _
  rw [← ht1]
  have z1 : t1.size = 204 := by rw [ht1]; simp [base2, hsz]
  have e1_93 : t1.getD 93 undef = .agg #[.string (bstr [97]), .string (bstr [120]), .int .u64 1, .bool true, .string (bstr [118])] := by rw [ht1, base2, getD_ne _ _ _ _ (by decide), getD_same _ _ _ (by omega)]
  have e1_94 : t1.getD 94 undef = .agg #[.string (bstr []), .string (bstr []), .int .u64 1, .bool false, .string (bstr [])] := by rw [ht1, base2, getD_same _ _ _ (by simp [hsz])]
  have H1 : Hid _ := ht1
  clear ht1
  refine wpAnyH_ready (rs := [0, 3, 6]) (by kernel_rfl) (by simp) ?_
  refine AllReadyH.cons rfl (fun K hK => ?_) ?_
  · go_simp
    refine (hat _).mono ?_
    rintro e W2 ⟨rfl, hbn⟩
    have hb1 := below2 hb0 hbn
    refine hK _ _ trivial ?_
    intro _
    clear hK K
    obtain ⟨t2, ht⟩ : ∃ u, u = t1.setIfInBounds 92 (.agg #[.string (bstr [97]), .string (bstr [120]), .int .u64 1099511627777, .bool false, .string (bstr [])]) := ⟨_, rfl⟩
    change wpAnyH _ _ _ _ _ _ _ { tmps := t1.setIfInBounds 92 (.agg #[.string (bstr [97]), .string (bstr [120]), .int .u64 1099511627777, .bool false, .string (bstr [])]), defers := a.defers } _
    rw [← ht]
    have z2 : t2.size = 204 := by rw [ht]; simp [z1]
    have e2_93 := (show t2.getD 93 undef = t1.getD 93 undef by rw [ht, getD_ne _ _ _ _ (by decide)]).trans e1_93
    have e2_94 := (show t2.getD 94 undef = t1.getD 94 undef by rw [ht, getD_ne _ _ _ _ (by decide)]).trans e1_94
    have e2_92 : t2.getD 92 undef = .agg #[.string (bstr [97]), .string (bstr [120]), .int .u64 1099511627777, .bool false, .string (bstr [])] := by rw [ht, getD_same _ _ _ (by omega)]
    have H2 : Hid _ := ht
    clear ht z1 e1_93 e1_94
    refine wpAnyH_ready (rs := [3, 6]) (by kernel_rfl) (by simp) ?_
    refine AllReadyH.cons rfl (fun K hK => ?_) ?_
    · go_simp
      refine hK _ _ trivial ?_
      intro _
      clear hK K
      have hzn : (fun w => Zb z33 W2.heap.size w) (W2.alloc (.cells z33 5)) := (heap_alloc_new W2 _)
      have hb2 := hb1.alloc hb1.size (.cells z33 5)
      clear hb1
      generalize W2.alloc (.cells z33 5) = W3 at *
      generalize W2.heap.size = b33 at *
      have hz := hzn
      clear hzn
      refine wpAnyH_turn (S := fun w => Zb z33 b33 w) (fun _ _ => trivial) _ _ _ _ ?_
      refine wpAnyH_take (i := 4) (v := .string (bstr y33)) rfl (by kernel_rfl) (by kernel_rfl) (by kernel_rfl) (fun _ _ _ h => h) (Or.inl ⟨by rfl, ?y⟩) hz ?_
      case y => (intro w hS; have hc := c33 w _ hS; go_simp)
      simp only [Act.put]
      refine wpAnyH_take (i := 5) (v := .agg #[.string (bstr y33), .string (bstr [120]), .int .u64 1, .bool false, .string (bstr [])]) rfl (by kernel_rfl) (by kernel_rfl) (by kernel_rfl) (fun _ _ _ h => h) (Or.inl ⟨by rfl, ?y⟩) hz ?_
      case y => (intro w _; go_simp; try with_reducible rfl)
      simp only [Act.put]
      obtain ⟨t3, ht⟩ : ∃ u, u = ((t2.setIfInBounds 95 (.slice (some ⟨b33, 0, none⟩) 33 33)).setIfInBounds 96 (.string (bstr y33))).setIfInBounds 97 (.agg #[.string (bstr y33), .string (bstr [120]), .int .u64 1, .bool false, .string (bstr [])]) := ⟨_, rfl⟩
      change wpAnyH _ _ _ _ _ _ _ { tmps := ((t2.setIfInBounds 95 (.slice (some ⟨b33, 0, none⟩) 33 33)).setIfInBounds 96 (.string (bstr y33))).setIfInBounds 97 (.agg #[.string (bstr y33), .string (bstr [120]), .int .u64 1, .bool false, .string (bstr [])]), defers := a.defers } _
      rw [← ht]
      have z3 : t3.size = 204 := by rw [ht]; simp [z2]
      have e3_93 := (show t3.getD 93 undef = t2.getD 93 undef by rw [ht, getD_ne _ _ _ _ (by decide), getD_ne _ _ _ _ (by decide), getD_ne _ _ _ _ (by decide)]).trans e2_93
      have e3_94 := (show t3.getD 94 undef = t2.getD 94 undef by rw [ht, getD_ne _ _ _ _ (by decide), getD_ne _ _ _ _ (by decide), getD_ne _ _ _ _ (by decide)]).trans e2_94
      have e3_92 := (show t3.getD 92 undef = t2.getD 92 undef by rw [ht, getD_ne _ _ _ _ (by decide), getD_ne _ _ _ _ (by decide), getD_ne _ _ _ _ (by decide)]).trans e2_92
      have e3_97 : t3.getD 97 undef = .agg #[.string (bstr y33), .string (bstr [120]), .int .u64 1, .bool false, .string (bstr [])] := by rw [ht, getD_same _ _ _ (by simp [z2])]
      have H3 : Hid _ := ht
      clear ht z2 e2_93 e2_94 e2_92
      refine wpAnyH_ready (rs := [6]) (by kernel_rfl) (by simp) ?_
      refine AllReadyH.cons rfl (fun K hK => ?_) AllReadyH.nil
      · go_simp
        refine hK _ _ (hz.alloc _) ?_
        intro _
        clear hK K
        have hzn : (fun w => Zb z33 b33 w ∧ Zb z17 W3.heap.size w) (W3.alloc (.cells z17 5)) := ⟨hz.alloc _, heap_alloc_new W3 _⟩
        have hb3 := hb2.alloc hb2.size (.cells z17 5)
        clear hb2
        generalize W3.alloc (.cells z17 5) = W4 at *
        generalize W3.heap.size = b17 at *
        clear hz
        have hz := hzn
        clear hzn
        refine wpAnyH_turn (S := fun w => Zb z33 b33 w ∧ Zb z17 b17 w) (fun _ h => h.1) _ _ _ _ ?_
        refine wpAnyH_take (i := 7) (v := .string (bstr y17)) rfl (by kernel_rfl) (by kernel_rfl) (by kernel_rfl) (fun _ _ _ h => h) (Or.inl ⟨by rfl, ?y⟩) hz ?_
        case y => (intro w hS; have hc := c17 w _ hS.2; go_simp)
        simp only [Act.put]
        refine wpAnyH_take (i := 8) (v := .agg #[.string (bstr [97]), .string (bstr y17), .int .u64 1, .bool false, .string (bstr [])]) rfl (by kernel_rfl) (by kernel_rfl) (by kernel_rfl) (fun _ _ _ h => h) (Or.inl ⟨by rfl, ?y⟩) hz ?_
        case y => (intro w _; go_simp; try with_reducible rfl)
        simp only [Act.put]
        obtain ⟨t4, ht⟩ : ∃ u, u = ((t3.setIfInBounds 98 (.slice (some ⟨b17, 0, none⟩) 17 17)).setIfInBounds 99 (.string (bstr y17))).setIfInBounds 100 (.agg #[.string (bstr [97]), .string (bstr y17), .int .u64 1, .bool false, .string (bstr [])]) := ⟨_, rfl⟩
        change wpAnyH _ _ _ _ _ _ _ { tmps := ((t3.setIfInBounds 98 (.slice (some ⟨b17, 0, none⟩) 17 17)).setIfInBounds 99 (.string (bstr y17))).setIfInBounds 100 (.agg #[.string (bstr [97]), .string (bstr y17), .int .u64 1, .bool false, .string (bstr [])]), defers := a.defers } _
        rw [← ht]
        have z4 : t4.size = 204 := by rw [ht]; simp [z3]
        have e4_93 := (show t4.getD 93 undef = t3.getD 93 undef by rw [ht, getD_ne _ _ _ _ (by decide), getD_ne _ _ _ _ (by decide), getD_ne _ _ _ _ (by decide)]).trans e3_93
        have e4_94 := (show t4.getD 94 undef = t3.getD 94 undef by rw [ht, getD_ne _ _ _ _ (by decide), getD_ne _ _ _ _ (by decide), getD_ne _ _ _ _ (by decide)]).trans e3_94
        have e4_92 := (show t4.getD 92 undef = t3.getD 92 undef by rw [ht, getD_ne _ _ _ _ (by decide), getD_ne _ _ _ _ (by decide), getD_ne _ _ _ _ (by decide)]).trans e3_92
        have e4_97 := (show t4.getD 97 undef = t3.getD 97 undef by rw [ht, getD_ne _ _ _ _ (by decide), getD_ne _ _ _ _ (by decide), getD_ne _ _ _ _ (by decide)]).trans e3_97
        have e4_100 : t4.getD 100 undef = .agg #[.string (bstr [97]), .string (bstr y17), .int .u64 1, .bool false, .string (bstr [])] := by rw [ht, getD_same _ _ _ (by simp [z3])]
        have H4 : Hid _ := ht
        clear ht z3 e3_93 e3_94 e3_92 e3_97
        have k_93 := getD_get t4 93 (by omega) e4_93
        have k_94 := getD_get t4 94 (by omega) e4_94
        have k_92 := getD_get t4 92 (by omega) e4_92
        have k_97 := getD_get t4 97 (by omega) e4_97
        have k_100 := getD_get t4 100 (by omega) e4_100
        clear e4_93 e4_94 e4_92 e4_97 e4_100
        refine wpAnyH_ready (rs := [9]) (by kernel_rfl) (by simp) ?_
        refine AllReadyH.cons rfl (fun K hK => ?_) AllReadyH.nil
        go_simp
        refine hK _ _ ⟨hz.1.alloc _, hz.2.alloc _⟩ ?_
        intro _
        clear hK K
        refine wpAnyH_ready (rs := [10]) (by kernel_rfl) (by simp) ?_
        refine AllReadyH.cons rfl (fun K hK => ?_) AllReadyH.nil
        go_simp
        refine hK _ _ ⟨hz.1.alloc _, hz.2.alloc _⟩ ?_
        intro _
        clear hK K
        refine wpAnyH_done (by kernel_rfl) ?_ _
        refine NoPanic.normal ?_
        have hq := h W4.heap.size (.slice (some ⟨b33, 0, none⟩) 33 33) (.slice (some ⟨b17, 0, none⟩) 17 17) _ (CRow.lit W4 (badL y33 y17) 24) (by simp) (hb3.alloc hb3.size _)
        have hw : (put3 (put3 (put1 (base2 a) 92 (.agg #[.string (bstr [97]), .string (bstr [120]), .int .u64 1099511627777, .bool false, .string (bstr [])])) 95 (.slice (some ⟨b33, 0, none⟩) 33 33) (.string (bstr y33)) (.agg #[.string (bstr y33), .string (bstr [120]), .int .u64 1, .bool false, .string (bstr [])])) 98 (.slice (some ⟨b17, 0, none⟩) 17 17) (.string (bstr y17)) (.agg #[.string (bstr [97]), .string (bstr y17), .int .u64 1, .bool false, .string (bstr [])])) = fin3 y33 y17 a (.slice (some ⟨b33, 0, none⟩) 33 33) (.slice (some ⟨b17, 0, none⟩) 17 17) := rfl
        unfold finA at hq
        rw [← hw] at hq
        simp only [put3, put1, Nat.reduceAdd, base2_defers, badL, ccells, encC, List.flatMap_cons, List.flatMap_nil, List.cons_append, List.nil_append] at hq
        rw [H4.out, H3.out, H2.out, H1.out]
        exact hq
    refine AllReadyH.cons rfl (fun K hK => ?_) AllReadyH.nil
    · go_simp
      refine hK _ _ trivial ?_
      intro _
      clear hK K
      have hzn : (fun w => Zb z17 W2.heap.size w) (W2.alloc (.cells z17 5)) := (heap_alloc_new W2 _)
      have hb2 := hb1.alloc hb1.size (.cells z17 5)
      clear hb1
      generalize W2.alloc (.cells z17 5) = W3 at *
      generalize W2.heap.size = b17 at *
      have hz := hzn
      clear hzn
      refine wpAnyH_turn (S := fun w => Zb z17 b17 w) (fun _ _ => trivial) _ _ _ _ ?_
      refine wpAnyH_take (i := 7) (v := .string (bstr y17)) rfl (by kernel_rfl) (by kernel_rfl) (by kernel_rfl) (fun _ _ _ h => h) (Or.inl ⟨by rfl, ?y⟩) hz ?_
      case y => (intro w hS; have hc := c17 w _ hS; go_simp)
      simp only [Act.put]
      refine wpAnyH_take (i := 8) (v := .agg #[.string (bstr [97]), .string (bstr y17), .int .u64 1, .bool false, .string (bstr [])]) rfl (by kernel_rfl) (by kernel_rfl) (by kernel_rfl) (fun _ _ _ h => h) (Or.inl ⟨by rfl, ?y⟩) hz ?_
      case y => (intro w _; go_simp; try with_reducible rfl)
      simp only [Act.put]
      obtain ⟨t3, ht⟩ : ∃ u, u = ((t2.setIfInBounds 98 (.slice (some ⟨b17, 0, none⟩) 17 17)).setIfInBounds 99 (.string (bstr y17))).setIfInBounds 100 (.agg #[.string (bstr [97]), .string (bstr y17), .int .u64 1, .bool false, .string (bstr [])]) := ⟨_, rfl⟩
      change wpAnyH _ _ _ _ _ _ _ { tmps := ((t2.setIfInBounds 98 (.slice (some ⟨b17, 0, none⟩) 17 17)).setIfInBounds 99 (.string (bstr y17))).setIfInBounds 100 (.agg #[.string (bstr [97]), .string (bstr y17), .int .u64 1, .bool false, .string (bstr [])]), defers := a.defers } _
      rw [← ht]
      have z3 : t3.size = 204 := by rw [ht]; simp [z2]
      have e3_93 := (show t3.getD 93 undef = t2.getD 93 undef by rw [ht, getD_ne _ _ _ _ (by decide), getD_ne _ _ _ _ (by decide), getD_ne _ _ _ _ (by decide)]).trans e2_93
      have e3_94 := (show t3.getD 94 undef = t2.getD 94 undef by rw [ht, getD_ne _ _ _ _ (by decide), getD_ne _ _ _ _ (by decide), getD_ne _ _ _ _ (by decide)]).trans e2_94
      have e3_92 := (show t3.getD 92 undef = t2.getD 92 undef by rw [ht, getD_ne _ _ _ _ (by decide), getD_ne _ _ _ _ (by decide), getD_ne _ _ _ _ (by decide)]).trans e2_92
      have e3_100 : t3.getD 100 undef = .agg #[.string (bstr [97]), .string (bstr y17), .int .u64 1, .bool false, .string (bstr [])] := by rw [ht, getD_same _ _ _ (by simp [z2])]
      have H3 : Hid _ := ht
      clear ht z2 e2_93 e2_94 e2_92
      refine wpAnyH_ready (rs := [3]) (by kernel_rfl) (by simp) ?_
      refine AllReadyH.cons rfl (fun K hK => ?_) AllReadyH.nil
      · go_simp
        refine hK _ _ (hz.alloc _) ?_
        intro _
        clear hK K
        have hzn : (fun w => Zb z17 b17 w ∧ Zb z33 W3.heap.size w) (W3.alloc (.cells z33 5)) := ⟨hz.alloc _, heap_alloc_new W3 _⟩
        have hb3 := hb2.alloc hb2.size (.cells z33 5)
        clear hb2
        generalize W3.alloc (.cells z33 5) = W4 at *
        generalize W3.heap.size = b33 at *
        clear hz
        have hz := hzn
        clear hzn
        refine wpAnyH_turn (S := fun w => Zb z17 b17 w ∧ Zb z33 b33 w) (fun _ h => h.1) _ _ _ _ ?_
        refine wpAnyH_take (i := 4) (v := .string (bstr y33)) rfl (by kernel_rfl) (by kernel_rfl) (by kernel_rfl) (fun _ _ _ h => h) (Or.inl ⟨by rfl, ?y⟩) hz ?_
        case y => (intro w hS; have hc := c33 w _ hS.2; go_simp)
        simp only [Act.put]
        refine wpAnyH_take (i := 5) (v := .agg #[.string (bstr y33), .string (bstr [120]), .int .u64 1, .bool false, .string (bstr [])]) rfl (by kernel_rfl) (by kernel_rfl) (by kernel_rfl) (fun _ _ _ h => h) (Or.inl ⟨by rfl, ?y⟩) hz ?_
        case y => (intro w _; go_simp; try with_reducible rfl)
        simp only [Act.put]
        obtain ⟨t4, ht⟩ : ∃ u, u = ((t3.setIfInBounds 95 (.slice (some ⟨b33, 0, none⟩) 33 33)).setIfInBounds 96 (.string (bstr y33))).setIfInBounds 97 (.agg #[.string (bstr y33), .string (bstr [120]), .int .u64 1, .bool false, .string (bstr [])]) := ⟨_, rfl⟩
        change wpAnyH _ _ _ _ _ _ _ { tmps := ((t3.setIfInBounds 95 (.slice (some ⟨b33, 0, none⟩) 33 33)).setIfInBounds 96 (.string (bstr y33))).setIfInBounds 97 (.agg #[.string (bstr y33), .string (bstr [120]), .int .u64 1, .bool false, .string (bstr [])]), defers := a.defers } _
        rw [← ht]
        have z4 : t4.size = 204 := by rw [ht]; simp [z3]
        have e4_93 := (show t4.getD 93 undef = t3.getD 93 undef by rw [ht, getD_ne _ _ _ _ (by decide), getD_ne _ _ _ _ (by decide), getD_ne _ _ _ _ (by decide)]).trans e3_93
        have e4_94 := (show t4.getD 94 undef = t3.getD 94 undef by rw [ht, getD_ne _ _ _ _ (by decide), getD_ne _ _ _ _ (by decide), getD_ne _ _ _ _ (by decide)]).trans e3_94
        have e4_92 := (show t4.getD 92 undef = t3.getD 92 undef by rw [ht, getD_ne _ _ _ _ (by decide), getD_ne _ _ _ _ (by decide), getD_ne _ _ _ _ (by decide)]).trans e3_92
        have e4_100 := (show t4.getD 100 undef = t3.getD 100 undef by rw [ht, getD_ne _ _ _ _ (by decide), getD_ne _ _ _ _ (by decide), getD_ne _ _ _ _ (by decide)]).trans e3_100
        have e4_97 : t4.getD 97 undef = .agg #[.string (bstr y33), .string (bstr [120]), .int .u64 1, .bool false, .string (bstr [])] := by rw [ht, getD_same _ _ _ (by simp [z3])]
        have H4 : Hid _ := ht
        clear ht z3 e3_93 e3_94 e3_92 e3_100
        have k_93 := getD_get t4 93 (by omega) e4_93
        have k_94 := getD_get t4 94 (by omega) e4_94
        have k_92 := getD_get t4 92 (by omega) e4_92
        have k_100 := getD_get t4 100 (by omega) e4_100
        have k_97 := getD_get t4 97 (by omega) e4_97
        clear e4_93 e4_94 e4_92 e4_100 e4_97
        refine wpAnyH_ready (rs := [9]) (by kernel_rfl) (by simp) ?_
        refine AllReadyH.cons rfl (fun K hK => ?_) AllReadyH.nil
        go_simp
        refine hK _ _ ⟨hz.1.alloc _, hz.2.alloc _⟩ ?_
        intro _
        clear hK K
        refine wpAnyH_ready (rs := [10]) (by kernel_rfl) (by simp) ?_
        refine AllReadyH.cons rfl (fun K hK => ?_) AllReadyH.nil
        go_simp
        refine hK _ _ ⟨hz.1.alloc _, hz.2.alloc _⟩ ?_
        intro _
        clear hK K
        refine wpAnyH_done (by kernel_rfl) ?_ _
        refine NoPanic.normal ?_
        have hq := h W4.heap.size (.slice (some ⟨b33, 0, none⟩) 33 33) (.slice (some ⟨b17, 0, none⟩) 17 17) _ (CRow.lit W4 (badL y33 y17) 24) (by simp) (hb3.alloc hb3.size _)
        have hw : (put3 (put3 (put1 (base2 a) 92 (.agg #[.string (bstr [97]), .string (bstr [120]), .int .u64 1099511627777, .bool false, .string (bstr [])])) 98 (.slice (some ⟨b17, 0, none⟩) 17 17) (.string (bstr y17)) (.agg #[.string (bstr [97]), .string (bstr y17), .int .u64 1, .bool false, .string (bstr [])])) 95 (.slice (some ⟨b33, 0, none⟩) 33 33) (.string (bstr y33)) (.agg #[.string (bstr y33), .string (bstr [120]), .int .u64 1, .bool false, .string (bstr [])])) = fin3 y33 y17 a (.slice (some ⟨b33, 0, none⟩) 33 33) (.slice (some ⟨b17, 0, none⟩) 17 17) := by
          unfold fin3
          rw [put3_comm _ 95 98 _ _ _ _ _ _ (by omega)]
        unfold finA at hq
        rw [← hw] at hq
        simp only [put3, put1, Nat.reduceAdd, base2_defers, badL, ccells, encC, List.flatMap_cons, List.flatMap_nil, List.cons_append, List.nil_append] at hq
        rw [H4.out, H3.out, H2.out, H1.out]
        exact hq
  refine AllReadyH.cons rfl (fun K hK => ?_) ?_
  · go_simp
    refine hK _ _ trivial ?_
    intro _
    clear hK K
    have hzn : (fun w => Zb z33 W1.heap.size w) (W1.alloc (.cells z33 5)) := (heap_alloc_new W1 _)
    have hb1 := hb0.alloc hb0.size (.cells z33 5)
    clear hb0
    generalize W1.alloc (.cells z33 5) = W2 at *
    generalize W1.heap.size = b33 at *
    have hz := hzn
    clear hzn
    refine wpAnyH_turn (S := fun w => Zb z33 b33 w) (fun _ _ => trivial) _ _ _ _ ?_
    refine wpAnyH_take (i := 4) (v := .string (bstr y33)) rfl (by kernel_rfl) (by kernel_rfl) (by kernel_rfl) (fun _ _ _ h => h) (Or.inl ⟨by rfl, ?y⟩) hz ?_
    case y => (intro w hS; have hc := c33 w _ hS; go_simp)
    simp only [Act.put]
    refine wpAnyH_take (i := 5) (v := .agg #[.string (bstr y33), .string (bstr [120]), .int .u64 1, .bool false, .string (bstr [])]) rfl (by kernel_rfl) (by kernel_rfl) (by kernel_rfl) (fun _ _ _ h => h) (Or.inl ⟨by rfl, ?y⟩) hz ?_
    case y => (intro w _; go_simp; try with_reducible rfl)
    simp only [Act.put]
    obtain ⟨t2, ht⟩ : ∃ u, u = ((t1.setIfInBounds 95 (.slice (some ⟨b33, 0, none⟩) 33 33)).setIfInBounds 96 (.string (bstr y33))).setIfInBounds 97 (.agg #[.string (bstr y33), .string (bstr [120]), .int .u64 1, .bool false, .string (bstr [])]) := ⟨_, rfl⟩
    change wpAnyH _ _ _ _ _ _ _ { tmps := ((t1.setIfInBounds 95 (.slice (some ⟨b33, 0, none⟩) 33 33)).setIfInBounds 96 (.string (bstr y33))).setIfInBounds 97 (.agg #[.string (bstr y33), .string (bstr [120]), .int .u64 1, .bool false, .string (bstr [])]), defers := a.defers } _
    rw [← ht]
    have z2 : t2.size = 204 := by rw [ht]; simp [z1]
    have e2_93 := (show t2.getD 93 undef = t1.getD 93 undef by rw [ht, getD_ne _ _ _ _ (by decide), getD_ne _ _ _ _ (by decide), getD_ne _ _ _ _ (by decide)]).trans e1_93
    have e2_94 := (show t2.getD 94 undef = t1.getD 94 undef by rw [ht, getD_ne _ _ _ _ (by decide), getD_ne _ _ _ _ (by decide), getD_ne _ _ _ _ (by decide)]).trans e1_94
    have e2_97 : t2.getD 97 undef = .agg #[.string (bstr y33), .string (bstr [120]), .int .u64 1, .bool false, .string (bstr [])] := by rw [ht, getD_same _ _ _ (by simp [z1])]
    have H2 : Hid _ := ht
    clear ht z1 e1_93 e1_94
    refine wpAnyH_ready (rs := [0, 6]) (by kernel_rfl) (by simp) ?_
    refine AllReadyH.cons rfl (fun K hK => ?_) ?_
    · go_simp
      refine (hat _).mono ?_
      rintro e W3 ⟨rfl, hbn⟩
      have hb2 := below2 hb1 hbn
      refine hK _ _ (hz.step hbn) ?_
      intro _
      clear hK K
      replace hz : (fun w => Zb z33 b33 w) W3 := (hz.step hbn)
      obtain ⟨t3, ht⟩ : ∃ u, u = t2.setIfInBounds 92 (.agg #[.string (bstr [97]), .string (bstr [120]), .int .u64 1099511627777, .bool false, .string (bstr [])]) := ⟨_, rfl⟩
      change wpAnyH _ _ _ _ _ _ _ { tmps := t2.setIfInBounds 92 (.agg #[.string (bstr [97]), .string (bstr [120]), .int .u64 1099511627777, .bool false, .string (bstr [])]), defers := a.defers } _
      rw [← ht]
      have z3 : t3.size = 204 := by rw [ht]; simp [z2]
      have e3_93 := (show t3.getD 93 undef = t2.getD 93 undef by rw [ht, getD_ne _ _ _ _ (by decide)]).trans e2_93
      have e3_94 := (show t3.getD 94 undef = t2.getD 94 undef by rw [ht, getD_ne _ _ _ _ (by decide)]).trans e2_94
      have e3_97 := (show t3.getD 97 undef = t2.getD 97 undef by rw [ht, getD_ne _ _ _ _ (by decide)]).trans e2_97
      have e3_92 : t3.getD 92 undef = .agg #[.string (bstr [97]), .string (bstr [120]), .int .u64 1099511627777, .bool false, .string (bstr [])] := by rw [ht, getD_same _ _ _ (by omega)]
      have H3 : Hid _ := ht
      clear ht z2 e2_93 e2_94 e2_97
      refine wpAnyH_ready (rs := [6]) (by kernel_rfl) (by simp) ?_
      refine AllReadyH.cons rfl (fun K hK => ?_) AllReadyH.nil
      · go_simp
        refine hK _ _ (hz.alloc _) ?_
        intro _
        clear hK K
        have hzn : (fun w => Zb z33 b33 w ∧ Zb z17 W3.heap.size w) (W3.alloc (.cells z17 5)) := ⟨hz.alloc _, heap_alloc_new W3 _⟩
        have hb3 := hb2.alloc hb2.size (.cells z17 5)
        clear hb2
        generalize W3.alloc (.cells z17 5) = W4 at *
        generalize W3.heap.size = b17 at *
        clear hz
        have hz := hzn
        clear hzn
        refine wpAnyH_turn (S := fun w => Zb z33 b33 w ∧ Zb z17 b17 w) (fun _ h => h.1) _ _ _ _ ?_
        refine wpAnyH_take (i := 7) (v := .string (bstr y17)) rfl (by kernel_rfl) (by kernel_rfl) (by kernel_rfl) (fun _ _ _ h => h) (Or.inl ⟨by rfl, ?y⟩) hz ?_
        case y => (intro w hS; have hc := c17 w _ hS.2; go_simp)
        simp only [Act.put]
        refine wpAnyH_take (i := 8) (v := .agg #[.string (bstr [97]), .string (bstr y17), .int .u64 1, .bool false, .string (bstr [])]) rfl (by kernel_rfl) (by kernel_rfl) (by kernel_rfl) (fun _ _ _ h => h) (Or.inl ⟨by rfl, ?y⟩) hz ?_
        case y => (intro w _; go_simp; try with_reducible rfl)
        simp only [Act.put]
        obtain ⟨t4, ht⟩ : ∃ u, u = ((t3.setIfInBounds 98 (.slice (some ⟨b17, 0, none⟩) 17 17)).setIfInBounds 99 (.string (bstr y17))).setIfInBounds 100 (.agg #[.string (bstr [97]), .string (bstr y17), .int .u64 1, .bool false, .string (bstr [])]) := ⟨_, rfl⟩
        change wpAnyH _ _ _ _ _ _ _ { tmps := ((t3.setIfInBounds 98 (.slice (some ⟨b17, 0, none⟩) 17 17)).setIfInBounds 99 (.string (bstr y17))).setIfInBounds 100 (.agg #[.string (bstr [97]), .string (bstr y17), .int .u64 1, .bool false, .string (bstr [])]), defers := a.defers } _
        rw [← ht]
        have z4 : t4.size = 204 := by rw [ht]; simp [z3]
        have e4_93 := (show t4.getD 93 undef = t3.getD 93 undef by rw [ht, getD_ne _ _ _ _ (by decide), getD_ne _ _ _ _ (by decide), getD_ne _ _ _ _ (by decide)]).trans e3_93
        have e4_94 := (show t4.getD 94 undef = t3.getD 94 undef by rw [ht, getD_ne _ _ _ _ (by decide), getD_ne _ _ _ _ (by decide), getD_ne _ _ _ _ (by decide)]).trans e3_94
        have e4_97 := (show t4.getD 97 undef = t3.getD 97 undef by rw [ht, getD_ne _ _ _ _ (by decide), getD_ne _ _ _ _ (by decide), getD_ne _ _ _ _ (by decide)]).trans e3_97
        have e4_92 := (show t4.getD 92 undef = t3.getD 92 undef by rw [ht, getD_ne _ _ _ _ (by decide), getD_ne _ _ _ _ (by decide), getD_ne _ _ _ _ (by decide)]).trans e3_92
        have e4_100 : t4.getD 100 undef = .agg #[.string (bstr [97]), .string (bstr y17), .int .u64 1, .bool false, .string (bstr [])] := by rw [ht, getD_same _ _ _ (by simp [z3])]
        have H4 : Hid _ := ht
        clear ht z3 e3_93 e3_94 e3_97 e3_92
        have k_93 := getD_get t4 93 (by omega) e4_93
        have k_94 := getD_get t4 94 (by omega) e4_94
        have k_97 := getD_get t4 97 (by omega) e4_97
        have k_92 := getD_get t4 92 (by omega) e4_92
        have k_100 := getD_get t4 100 (by omega) e4_100
        clear e4_93 e4_94 e4_97 e4_92 e4_100
        refine wpAnyH_ready (rs := [9]) (by kernel_rfl) (by simp) ?_
        refine AllReadyH.cons rfl (fun K hK => ?_) AllReadyH.nil
        go_simp
        refine hK _ _ ⟨hz.1.alloc _, hz.2.alloc _⟩ ?_
        intro _
        clear hK K
        refine wpAnyH_ready (rs := [10]) (by kernel_rfl) (by simp) ?_
        refine AllReadyH.cons rfl (fun K hK => ?_) AllReadyH.nil
        go_simp
        refine hK _ _ ⟨hz.1.alloc _, hz.2.alloc _⟩ ?_
        intro _
        clear hK K
        refine wpAnyH_done (by kernel_rfl) ?_ _
        refine NoPanic.normal ?_
        have hq := h W4.heap.size (.slice (some ⟨b33, 0, none⟩) 33 33) (.slice (some ⟨b17, 0, none⟩) 17 17) _ (CRow.lit W4 (badL y33 y17) 24) (by simp) (hb3.alloc hb3.size _)
        have hw : (put3 (put1 (put3 (base2 a) 95 (.slice (some ⟨b33, 0, none⟩) 33 33) (.string (bstr y33)) (.agg #[.string (bstr y33), .string (bstr [120]), .int .u64 1, .bool false, .string (bstr [])])) 92 (.agg #[.string (bstr [97]), .string (bstr [120]), .int .u64 1099511627777, .bool false, .string (bstr [])])) 98 (.slice (some ⟨b17, 0, none⟩) 17 17) (.string (bstr y17)) (.agg #[.string (bstr [97]), .string (bstr y17), .int .u64 1, .bool false, .string (bstr [])])) = fin3 y33 y17 a (.slice (some ⟨b33, 0, none⟩) 33 33) (.slice (some ⟨b17, 0, none⟩) 17 17) := by
          unfold fin3
          rw [put1_comm _ 92 95 _ _ _ _ (by omega)]
        unfold finA at hq
        rw [← hw] at hq
        simp only [put3, put1, Nat.reduceAdd, base2_defers, badL, ccells, encC, List.flatMap_cons, List.flatMap_nil, List.cons_append, List.nil_append] at hq
        rw [H4.out, H3.out, H2.out, H1.out]
        exact hq
    refine AllReadyH.cons rfl (fun K hK => ?_) AllReadyH.nil
    · go_simp
      refine hK _ _ (hz.alloc _) ?_
      intro _
      clear hK K
      have hzn : (fun w => Zb z33 b33 w ∧ Zb z17 W2.heap.size w) (W2.alloc (.cells z17 5)) := ⟨hz.alloc _, heap_alloc_new W2 _⟩
      have hb2 := hb1.alloc hb1.size (.cells z17 5)
      clear hb1
      generalize W2.alloc (.cells z17 5) = W3 at *
      generalize W2.heap.size = b17 at *
      clear hz
      have hz := hzn
      clear hzn
      refine wpAnyH_turn (S := fun w => Zb z33 b33 w ∧ Zb z17 b17 w) (fun _ h => h.1) _ _ _ _ ?_
      refine wpAnyH_take (i := 7) (v := .string (bstr y17)) rfl (by kernel_rfl) (by kernel_rfl) (by kernel_rfl) (fun _ _ _ h => h) (Or.inl ⟨by rfl, ?y⟩) hz ?_
      case y => (intro w hS; have hc := c17 w _ hS.2; go_simp)
      simp only [Act.put]
      refine wpAnyH_take (i := 8) (v := .agg #[.string (bstr [97]), .string (bstr y17), .int .u64 1, .bool false, .string (bstr [])]) rfl (by kernel_rfl) (by kernel_rfl) (by kernel_rfl) (fun _ _ _ h => h) (Or.inl ⟨by rfl, ?y⟩) hz ?_
      case y => (intro w _; go_simp; try with_reducible rfl)
      simp only [Act.put]
      obtain ⟨t3, ht⟩ : ∃ u, u = ((t2.setIfInBounds 98 (.slice (some ⟨b17, 0, none⟩) 17 17)).setIfInBounds 99 (.string (bstr y17))).setIfInBounds 100 (.agg #[.string (bstr [97]), .string (bstr y17), .int .u64 1, .bool false, .string (bstr [])]) := ⟨_, rfl⟩
      change wpAnyH _ _ _ _ _ _ _ { tmps := ((t2.setIfInBounds 98 (.slice (some ⟨b17, 0, none⟩) 17 17)).setIfInBounds 99 (.string (bstr y17))).setIfInBounds 100 (.agg #[.string (bstr [97]), .string (bstr y17), .int .u64 1, .bool false, .string (bstr [])]), defers := a.defers } _
      rw [← ht]
      have z3 : t3.size = 204 := by rw [ht]; simp [z2]
      have e3_93 := (show t3.getD 93 undef = t2.getD 93 undef by rw [ht, getD_ne _ _ _ _ (by decide), getD_ne _ _ _ _ (by decide), getD_ne _ _ _ _ (by decide)]).trans e2_93
      have e3_94 := (show t3.getD 94 undef = t2.getD 94 undef by rw [ht, getD_ne _ _ _ _ (by decide), getD_ne _ _ _ _ (by decide), getD_ne _ _ _ _ (by decide)]).trans e2_94
      have e3_97 := (show t3.getD 97 undef = t2.getD 97 undef by rw [ht, getD_ne _ _ _ _ (by decide), getD_ne _ _ _ _ (by decide), getD_ne _ _ _ _ (by decide)]).trans e2_97
      have e3_100 : t3.getD 100 undef = .agg #[.string (bstr [97]), .string (bstr y17), .int .u64 1, .bool false, .string (bstr [])] := by rw [ht, getD_same _ _ _ (by simp [z2])]
      have H3 : Hid _ := ht
      clear ht z2 e2_93 e2_94 e2_97
      refine wpAnyH_ready (rs := [0]) (by kernel_rfl) (by simp) ?_
      refine AllReadyH.cons rfl (fun K hK => ?_) AllReadyH.nil
      · go_simp
        refine (hat _).mono ?_
        rintro e W4 ⟨rfl, hbn⟩
        have hb3 := below2 hb2 hbn
        refine hK _ _ ⟨hz.1.step hbn, hz.2.step hbn⟩ ?_
        intro _
        clear hK K
        replace hz : (fun w => Zb z33 b33 w ∧ Zb z17 b17 w) W4 := ⟨hz.1.step hbn, hz.2.step hbn⟩
        obtain ⟨t4, ht⟩ : ∃ u, u = t3.setIfInBounds 92 (.agg #[.string (bstr [97]), .string (bstr [120]), .int .u64 1099511627777, .bool false, .string (bstr [])]) := ⟨_, rfl⟩
        change wpAnyH _ _ _ _ _ _ _ { tmps := t3.setIfInBounds 92 (.agg #[.string (bstr [97]), .string (bstr [120]), .int .u64 1099511627777, .bool false, .string (bstr [])]), defers := a.defers } _
        rw [← ht]
        have z4 : t4.size = 204 := by rw [ht]; simp [z3]
        have e4_93 := (show t4.getD 93 undef = t3.getD 93 undef by rw [ht, getD_ne _ _ _ _ (by decide)]).trans e3_93
        have e4_94 := (show t4.getD 94 undef = t3.getD 94 undef by rw [ht, getD_ne _ _ _ _ (by decide)]).trans e3_94
        have e4_97 := (show t4.getD 97 undef = t3.getD 97 undef by rw [ht, getD_ne _ _ _ _ (by decide)]).trans e3_97
        have e4_100 := (show t4.getD 100 undef = t3.getD 100 undef by rw [ht, getD_ne _ _ _ _ (by decide)]).trans e3_100
        have e4_92 : t4.getD 92 undef = .agg #[.string (bstr [97]), .string (bstr [120]), .int .u64 1099511627777, .bool false, .string (bstr [])] := by rw [ht, getD_same _ _ _ (by omega)]
        have H4 : Hid _ := ht
        clear ht z3 e3_93 e3_94 e3_97 e3_100
        have k_93 := getD_get t4 93 (by omega) e4_93
        have k_94 := getD_get t4 94 (by omega) e4_94
        have k_97 := getD_get t4 97 (by omega) e4_97
        have k_100 := getD_get t4 100 (by omega) e4_100
        have k_92 := getD_get t4 92 (by omega) e4_92
        clear e4_93 e4_94 e4_97 e4_100 e4_92
        refine wpAnyH_ready (rs := [9]) (by kernel_rfl) (by simp) ?_
        refine AllReadyH.cons rfl (fun K hK => ?_) AllReadyH.nil
        go_simp
        refine hK _ _ ⟨hz.1.alloc _, hz.2.alloc _⟩ ?_
        intro _
        clear hK K
        refine wpAnyH_ready (rs := [10]) (by kernel_rfl) (by simp) ?_
        refine AllReadyH.cons rfl (fun K hK => ?_) AllReadyH.nil
        go_simp
        refine hK _ _ ⟨hz.1.alloc _, hz.2.alloc _⟩ ?_
        intro _
        clear hK K
        refine wpAnyH_done (by kernel_rfl) ?_ _
        refine NoPanic.normal ?_
        have hq := h W4.heap.size (.slice (some ⟨b33, 0, none⟩) 33 33) (.slice (some ⟨b17, 0, none⟩) 17 17) _ (CRow.lit W4 (badL y33 y17) 24) (by simp) (hb3.alloc hb3.size _)
        have hw : (put1 (put3 (put3 (base2 a) 95 (.slice (some ⟨b33, 0, none⟩) 33 33) (.string (bstr y33)) (.agg #[.string (bstr y33), .string (bstr [120]), .int .u64 1, .bool false, .string (bstr [])])) 98 (.slice (some ⟨b17, 0, none⟩) 17 17) (.string (bstr y17)) (.agg #[.string (bstr [97]), .string (bstr y17), .int .u64 1, .bool false, .string (bstr [])])) 92 (.agg #[.string (bstr [97]), .string (bstr [120]), .int .u64 1099511627777, .bool false, .string (bstr [])])) = fin3 y33 y17 a (.slice (some ⟨b33, 0, none⟩) 33 33) (.slice (some ⟨b17, 0, none⟩) 17 17) := by
          unfold fin3
          rw [put1_comm _ 92 98 _ _ _ _ (by omega), put1_comm _ 92 95 _ _ _ _ (by omega)]
        unfold finA at hq
        rw [← hw] at hq
        simp only [put3, put1, Nat.reduceAdd, base2_defers, badL, ccells, encC, List.flatMap_cons, List.flatMap_nil, List.cons_append, List.nil_append] at hq
        rw [H4.out, H3.out, H2.out, H1.out]
        exact hq
  refine AllReadyH.cons rfl (fun K hK => ?_) AllReadyH.nil
  · go_simp
    refine hK _ _ trivial ?_
    intro _
    clear hK K
    have hzn : (fun w => Zb z17 W1.heap.size w) (W1.alloc (.cells z17 5)) := (heap_alloc_new W1 _)
    have hb1 := hb0.alloc hb0.size (.cells z17 5)
    clear hb0
    generalize W1.alloc (.cells z17 5) = W2 at *
    generalize W1.heap.size = b17 at *
    have hz := hzn
    clear hzn
    refine wpAnyH_turn (S := fun w => Zb z17 b17 w) (fun _ _ => trivial) _ _ _ _ ?_
    refine wpAnyH_take (i := 7) (v := .string (bstr y17)) rfl (by kernel_rfl) (by kernel_rfl) (by kernel_rfl) (fun _ _ _ h => h) (Or.inl ⟨by rfl, ?y⟩) hz ?_
    case y => (intro w hS; have hc := c17 w _ hS; go_simp)
    simp only [Act.put]
    refine wpAnyH_take (i := 8) (v := .agg #[.string (bstr [97]), .string (bstr y17), .int .u64 1, .bool false, .string (bstr [])]) rfl (by kernel_rfl) (by kernel_rfl) (by kernel_rfl) (fun _ _ _ h => h) (Or.inl ⟨by rfl, ?y⟩) hz ?_
    case y => (intro w _; go_simp; try with_reducible rfl)
    simp only [Act.put]
    obtain ⟨t2, ht⟩ : ∃ u, u = ((t1.setIfInBounds 98 (.slice (some ⟨b17, 0, none⟩) 17 17)).setIfInBounds 99 (.string (bstr y17))).setIfInBounds 100 (.agg #[.string (bstr [97]), .string (bstr y17), .int .u64 1, .bool false, .string (bstr [])]) := ⟨_, rfl⟩
    change wpAnyH _ _ _ _ _ _ _ { tmps := ((t1.setIfInBounds 98 (.slice (some ⟨b17, 0, none⟩) 17 17)).setIfInBounds 99 (.string (bstr y17))).setIfInBounds 100 (.agg #[.string (bstr [97]), .string (bstr y17), .int .u64 1, .bool false, .string (bstr [])]), defers := a.defers } _
    rw [← ht]
    have z2 : t2.size = 204 := by rw [ht]; simp [z1]
    have e2_93 := (show t2.getD 93 undef = t1.getD 93 undef by rw [ht, getD_ne _ _ _ _ (by decide), getD_ne _ _ _ _ (by decide), getD_ne _ _ _ _ (by decide)]).trans e1_93
    have e2_94 := (show t2.getD 94 undef = t1.getD 94 undef by rw [ht, getD_ne _ _ _ _ (by decide), getD_ne _ _ _ _ (by decide), getD_ne _ _ _ _ (by decide)]).trans e1_94
    have e2_100 : t2.getD 100 undef = .agg #[.string (bstr [97]), .string (bstr y17), .int .u64 1, .bool false, .string (bstr [])] := by rw [ht, getD_same _ _ _ (by simp [z1])]
    have H2 : Hid _ := ht
    clear ht z1 e1_93 e1_94
    refine wpAnyH_ready (rs := [0, 3]) (by kernel_rfl) (by simp) ?_
    refine AllReadyH.cons rfl (fun K hK => ?_) ?_
    · go_simp
      refine (hat _).mono ?_
      rintro e W3 ⟨rfl, hbn⟩
      have hb2 := below2 hb1 hbn
      refine hK _ _ (hz.step hbn) ?_
      intro _
      clear hK K
      replace hz : (fun w => Zb z17 b17 w) W3 := (hz.step hbn)
      obtain ⟨t3, ht⟩ : ∃ u, u = t2.setIfInBounds 92 (.agg #[.string (bstr [97]), .string (bstr [120]), .int .u64 1099511627777, .bool false, .string (bstr [])]) := ⟨_, rfl⟩
      change wpAnyH _ _ _ _ _ _ _ { tmps := t2.setIfInBounds 92 (.agg #[.string (bstr [97]), .string (bstr [120]), .int .u64 1099511627777, .bool false, .string (bstr [])]), defers := a.defers } _
      rw [← ht]
      have z3 : t3.size = 204 := by rw [ht]; simp [z2]
      have e3_93 := (show t3.getD 93 undef = t2.getD 93 undef by rw [ht, getD_ne _ _ _ _ (by decide)]).trans e2_93
      have e3_94 := (show t3.getD 94 undef = t2.getD 94 undef by rw [ht, getD_ne _ _ _ _ (by decide)]).trans e2_94
      have e3_100 := (show t3.getD 100 undef = t2.getD 100 undef by rw [ht, getD_ne _ _ _ _ (by decide)]).trans e2_100
      have e3_92 : t3.getD 92 undef = .agg #[.string (bstr [97]), .string (bstr [120]), .int .u64 1099511627777, .bool false, .string (bstr [])] := by rw [ht, getD_same _ _ _ (by omega)]
      have H3 : Hid _ := ht
      clear ht z2 e2_93 e2_94 e2_100
      refine wpAnyH_ready (rs := [3]) (by kernel_rfl) (by simp) ?_
      refine AllReadyH.cons rfl (fun K hK => ?_) AllReadyH.nil
      · go_simp
        refine hK _ _ (hz.alloc _) ?_
        intro _
        clear hK K
        have hzn : (fun w => Zb z17 b17 w ∧ Zb z33 W3.heap.size w) (W3.alloc (.cells z33 5)) := ⟨hz.alloc _, heap_alloc_new W3 _⟩
        have hb3 := hb2.alloc hb2.size (.cells z33 5)
        clear hb2
        generalize W3.alloc (.cells z33 5) = W4 at *
        generalize W3.heap.size = b33 at *
        clear hz
        have hz := hzn
        clear hzn
        refine wpAnyH_turn (S := fun w => Zb z17 b17 w ∧ Zb z33 b33 w) (fun _ h => h.1) _ _ _ _ ?_
        refine wpAnyH_take (i := 4) (v := .string (bstr y33)) rfl (by kernel_rfl) (by kernel_rfl) (by kernel_rfl) (fun _ _ _ h => h) (Or.inl ⟨by rfl, ?y⟩) hz ?_
        case y => (intro w hS; have hc := c33 w _ hS.2; go_simp)
        simp only [Act.put]
        refine wpAnyH_take (i := 5) (v := .agg #[.string (bstr y33), .string (bstr [120]), .int .u64 1, .bool false, .string (bstr [])]) rfl (by kernel_rfl) (by kernel_rfl) (by kernel_rfl) (fun _ _ _ h => h) (Or.inl ⟨by rfl, ?y⟩) hz ?_
        case y => (intro w _; go_simp; try with_reducible rfl)
        simp only [Act.put]
        obtain ⟨t4, ht⟩ : ∃ u, u = ((t3.setIfInBounds 95 (.slice (some ⟨b33, 0, none⟩) 33 33)).setIfInBounds 96 (.string (bstr y33))).setIfInBounds 97 (.agg #[.string (bstr y33), .string (bstr [120]), .int .u64 1, .bool false, .string (bstr [])]) := ⟨_, rfl⟩
        change wpAnyH _ _ _ _ _ _ _ { tmps := ((t3.setIfInBounds 95 (.slice (some ⟨b33, 0, none⟩) 33 33)).setIfInBounds 96 (.string (bstr y33))).setIfInBounds 97 (.agg #[.string (bstr y33), .string (bstr [120]), .int .u64 1, .bool false, .string (bstr [])]), defers := a.defers } _
        rw [← ht]
        have z4 : t4.size = 204 := by rw [ht]; simp [z3]
        have e4_93 := (show t4.getD 93 undef = t3.getD 93 undef by rw [ht, getD_ne _ _ _ _ (by decide), getD_ne _ _ _ _ (by decide), getD_ne _ _ _ _ (by decide)]).trans e3_93
        have e4_94 := (show t4.getD 94 undef = t3.getD 94 undef by rw [ht, getD_ne _ _ _ _ (by decide), getD_ne _ _ _ _ (by decide), getD_ne _ _ _ _ (by decide)]).trans e3_94
        have e4_100 := (show t4.getD 100 undef = t3.getD 100 undef by rw [ht, getD_ne _ _ _ _ (by decide), getD_ne _ _ _ _ (by decide), getD_ne _ _ _ _ (by decide)]).trans e3_100
        have e4_92 := (show t4.getD 92 undef = t3.getD 92 undef by rw [ht, getD_ne _ _ _ _ (by decide), getD_ne _ _ _ _ (by decide), getD_ne _ _ _ _ (by decide)]).trans e3_92
        have e4_97 : t4.getD 97 undef = .agg #[.string (bstr y33), .string (bstr [120]), .int .u64 1, .bool false, .string (bstr [])] := by rw [ht, getD_same _ _ _ (by simp [z3])]
        have H4 : Hid _ := ht
        clear ht z3 e3_93 e3_94 e3_100 e3_92
        have k_93 := getD_get t4 93 (by omega) e4_93
        have k_94 := getD_get t4 94 (by omega) e4_94
        have k_100 := getD_get t4 100 (by omega) e4_100
        have k_92 := getD_get t4 92 (by omega) e4_92
        have k_97 := getD_get t4 97 (by omega) e4_97
        clear e4_93 e4_94 e4_100 e4_92 e4_97
        refine wpAnyH_ready (rs := [9]) (by kernel_rfl) (by simp) ?_
        refine AllReadyH.cons rfl (fun K hK => ?_) AllReadyH.nil
        go_simp
        refine hK _ _ ⟨hz.1.alloc _, hz.2.alloc _⟩ ?_
        intro _
        clear hK K
        refine wpAnyH_ready (rs := [10]) (by kernel_rfl) (by simp) ?_
        refine AllReadyH.cons rfl (fun K hK => ?_) AllReadyH.nil
        go_simp
        refine hK _ _ ⟨hz.1.alloc _, hz.2.alloc _⟩ ?_
        intro _
        clear hK K
        refine wpAnyH_done (by kernel_rfl) ?_ _
        refine NoPanic.normal ?_
        have hq := h W4.heap.size (.slice (some ⟨b33, 0, none⟩) 33 33) (.slice (some ⟨b17, 0, none⟩) 17 17) _ (CRow.lit W4 (badL y33 y17) 24) (by simp) (hb3.alloc hb3.size _)
        have hw : (put3 (put1 (put3 (base2 a) 98 (.slice (some ⟨b17, 0, none⟩) 17 17) (.string (bstr y17)) (.agg #[.string (bstr [97]), .string (bstr y17), .int .u64 1, .bool false, .string (bstr [])])) 92 (.agg #[.string (bstr [97]), .string (bstr [120]), .int .u64 1099511627777, .bool false, .string (bstr [])])) 95 (.slice (some ⟨b33, 0, none⟩) 33 33) (.string (bstr y33)) (.agg #[.string (bstr y33), .string (bstr [120]), .int .u64 1, .bool false, .string (bstr [])])) = fin3 y33 y17 a (.slice (some ⟨b33, 0, none⟩) 33 33) (.slice (some ⟨b17, 0, none⟩) 17 17) := by
          unfold fin3
          rw [put1_comm _ 92 98 _ _ _ _ (by omega), put3_comm _ 95 98 _ _ _ _ _ _ (by omega)]
        unfold finA at hq
        rw [← hw] at hq
        simp only [put3, put1, Nat.reduceAdd, base2_defers, badL, ccells, encC, List.flatMap_cons, List.flatMap_nil, List.cons_append, List.nil_append] at hq
        rw [H4.out, H3.out, H2.out, H1.out]
        exact hq
    refine AllReadyH.cons rfl (fun K hK => ?_) AllReadyH.nil
    · go_simp
      refine hK _ _ (hz.alloc _) ?_
      intro _
      clear hK K
      have hzn : (fun w => Zb z17 b17 w ∧ Zb z33 W2.heap.size w) (W2.alloc (.cells z33 5)) := ⟨hz.alloc _, heap_alloc_new W2 _⟩
      have hb2 := hb1.alloc hb1.size (.cells z33 5)
      clear hb1
      generalize W2.alloc (.cells z33 5) = W3 at *
      generalize W2.heap.size = b33 at *
      clear hz
      have hz := hzn
      clear hzn
      refine wpAnyH_turn (S := fun w => Zb z17 b17 w ∧ Zb z33 b33 w) (fun _ h => h.1) _ _ _ _ ?_
      refine wpAnyH_take (i := 4) (v := .string (bstr y33)) rfl (by kernel_rfl) (by kernel_rfl) (by kernel_rfl) (fun _ _ _ h => h) (Or.inl ⟨by rfl, ?y⟩) hz ?_
      case y => (intro w hS; have hc := c33 w _ hS.2; go_simp)
      simp only [Act.put]
      refine wpAnyH_take (i := 5) (v := .agg #[.string (bstr y33), .string (bstr [120]), .int .u64 1, .bool false, .string (bstr [])]) rfl (by kernel_rfl) (by kernel_rfl) (by kernel_rfl) (fun _ _ _ h => h) (Or.inl ⟨by rfl, ?y⟩) hz ?_
      case y => (intro w _; go_simp; try with_reducible rfl)
      simp only [Act.put]
      obtain ⟨t3, ht⟩ : ∃ u, u = ((t2.setIfInBounds 95 (.slice (some ⟨b33, 0, none⟩) 33 33)).setIfInBounds 96 (.string (bstr y33))).setIfInBounds 97 (.agg #[.string (bstr y33), .string (bstr [120]), .int .u64 1, .bool false, .string (bstr [])]) := ⟨_, rfl⟩
      change wpAnyH _ _ _ _ _ _ _ { tmps := ((t2.setIfInBounds 95 (.slice (some ⟨b33, 0, none⟩) 33 33)).setIfInBounds 96 (.string (bstr y33))).setIfInBounds 97 (.agg #[.string (bstr y33), .string (bstr [120]), .int .u64 1, .bool false, .string (bstr [])]), defers := a.defers } _
      rw [← ht]
      have z3 : t3.size = 204 := by rw [ht]; simp [z2]
      have e3_93 := (show t3.getD 93 undef = t2.getD 93 undef by rw [ht, getD_ne _ _ _ _ (by decide), getD_ne _ _ _ _ (by decide), getD_ne _ _ _ _ (by decide)]).trans e2_93
      have e3_94 := (show t3.getD 94 undef = t2.getD 94 undef by rw [ht, getD_ne _ _ _ _ (by decide), getD_ne _ _ _ _ (by decide), getD_ne _ _ _ _ (by decide)]).trans e2_94
      have e3_100 := (show t3.getD 100 undef = t2.getD 100 undef by rw [ht, getD_ne _ _ _ _ (by decide), getD_ne _ _ _ _ (by decide), getD_ne _ _ _ _ (by decide)]).trans e2_100
      have e3_97 : t3.getD 97 undef = .agg #[.string (bstr y33), .string (bstr [120]), .int .u64 1, .bool false, .string (bstr [])] := by rw [ht, getD_same _ _ _ (by simp [z2])]
      have H3 : Hid _ := ht
      clear ht z2 e2_93 e2_94 e2_100
      refine wpAnyH_ready (rs := [0]) (by kernel_rfl) (by simp) ?_
      refine AllReadyH.cons rfl (fun K hK => ?_) AllReadyH.nil
      · go_simp
        refine (hat _).mono ?_
        rintro e W4 ⟨rfl, hbn⟩
        have hb3 := below2 hb2 hbn
        refine hK _ _ ⟨hz.1.step hbn, hz.2.step hbn⟩ ?_
        intro _
        clear hK K
        replace hz : (fun w => Zb z17 b17 w ∧ Zb z33 b33 w) W4 := ⟨hz.1.step hbn, hz.2.step hbn⟩
        obtain ⟨t4, ht⟩ : ∃ u, u = t3.setIfInBounds 92 (.agg #[.string (bstr [97]), .string (bstr [120]), .int .u64 1099511627777, .bool false, .string (bstr [])]) := ⟨_, rfl⟩
        change wpAnyH _ _ _ _ _ _ _ { tmps := t3.setIfInBounds 92 (.agg #[.string (bstr [97]), .string (bstr [120]), .int .u64 1099511627777, .bool false, .string (bstr [])]), defers := a.defers } _
        rw [← ht]
        have z4 : t4.size = 204 := by rw [ht]; simp [z3]
        have e4_93 := (show t4.getD 93 undef = t3.getD 93 undef by rw [ht, getD_ne _ _ _ _ (by decide)]).trans e3_93
        have e4_94 := (show t4.getD 94 undef = t3.getD 94 undef by rw [ht, getD_ne _ _ _ _ (by decide)]).trans e3_94
        have e4_100 := (show t4.getD 100 undef = t3.getD 100 undef by rw [ht, getD_ne _ _ _ _ (by decide)]).trans e3_100
        have e4_97 := (show t4.getD 97 undef = t3.getD 97 undef by rw [ht, getD_ne _ _ _ _ (by decide)]).trans e3_97
        have e4_92 : t4.getD 92 undef = .agg #[.string (bstr [97]), .string (bstr [120]), .int .u64 1099511627777, .bool false, .string (bstr [])] := by rw [ht, getD_same _ _ _ (by omega)]
        have H4 : Hid _ := ht
        clear ht z3 e3_93 e3_94 e3_100 e3_97
        have k_93 := getD_get t4 93 (by omega) e4_93
        have k_94 := getD_get t4 94 (by omega) e4_94
        have k_100 := getD_get t4 100 (by omega) e4_100
        have k_97 := getD_get t4 97 (by omega) e4_97
        have k_92 := getD_get t4 92 (by omega) e4_92
        clear e4_93 e4_94 e4_100 e4_97 e4_92
        refine wpAnyH_ready (rs := [9]) (by kernel_rfl) (by simp) ?_
        refine AllReadyH.cons rfl (fun K hK => ?_) AllReadyH.nil
        go_simp
        refine hK _ _ ⟨hz.1.alloc _, hz.2.alloc _⟩ ?_
        intro _
        clear hK K
        refine wpAnyH_ready (rs := [10]) (by kernel_rfl) (by simp) ?_
        refine AllReadyH.cons rfl (fun K hK => ?_) AllReadyH.nil
        go_simp
        refine hK _ _ ⟨hz.1.alloc _, hz.2.alloc _⟩ ?_
        intro _
        clear hK K
        refine wpAnyH_done (by kernel_rfl) ?_ _
        refine NoPanic.normal ?_
        have hq := h W4.heap.size (.slice (some ⟨b33, 0, none⟩) 33 33) (.slice (some ⟨b17, 0, none⟩) 17 17) _ (CRow.lit W4 (badL y33 y17) 24) (by simp) (hb3.alloc hb3.size _)
        have hw : (put1 (put3 (put3 (base2 a) 98 (.slice (some ⟨b17, 0, none⟩) 17 17) (.string (bstr y17)) (.agg #[.string (bstr [97]), .string (bstr y17), .int .u64 1, .bool false, .string (bstr [])])) 95 (.slice (some ⟨b33, 0, none⟩) 33 33) (.string (bstr y33)) (.agg #[.string (bstr y33), .string (bstr [120]), .int .u64 1, .bool false, .string (bstr [])])) 92 (.agg #[.string (bstr [97]), .string (bstr [120]), .int .u64 1099511627777, .bool false, .string (bstr [])])) = fin3 y33 y17 a (.slice (some ⟨b33, 0, none⟩) 33 33) (.slice (some ⟨b17, 0, none⟩) 17 17) := by
          unfold fin3
          rw [put1_comm _ 92 95 _ _ _ _ (by omega), put1_comm _ 92 98 _ _ _ _ (by omega), put3_comm _ 95 98 _ _ _ _ _ _ (by omega)]
        unfold finA at hq
        rw [← hw] at hq
        simp only [put3, put1, Nat.reduceAdd, base2_defers, badL, ccells, encC, List.flatMap_cons, List.flatMap_nil, List.cons_append, List.nil_append] at hq
        rw [H4.out, H3.out, H2.out, H1.out]
        exact hq

end Go.Proofs.Ytfjomggofncdmaa
