/-
  The walk of the law KeysKnown over this seat's translation: it returns true, and of what was there nothing has turned.
-/
import Derived.Test.YtalkhkndelpdfaaKKnownM
import Derived.Test.YtalkhkndelpdfaaKGap
import Derived.Test.YtalkhkndelpdfaaKCell
import Derived.Test.YtalkhkndelpdfaaKWorks
import Derived.Test.YtalkhkndelpdfaaMade
import Derived.Test.YtalkhkndelpdfaaKBad
import Derived.BigQuiet
import Derived.Deep.Cut
namespace Go.Proofs.Ytalkhkndelpdfaa
open Go.RowKit Go.BigFrame
attribute [local go_sem] size_bstr toList_bstr ls_def

theorem Check_lit (lo hi : List UInt8) (r : Int) (h : (if mayB lo hi = true then 0 else 2) = r) (W : World) : Calls Try.prog 4 #[rngV lo hi] W fun e w' => e = .returned (.int .i64 r) ∧ RowKit.Below W.heap.size W w' := by
  rw [← h]; exact Check_any lo hi W
theorem Has_lit (lo hi k : List UInt8) (r : Bool) (h : hasB lo hi k = r) (W : World) : Calls Try.prog 5 #[rngV lo hi, .string (bstr k)] W fun e w' => e = .returned (.bool r) ∧ RowKit.Below W.heap.size W w' := by
  rw [← h]; exact Has_any lo hi k W
theorem Meet_lit (a b c d : List UInt8) (r : Bool) (h : meetB a b c d = r) (W : World) : Calls Try.prog 6 #[rngV a b, rngV c d] W fun e w' => e = .returned (.bool r) ∧ RowKit.Below W.heap.size W w' := by
  rw [← h]; exact Meet_any a b c d W
theorem Split_lit (lo hi k : List UInt8) (h : splitB lo hi k = false) (W : World) : Calls Try.prog 7 #[rngV lo hi, .string (bstr k)] W fun e w' => e = .returned (triV [] [] [] [] 2) ∧ RowKit.Below W.heap.size W w' := by
  have := Split_any lo hi k W
  rw [splitV, h, if_neg (by simp)] at this
  exact this
theorem User_lit (k : List UInt8) (r : Bool) (h : userB k = r) (W : World) : Calls Try.prog 11 #[.string (bstr k)] W fun e w' => e = .returned (.bool r) ∧ RowKit.Below W.heap.size W w' := by
  rw [← h]; exact User_any k W
theorem Cell_lit (r c : List UInt8) (v : Int) (g : Bool) (x : List UInt8) (n : Int) (h : (if mayC r c v g x = true then 0 else 2) = n) (W : World) : Calls Try.prog 9 #[cellV r c v g x] W fun e w' => e = .returned (.int .i64 n) ∧ RowKit.Below W.heap.size W w' := by
  rw [← h]; exact Cell_any r c v g x W
theorem Cmp_lit (r c : List UInt8) (v : Int) (r' c' : List UInt8) (v' : Int) (n : Int) (h : cc r c v r' c' v' = n) (W : World) : Calls Try.prog 10 #[cellV r c v false [], cellV r' c' v' false []] W fun e w' => e = .returned (.int .i64 n) ∧ RowKit.Below W.heap.size W w' := by
  rw [← h]; exact Cmp_any r c v false [] r' c' v' false [] W
theorem row_lit (W : World) (rs : List Rg) (cs : Array Value) (h : cs.toList = rcells rs) (t : TypeId) : RowAt (W.alloc (.cells cs t)) W.heap.size 0 rs := by
  intro i hi
  obtain ⟨g0, g1⟩ := rcells_get rs i hi
  rw [World.cell?_alloc_at cs t W.heap.size _ rfl, World.cell?_alloc_at cs t W.heap.size _ rfl, Nat.zero_add, ← Array.getElem?_toList, ← Array.getElem?_toList, h]
  exact ⟨g0, g1⟩
theorem Gap_lit (W : World) (rs : List Rg) (cs : Array Value) (h : cs.toList = rcells rs) (t : TypeId) (n : Nat) (hn : n = rs.length) (hl : n ≤ 1000) (a b : List UInt8) (hg : GapSpec rs (some (a, b))) :
    Calls Try.prog 8 #[.slice (some ⟨W.heap.size, 0, none⟩) n n] (W.alloc (.cells cs t)) fun e w' => e = .returned (.tuple #[rngV a b, .bool true]) ∧ RowKit.Below (W.alloc (.cells cs t)).heap.size (W.alloc (.cells cs t)) w' := by
  subst hn
  refine (Gap_any (some ⟨W.heap.size, 0, none⟩) W.heap.size 0 rs.length rs (W.alloc (.cells cs t)) (fun _ => ⟨rfl, row_lit W rs cs h t, by simp⟩) (by omega)).mono ?_
  rintro e w' ⟨o, rfl, ho, hb⟩
  have := gapSpec_one ho hg
  subst this
  exact ⟨rfl, hb⟩
theorem Gap_at (W : World) (nb : Nat) (hnb : nb = W.heap.size) (rs : List Rg) (cs : Array Value) (h : cs.toList = rcells rs) (t : TypeId) (n : Nat) (hn : n = rs.length) (hl : n ≤ 1000) (a b : List UInt8) (hg : GapSpec rs (some (a, b))) :
    Calls Try.prog 8 #[.slice (some ⟨nb, 0, none⟩) n n] (W.alloc (.cells cs t)) fun e w' => e = .returned (.tuple #[rngV a b, .bool true]) ∧ RowKit.Below (W.alloc (.cells cs t)).heap.size (W.alloc (.cells cs t)) w' := by
  subst hnb
  exact Gap_lit W rs cs h t n hn hl a b hg
theorem below_two (w : World) (o p : Obj) {w' : World} (h : RowKit.Below ((w.alloc o).alloc p).heap.size ((w.alloc o).alloc p) w') : RowKit.Below w.heap.size w w' :=
  below2 (((RowKit.Below.refl _ w).alloc (Nat.le_refl _) o).alloc (by simp) p) h
theorem Gap_nil (W : World) : Calls Try.prog 8 #[.slice none 0 0] W fun e w' => e = .returned (.tuple #[rngV [] [], .bool true]) ∧ RowKit.Below W.heap.size W w' := by
  refine (Gap_any none 0 0 0 [] W (fun h => absurd h (by simp)) (by simp)).mono ?_
  rintro e w' ⟨o, rfl, ho, hb⟩
  have := gapSpec_one ho gap_lit0
  subst this
  exact ⟨rfl, hb⟩
theorem zeros_take (n m : Nat) (h : n ≤ m) : (zeros m).take n = zeros n := by
  unfold zeros
  rw [List.take_replicate, Nat.min_eq_left h]

set_option maxHeartbeats 40000000 in
set_option maxRecDepth 100000 in
theorem known_walk (w : World) :
    Calls Try.prog 3 #[] w fun e w' => e = .returned (.bool true) ∧ RowKit.Below w.heap.size w w' := by
  have hE0 : (⟨#[]⟩ : ByteArray) = bstr [] := rfl
  have hE1 : (⟨#[97]⟩ : ByteArray) = bstr [97] := rfl
  have hE2 : (⟨#[98]⟩ : ByteArray) = bstr [98] := rfl
  have hE3 : (⟨#[99]⟩ : ByteArray) = bstr [99] := rfl
  have hE4 : (⟨#[100]⟩ : ByteArray) = bstr [100] := rfl
  have hE5 : (⟨#[122]⟩ : ByteArray) = bstr [122] := rfl
  have hE6 : (⟨#[114]⟩ : ByteArray) = bstr [114] := rfl
  have hE7 : (⟨#[118]⟩ : ByteArray) = bstr [118] := rfl
  have hE8 : (⟨#[120]⟩ : ByteArray) = bstr [120] := rfl
  have hE9 : (⟨#[122, 122]⟩ : ByteArray) = bstr [122, 122] := rfl
  have m25 : ∀ W : World, (Instr.makeSlice 22 (.int .i64 25) (.int .i64 25)).run Try.prog W = .ok (.slice (some ⟨W.heap.size, 0, none⟩) 25 25) (W.alloc (.cells (zs 25) 5)) := fun W => make_run .i64 25 (by omega) W
  have c25 := made_run 25 (by omega)
  have s24 : ∀ W : World, (Instr.slice 9 (.string (bstr (zeros 25))) none (some (.int .i64 24)) none).run Try.prog W = .ok (.string (bstr (zeros 24))) W := fun W => by
    have := run_head (P := Try.prog) 9 (zeros 25) 24 (by rw [zeros_length]; omega) W Try.underlying9
    rw [zeros_take 24 25 (by omega)] at this
    exact this
  have hB0 : RowKit.Below w.heap.size w (w.alloc (.cells (zs 25) 5)) := (RowKit.Below.refl _ w).alloc (Nat.le_refl _) _
  go_enter Try.func3, Try.ntmps3
  go_wp2_with fail
  refine (Check_lit [97] [98] 0 (by decide) _).mono ?_
  rintro e w1 ⟨rfl, hb1⟩
  have hB1 := below2 hB0 hb1
  clear hb1 hB0
  go_wp2_with fail
  refine (Check_lit [] [] 0 (by decide) _).mono ?_
  rintro e w2 ⟨rfl, hb2⟩
  have hB2 := below2 hB1 hb2
  clear hb2 hB1
  go_wp2_with fail
  refine (Check_lit [98] [97] 2 (by decide) _).mono ?_
  rintro e w3 ⟨rfl, hb3⟩
  have hB3 := below2 hB2 hb3
  clear hb3 hB2
  go_wp2_with fail
  refine (Check_lit [97] [97] 2 (by decide) _).mono ?_
  rintro e w4 ⟨rfl, hb4⟩
  have hB4 := below2 hB3 hb4
  clear hb4 hB3
  go_wp2_with fail
  refine (Check_lit (zeros 25) [] 2 (by decide) _).mono ?_
  rintro e w5 ⟨rfl, hb5⟩
  have hB5 := below2 hB4 hb5
  clear hb5 hB4
  go_wp2_with fail
  refine (Check_lit [] (zeros 25) 2 (by decide) _).mono ?_
  rintro e w6 ⟨rfl, hb6⟩
  have hB6 := below2 hB5 hb6
  clear hb6 hB5
  go_wp2_with fail
  refine (Check_lit (zeros 24) [122] 0 (by decide) _).mono ?_
  rintro e w7 ⟨rfl, hb7⟩
  have hB7 := below2 hB6 hb7
  clear hb7 hB6
  go_wp2_with fail
  refine (Has_lit [97] [] [122, 122] true (by decide) _).mono ?_
  rintro e w8 ⟨rfl, hb8⟩
  have hB8 := below2 hB7 hb8
  clear hb8 hB7
  go_wp2_with fail
  refine (Has_lit [98] [97] [98] false (by decide) _).mono ?_
  rintro e w9 ⟨rfl, hb9⟩
  have hB9 := below2 hB8 hb9
  clear hb9 hB8
  go_wp2_with fail
  refine (Meet_lit [97] [98] [98] [99] false (by decide) _).mono ?_
  rintro e w10 ⟨rfl, hb10⟩
  have hB10 := below2 hB9 hb10
  clear hb10 hB9
  go_wp2_with fail
  refine (Meet_lit [] [] [97] [] true (by decide) _).mono ?_
  rintro e w11 ⟨rfl, hb11⟩
  have hB11 := below2 hB10 hb11
  clear hb11 hB10
  go_wp2_with fail
  refine (Meet_lit [98] [97] [] [] false (by decide) _).mono ?_
  rintro e w12 ⟨rfl, hb12⟩
  have hB12 := below2 hB11 hb12
  clear hb12 hB11
  go_wp2_with fail
  refine (Meet_lit [98] [97] [98] [97] false (by decide) _).mono ?_
  rintro e w13 ⟨rfl, hb13⟩
  have hB13 := below2 hB12 hb13
  clear hb13 hB12
  have hB14 := hB13.alloc hB13.size (.cells #[.string (bstr [97]), .string (bstr [99]), .string (bstr []), .string (bstr [100]), .string (bstr (zeros 25))] 9)
  have hK : ∀ j v, (#[.string (bstr [97]), .string (bstr [99]), .string (bstr []), .string (bstr [100]), .string (bstr (zeros 25))] : Array Value)[j]? = some v → (w13.alloc (.cells #[.string (bstr [97]), .string (bstr [99]), .string (bstr []), .string (bstr [100]), .string (bstr (zeros 25))] 9)).cell? ⟨w13.heap.size, j, none⟩ = some v := fun j v h => by
    rw [World.cell?_alloc_at _ _ w13.heap.size j rfl]; exact h
  have hKl : w13.heap.size < (w13.alloc (.cells #[.string (bstr [97]), .string (bstr [99]), .string (bstr []), .string (bstr [100]), .string (bstr (zeros 25))] 9)).heap.size := by simp
  go_wp2
  generalize w13.alloc (.cells #[.string (bstr [97]), .string (bstr [99]), .string (bstr []), .string (bstr [100]), .string (bstr (zeros 25))] 9) = W at *
  clear hB13 m25 c25
  go_loopw [94] (fun s94 wr => ∃ j : Nat, s94 = .int .i64 (j : Int) ∧ j ≤ 5 ∧ RowKit.Below W.heap.size W wr) (fun s94 _ => 5 - (intOf s94).toNat)
  case atStart => exact ⟨0, rfl, by omega, RowKit.Below.refl _ _⟩
  case round =>
    obtain ⟨j, rfl, hj, hbel⟩ := hrel
    have hkey : ∀ i v, (#[.string (bstr [97]), .string (bstr [99]), .string (bstr []), .string (bstr [100]), .string (bstr (zeros 25))] : Array Value)[i]? = some v → wr.cell? ⟨w13.heap.size, i, none⟩ = some v := fun i v h => by
      rw [(bcell hbel).1 _ _ hKl]; exact hK i v h
    by_cases hlt : j < 5
    · have hbx := hbel.alloc hbel.size (.cells #[.string (bstr [99]), .string (bstr [99]), .string (bstr []), .string (bstr [99]), .string (bstr [])] 9)
      rcases (show j = 0 ∨ j = 1 ∨ j = 2 ∨ j = 3 ∨ j = 4 by omega) with rfl | rfl | rfl | rfl | rfl
      · have c0 := hkey 0 _ rfl
        clear hkey hK
        go_wp2_with fail
        refine (Split_lit [97] [99] [97] (by decide) _).mono ?_
        rintro e wf ⟨rfl, hbf⟩
        have hby := below2 hbx hbf
        clear c0 hbf hbx hbel
        go_wp2
        go_roundw
        case rel => exact ⟨1, rfl, by omega, (hby.alloc hby.size _).alloc (Nat.le_trans hby.size (by simp)) _⟩
        case measure => simp [intOf]
      · have c0 := hkey 1 _ rfl
        clear hkey hK
        go_wp2_with fail
        refine (Split_lit [97] [99] [99] (by decide) _).mono ?_
        rintro e wf ⟨rfl, hbf⟩
        have hby := below2 hbx hbf
        clear c0 hbf hbx hbel
        go_wp2
        go_roundw
        case rel => exact ⟨2, rfl, by omega, (hby.alloc hby.size _).alloc (Nat.le_trans hby.size (by simp)) _⟩
        case measure => simp [intOf]
      · have c0 := hkey 2 _ rfl
        clear hkey hK
        go_wp2_with fail
        refine (Split_lit [97] [] [] (by decide) _).mono ?_
        rintro e wf ⟨rfl, hbf⟩
        have hby := below2 hbx hbf
        clear c0 hbf hbx hbel
        go_wp2
        go_roundw
        case rel => exact ⟨3, rfl, by omega, (hby.alloc hby.size _).alloc (Nat.le_trans hby.size (by simp)) _⟩
        case measure => simp [intOf]
      · have c0 := hkey 3 _ rfl
        clear hkey hK
        go_wp2_with fail
        refine (Split_lit [97] [99] [100] (by decide) _).mono ?_
        rintro e wf ⟨rfl, hbf⟩
        have hby := below2 hbx hbf
        clear c0 hbf hbx hbel
        go_wp2
        go_roundw
        case rel => exact ⟨4, rfl, by omega, (hby.alloc hby.size _).alloc (Nat.le_trans hby.size (by simp)) _⟩
        case measure => simp [intOf]
      · have c0 := hkey 4 _ rfl
        clear hkey hK
        go_wp2_with fail
        refine (Split_lit [97] [] (zeros 25) (by decide) _).mono ?_
        rintro e wf ⟨rfl, hbf⟩
        have hby := below2 hbx hbf
        clear c0 hbf hbx hbel
        go_wp2
        go_roundw
        case rel => exact ⟨5, rfl, by omega, (hby.alloc hby.size _).alloc (Nat.le_trans hby.size (by simp)) _⟩
        case measure => simp [intOf]
    · have hje : j = 5 := by omega
      subst hje
      have hB := below2 hB14 hbel
      clear hkey hK hB14 hbel hlt
      generalize hz25 : zeros 25 = y25 at *
      go_wp2_with fail
      refine (Gap_lit _ [([], y25), (y25, []), ([98], [97])] _ rfl _ 3 rfl (by omega) [] [] (hz25 ▸ gap_lit1)).mono ?_
      rintro e g1 ⟨rfl, hb⟩
      replace hB := below2 (hB.alloc hB.size _) hb
      clear hb
      go_wp2_with fail
      refine (Gap_nil _).mono ?_
      rintro e g2 ⟨rfl, hb⟩
      replace hB := below2 (hB.alloc hB.size _) hb
      clear hb
      go_wp2_with fail
      refine (Gap_at _ _ (by simp) [([], [98]), ([100], [])] _ rfl _ 2 rfl (by omega) [98] [100] gap_lit2).mono ?_
      rintro e g3 ⟨rfl, hb⟩
      have rc : RngAt g3 g2.heap.size [] [] := ⟨cell_old2 hb 0 rfl, cell_old2 hb 1 rfl⟩
      replace hb := below_two _ _ _ hb
      replace hB := below2 hB hb
      clear hb
      go_wp2_with fail
      refine (Gap_at _ _ (by simp) [([98], []), ([], [97])] _ rfl _ 2 rfl (by omega) [97] [98] gap_lit3).mono ?_
      rintro e g4 ⟨rfl, hb⟩
      have re : RngAt g4 g3.heap.size [98] [100] := ⟨cell_old2 hb 0 rfl, cell_old2 hb 1 rfl⟩
      replace hb := below_two _ _ _ hb
      replace rc := rc.step hb
      replace hB := below2 hB hb
      clear hb
      go_wp2_with fail
      refine (Gap_at _ _ (by simp) [([99], [100]), ([], [98]), ([97], [99])] _ rfl _ 3 rfl (by omega) [100] [] gap_lit4).mono ?_
      rintro e g5 ⟨rfl, hb⟩
      have rg : RngAt g5 g4.heap.size [97] [98] := ⟨cell_old2 hb 0 rfl, cell_old2 hb 1 rfl⟩
      replace hb := below_two _ _ _ hb
      replace rc := rc.step hb
      replace re := re.step hb
      replace hB := below2 hB hb
      clear hb
      obtain ⟨rc0, rc1⟩ := rc.alloc (.cells #[.string (bstr [100]), .string (bstr [])] 26)
      obtain ⟨re0, re1⟩ := re.alloc (.cells #[.string (bstr [100]), .string (bstr [])] 26)
      obtain ⟨rg0, rg1⟩ := rg.alloc (.cells #[.string (bstr [100]), .string (bstr [])] 26)
      clear rc re rg
      go_wp2_with fail
      clear rc0 rc1 re0 re1 rg0 rg1
      have hBX : RowKit.Below w.heap.size w ((g5.alloc (.cells #[.string (bstr [100]), .string (bstr [])] 26)).alloc (.cells #[.string (bstr [114]), .string (bstr []), .int .u64 1, .bool false, .string (bstr [118])] 37)) := (hB.alloc hB.size _).alloc (Nat.le_trans hB.size (by simp)) _
      have hgood := CellAt.new2 g5 (.cells #[.string (bstr [100]), .string (bstr [])] 26) 37 [114] [] 1 false [118]
      generalize (g5.alloc (.cells #[.string (bstr [100]), .string (bstr [])] 26)).alloc (.cells #[.string (bstr [114]), .string (bstr []), .int .u64 1, .bool false, .string (bstr [118])] 37) = X at *
      clear hB
      have m33 : ∀ W : World, (Instr.makeSlice 22 (.int .i64 33) (.int .i64 33)).run Try.prog W = .ok (.slice (some ⟨W.heap.size, 0, none⟩) 33 33) (W.alloc (.cells (zs 33) 5)) := fun W => make_run .i64 33 (by omega) W
      have m17 : ∀ W : World, (Instr.makeSlice 22 (.int .i64 17) (.int .i64 17)).run Try.prog W = .ok (.slice (some ⟨W.heap.size, 0, none⟩) 17 17) (W.alloc (.cells (zs 17) 5)) := fun W => make_run .i64 17 (by omega) W
      have mB : ∀ W : World, (Instr.makeSlice 22 (.int .i64 65537) (.int .i64 65537)).run Try.prog W = .ok (.slice (some ⟨W.heap.size, 0, none⟩) 65537 65537) (W.alloc (.cells (zs 65537) 5)) := fun W => make_run .i64 65537 (by omega) W
      have k33 := fun (W : World) (b : Nat) (h : Zb (zs 33) b W) => cvw W b 33 h (by omega)
      have k17 := fun (W : World) (b : Nat) (h : Zb (zs 17) b W) => cvw W b 17 h (by omega)
      have kB := fun (W : World) (b : Nat) (h : Zb (zs 65537) b W) => cvw W b 65537 h (by omega)
      have l33 := zeros_length 33
      have l17 := zeros_length 17
      have lB := zeros_length 65537
      generalize zs 33 = z33 at *
      generalize zs 17 = z17 at *
      generalize zs 65537 = zB at *
      generalize zeros 33 = y33 at *
      generalize zeros 17 = y17 at *
      generalize zeros 65537 = yB at *
      go_cut [20] from 22 (fun s20 wx => ∃ n : Nat, s20 = .slice (some ⟨n, 0, none⟩) 7 7 ∧ BadAt y33 y17 yB wx n ∧ RowKit.Below X.heap.size X wx)
      case first =>
        refine bad_region z33 z17 zB y33 y17 yB _ X _ rfl m33 k33 m17 k17 mB kB ?_
        intro n p q r wx hbad hbel
        unfold finA fin3
        simp only [put3, base4, Nat.reduceAdd, List.setIfInBounds_toArray, List.set_cons_zero, List.set_cons_succ]
        go_wp2
        go_meet
        case rel => exact ⟨n, rfl, hbad, hbel⟩
      case rest =>
        obtain ⟨n, rfl, hbad, hbel⟩ := hcut
        clear m33 m17 mB k33 k17 kB
        have hgood2 := hgood.step hbel
        have hBc := below2 hBX hbel
        clear hgood hBX hbel
        have hnl : n < wc.heap.size := block_lt_of_cell (hbad 0 _ rfl)
        have hu25 : userB y25 = false := by rw [← hz25]; decide
        go_wp2
        go_loopw [21] (fun s21 wr => ∃ j : Nat, s21 = .int .i64 (j : Int) ∧ j ≤ 7 ∧ RowKit.Below wc.heap.size wc wr) (fun s21 _ => 7 - (intOf s21).toNat)
        case atStart => exact ⟨0, rfl, by omega, RowKit.Below.refl _ _⟩
        case round =>
          obtain ⟨j, rfl, hj7, hbel⟩ := hrel
          have hbd : BadAt y33 y17 yB wr n := fun i v h => by rw [(bcell hbel).1 _ _ hnl]; exact hbad i v h
          by_cases hlt : j < 7
          · rcases (show j = 0 ∨ j = 1 ∨ j = 2 ∨ j = 3 ∨ j = 4 ∨ j = 5 ∨ j = 6 by omega) with rfl | rfl | rfl | rfl | rfl | rfl | rfl
            · obtain ⟨c0, c1, c2, c3, c4⟩ := And.intro (hbd 0 _ rfl) (And.intro (hbd 1 _ rfl) (And.intro (hbd 2 _ rfl) (And.intro (hbd 3 _ rfl) (hbd 4 _ rfl))))
              clear hbd hbad
              go_wp2_with fail
              refine (Cell_lit [114] [] 0 false [] 2 (by decide) _).mono ?_
              rintro e wf ⟨rfl, hbf⟩
              have hby := below2 hbel hbf
              clear c0 c1 c2 c3 c4 hbf hbel
              go_wp2
              go_roundw
              case rel => exact ⟨1, rfl, by omega, hby⟩
              case measure => simp [intOf]
            · obtain ⟨c0, c1, c2, c3, c4⟩ := And.intro (hbd 5 _ rfl) (And.intro (hbd 6 _ rfl) (And.intro (hbd 7 _ rfl) (And.intro (hbd 8 _ rfl) (hbd 9 _ rfl))))
              clear hbd hbad
              go_wp2_with fail
              refine (Cell_lit [] [] 1 false [] 2 (by decide) _).mono ?_
              rintro e wf ⟨rfl, hbf⟩
              have hby := below2 hbel hbf
              clear c0 c1 c2 c3 c4 hbf hbel
              go_wp2
              go_roundw
              case rel => exact ⟨2, rfl, by omega, hby⟩
              case measure => simp [intOf]
            · obtain ⟨c0, c1, c2, c3, c4⟩ := And.intro (hbd 10 _ rfl) (And.intro (hbd 11 _ rfl) (And.intro (hbd 12 _ rfl) (And.intro (hbd 13 _ rfl) (hbd 14 _ rfl))))
              clear hbd hbad
              go_wp2_with fail
              refine (Cell_lit y33 [] 1 false [] 2 (by simp [mayC, storedB, l33]) _).mono ?_
              rintro e wf ⟨rfl, hbf⟩
              have hby := below2 hbel hbf
              clear c0 c1 c2 c3 c4 hbf hbel
              go_wp2
              go_roundw
              case rel => exact ⟨3, rfl, by omega, hby⟩
              case measure => simp [intOf]
            · obtain ⟨c0, c1, c2, c3, c4⟩ := And.intro (hbd 15 _ rfl) (And.intro (hbd 16 _ rfl) (And.intro (hbd 17 _ rfl) (And.intro (hbd 18 _ rfl) (hbd 19 _ rfl))))
              clear hbd hbad
              go_wp2_with fail
              refine (Cell_lit [114] y17 1 false [] 2 (by simp [mayC, l17]) _).mono ?_
              rintro e wf ⟨rfl, hbf⟩
              have hby := below2 hbel hbf
              clear c0 c1 c2 c3 c4 hbf hbel
              go_wp2
              go_roundw
              case rel => exact ⟨4, rfl, by omega, hby⟩
              case measure => simp [intOf]
            · obtain ⟨c0, c1, c2, c3, c4⟩ := And.intro (hbd 20 _ rfl) (And.intro (hbd 21 _ rfl) (And.intro (hbd 22 _ rfl) (And.intro (hbd 23 _ rfl) (hbd 24 _ rfl))))
              clear hbd hbad
              go_wp2_with fail
              refine (Cell_lit [114] [] 1099511627777 false [] 2 (by decide) _).mono ?_
              rintro e wf ⟨rfl, hbf⟩
              have hby := below2 hbel hbf
              clear c0 c1 c2 c3 c4 hbf hbel
              go_wp2
              go_roundw
              case rel => exact ⟨5, rfl, by omega, hby⟩
              case measure => simp [intOf]
            · obtain ⟨c0, c1, c2, c3, c4⟩ := And.intro (hbd 25 _ rfl) (And.intro (hbd 26 _ rfl) (And.intro (hbd 27 _ rfl) (And.intro (hbd 28 _ rfl) (hbd 29 _ rfl))))
              clear hbd hbad
              go_wp2_with fail
              refine (Cell_lit [114] [] 1 true [118] 2 (by decide) _).mono ?_
              rintro e wf ⟨rfl, hbf⟩
              have hby := below2 hbel hbf
              clear c0 c1 c2 c3 c4 hbf hbel
              go_wp2
              go_roundw
              case rel => exact ⟨6, rfl, by omega, hby⟩
              case measure => simp [intOf]
            · obtain ⟨c0, c1, c2, c3, c4⟩ := And.intro (hbd 30 _ rfl) (And.intro (hbd 31 _ rfl) (And.intro (hbd 32 _ rfl) (And.intro (hbd 33 _ rfl) (hbd 34 _ rfl))))
              clear hbd hbad
              go_wp2_with fail
              refine (Cell_lit [114] [] 1 false yB 2 (by simp [mayC, lB]) _).mono ?_
              rintro e wf ⟨rfl, hbf⟩
              have hby := below2 hbel hbf
              clear c0 c1 c2 c3 c4 hbf hbel
              go_wp2
              go_roundw
              case rel => exact ⟨7, rfl, by omega, hby⟩
              case measure => simp [intOf]
          · have hje : j = 7 := by omega
            subst hje
            have hgood3 := hgood2.step hbel
            have hB := below2 hBc hbel
            clear hbd hbad hBc hbel hlt hgood2 l33 l17 lB hj hnl
            obtain ⟨c0, c1, c2, c3, c4⟩ := hgood3
            go_wp2_with fail
            refine (Cell_lit [114] [] 1 false [118] 0 (by decide) _).mono ?_
            rintro e q0 ⟨rfl, hb⟩
            replace hB := below2 hB hb
            clear hb
            clear c0 c1 c2 c3 c4
            go_wp2_with fail
            refine (Cell_lit [] [120] 1099511627776 true [] 0 (by decide) _).mono ?_
            rintro e q1 ⟨rfl, hb⟩
            replace hB := below2 hB hb
            clear hb
            go_wp2_with fail
            refine (Cmp_lit [97] [120] 2 [97] [120] 1 (-1) (by decide) _).mono ?_
            rintro e q2 ⟨rfl, hb⟩
            replace hB := below2 hB hb
            clear hb
            go_wp2_with fail
            refine (Cmp_lit [98] [] 0 [97] [122] 0 1 (by decide) _).mono ?_
            rintro e q3 ⟨rfl, hb⟩
            replace hB := below2 hB hb
            clear hb
            go_wp2_with fail
            refine (User_lit (zeros 24) true (by decide) _).mono ?_
            rintro e q4 ⟨rfl, hb⟩
            replace hB := below2 hB hb
            clear hb
            go_wp2_with fail
            refine (User_lit [] false (by decide) _).mono ?_
            rintro e q5 ⟨rfl, hb⟩
            replace hB := below2 hB hb
            clear hb
            go_wp2_with fail
            refine (User_lit y25 false hu25 _).mono ?_
            rintro e q6 ⟨rfl, hb⟩
            replace hB := below2 hB hb
            clear hb
            go_wp2_with fail
            refine (Stored_any [] _).mono ?_
            rw [show storedB [] = true from by decide]
            rintro e q7 ⟨rfl, hb⟩
            replace hB := below2 hB hb
            clear hb
            go_wp2_with fail
            refine (works_any _).mono ?_
            rintro e q8 ⟨rfl, hb⟩
            replace hB := below2 hB hb
            clear hb
            go_wp2
            go_ret
            exact ⟨rfl, hB⟩

end Go.Proofs.Ytalkhkndelpdfaa
