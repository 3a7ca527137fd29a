/-
  The walk of the law DicePlays over this seat's translation: it returns true, and of what was there nothing has turned.
-/
import Derived.Test.YtgcgoijkgjfbmaaDRef
import Derived.Test.YtgcgoijkgjfbmaaDWks
import Derived.Deep.RegionHeld3
namespace Go.Proofs.Ytgcgoijkgjfbmaa
open Go.RowKit Go.BigFrame

theorem nxR_le (n : Int) (l : List UInt8) : (nxR n l).length ≤ l.length := by unfold nxR; rw [List.length_drop]; omega
/-- From i on the bytes of l lie in block b. -/
def From (w : World) (b i : Nat) (l : List UInt8) : Prop := ∀ j (h : j < l.length), i ≤ j → w.cell? ⟨b, j, none⟩ = some (.int .u8 (l[j].toNat : Int))
theorem From.set {w : World} {b i : Nat} {l : List UInt8} (h : From w b i l) (v : Value) : From (w.setCell ⟨b, i, none⟩ v) b (i + 1) l := by
  intro j hj hij
  rw [World.cell?_setCell_other _ _ _ _ (by intro e; simp only [Addr.mk.injEq] at e; omega)]
  exact h j hj (by omega)

set_option maxHeartbeats 4000000 in
set_option maxRecDepth 100000 in
theorem plays_some (a : Addr) (cap : Nat) (R : List UInt8) (q2 : Option Addr) (cap2 : Nat) (A : List Int) (w : World) (hA : BArg w (some a) R) (hc : R.length ≤ cap) (hA2 : IArg w q2 A) :
    Calls Try.prog 3 #[.slice (some a) R.length cap, .slice q2 A.length cap2] w fun e w' => e = .returned (.bool true) ∧ Below w.heap.size w w' := by
  obtain ⟨i0, hi, hz0, hz1, hz2⟩ := info_parts Try.infoByte
  have hown0 : w.ownsRow w.heap.size 5 1 (.slice none 0 0) 0 [] := ⟨rfl, .inl ⟨rfl, rfl⟩⟩
  obtain ⟨N, hN, hN3, hNl⟩ : ∃ N : Nat, min (R.length : Int) 1000 = (N : Int) ∧ N ≤ 1000 ∧ N ≤ R.length := ⟨min R.length 1000, by omega, by omega, by omega⟩
  have hI0 : (0 : Int) ≤ (N : Int) := by omega
  have hI1 : (N : Int) ≤ (cap : Int) := by omega
  obtain ⟨l, hl, hlN⟩ : ∃ l, l = R.take N ∧ N = l.length := ⟨_, rfl, by rw [List.length_take]; omega⟩
  have hAl : BArg w (some a) l := by rw [hl]; exact hA.take N
  clear hl
  subst hlN
  have hnews : ∀ j u, (Lib.byteCells l)[j]? = some u → w.cell? (a.add j) = some u := by
    intro j u hj
    have hjl : j < l.length := by
      have := (List.getElem?_eq_some_iff.1 hj).1
      rwa [Lib.byteCells_length] at this
    obtain ⟨b, off, hq, hR⟩ := hAl (by omega)
    cases hq
    rw [Addr.add_lit, hR j hjl, ← hj]
    simp [Lib.byteCells, hjl]
  go_enter Try.func3, Try.ntmps3
  go_wp2_with (at_builtin; refine wpList_append_own _ rfl _ _ 22 rfl w.heap.size 5 i0 (.int .u8 0) 1 1 Try.underlying22 hi hz0 hz1 hz2 rfl (by decide) _ _ _ rfl hown0 a l.length cap (Lib.byteCells l) rfl (by rw [Lib.byteCells_length, Nat.mul_one]) hnews (by intro u hu; obtain ⟨b, _, rfl⟩ := List.mem_map.1 hu; rfl) (by unfold maxLen; omega) (by omega) (Nat.le_refl _) ?_)
  intro v' w1 hown1 hgrow _
  have hb1 : Below w.heap.size w w1 := (Below.refl _ _).grown hgrow (Nat.le_refl _) (fun k hk => by cases hk)
  have HL : Hid _ := hN
  clear hN hnews hgrow
  obtain ⟨qo, capo, rfl, _, hco, hcm, hqo, _⟩ := own_barg hown1
  have hfz : 0 < l.length → ∀ b o, qo = some ⟨b, 0, none⟩ → w1.frozen? ⟨b, o, none⟩ = false := by
    intro h0 b o hq
    rcases hown1.2 with ⟨hv, _⟩ | ⟨g, cap, cur, hv, hbg, hg, _⟩
    · rw [hq] at hv
      simp at hv
    · rw [hq] at hv
      injection hv with h1 h2 h3
      cases h1
      exact (cells_block hg).2 o
  go_wp2_with fail
  refine (New_any qo capo l _ (BArg.of_own hqo) (by omega)).mono ?_
  rintro e w2 ⟨gd, rfl, hd, hb2⟩
  have hb := b_step hb1 hb2 (Nat.le_refl _)
  have hgd : w.heap.size ≤ gd := by have := hd.1; have := hb1.size; omega
  obtain ⟨bo, hbo⟩ : ∃ bo, 0 < l.length → qo = some ⟨bo, 0, none⟩ ∧ w.heap.size ≤ bo ∧ bo < w1.heap.size ∧ From w2 bo 0 l ∧ ∀ o, w2.frozen? ⟨bo, o, none⟩ = false := by
    by_cases h0 : 0 < l.length
    · obtain ⟨b, hq, hB, hR⟩ := hqo h0
      have hlt := hR.lt h0
      refine ⟨b, fun _ => ⟨hq, hB, hlt, fun j hj _ => ?_, fun o => ?_⟩⟩
      · have := hR j hj
        rw [Nat.zero_add] at this
        rw [(bcell hb2).1 _ _ hlt]
        exact this
      · rw [(bcell hb2).2 _ _ hlt]
        exact hfz h0 b o hq
    · exact ⟨0, fun h => absurd h h0⟩
  have hsz1 : w.heap.size ≤ w1.heap.size := hb1.size
  obtain ⟨B1, hB1⟩ : ∃ B1, B1 = w1.heap.size := ⟨_, rfl⟩
  obtain ⟨C1, hC1⟩ : ∃ C1, C1 = w2.heap.size := ⟨_, rfl⟩
  rw [← hB1] at hd hbo hsz1
  rw [← hC1] at hd
  have hC1' : C1 ≤ w2.heap.size := by omega
  clear hown1 hqo hfz hb1 hb2 hB1 hC1
  go_wp2
  go_loopw [7] (fun s7 wr => ∃ i : Nat, s7 = .int .i64 (i : Int) ∧ i ≤ l.length ∧ (0 < l.length → qo = some ⟨bo, 0, none⟩ ∧ w.heap.size ≤ bo ∧ bo < B1 ∧ From wr bo i l ∧ ∀ o, wr.frozen? ⟨bo, o, none⟩ = false) ∧ Dc wr B1 C1 gd l ∧ Below w.heap.size w wr) (fun s7 _ => l.length - (intOf s7).toNat)
  case atStart => exact ⟨0, rfl, by omega, hbo, hd, hb⟩
  case round =>
    obtain ⟨i, rfl, hil, hbi, hdi, hbel⟩ := hrel
    clear hbo hd hb
    by_cases hlt : i < l.length
    · obtain ⟨rfl, hb1, hb2, hF, hfz⟩ := hbi (by omega)
      have c0 := hF i hlt (Nat.le_refl _)
      have f0 := hfz i
      have hI : (i : Int) < (l.length : Int) := by omega
      have hx := l[i].toNat_lt
      have hF2 := hF.set (.int .u8 (255 - (l[i].toNat : Int)))
      have HF2 : Hid _ := hF2
      have HFZ : Hid _ := hfz
      have hd2 := hdi.kept (grown_setCell wr bo i (.int .u8 (255 - (l[i].toNat : Int)))) (.inl hb2)
      have hb3 : Below w.heap.size w (wr.setCell ⟨bo, i, none⟩ (.int .u8 (255 - (l[i].toNat : Int)))) := hbel.setCell (p := ⟨bo, i, none⟩) hb1 _
      clear hbi hF hF2 hfz hdi hbel
      generalize l[i] = x at *
      go_wp2
      go_roundw
      case rel => exact ⟨i + 1, by go_num, by omega, fun _ => ⟨trivial, hb1, hb2, HF2.out, fun o => by simpa using HFZ.out o⟩, hd2, hb3⟩
      case measure => simp [intOf]; omega
    · clear hbi
      obtain ⟨wo, hwo⟩ : ∃ wo, wo = wr := ⟨_, rfl⟩
      rw [← hwo]
      rw [← hwo] at hdi hbel
      clear hwo
      have hAo : BArg wo (some a) l := hAl.below hbel
      have hCo : C1 ≤ wo.heap.size := hdi.2.2.1
      go_wp2_with fail
      refine (RNew_any (some a) cap l _ hAo hN3).mono ?_
      rintro e w3 ⟨gq, rfl, hr, hb3⟩
      have hb4 := b_step hbel hb3 (Nat.le_refl _)
      have hd3 := hdi.below hb3 hCo
      have hgq : w.heap.size ≤ gq := by have := hr.1; have := hbel.size; omega
      obtain ⟨B3, hB3⟩ : ∃ B3, B3 = wo.heap.size := ⟨_, rfl⟩
      obtain ⟨C3, hC3⟩ : ∃ C3, C3 = w3.heap.size := ⟨_, rfl⟩
      rw [← hB3] at hr hCo
      rw [← hC3] at hr
      clear hdi hbel hb3 hAo hB3 hC3 hC1'
      go_wp2
      go_loopw [9] (fun s9 wr => ∃ (k : Nat) (L : List UInt8), s9 = .int .i64 (k : Int) ∧ k ≤ A.length ∧ k ≤ 200 ∧ Dc wr B1 C1 gd L ∧ Rc wr B3 C3 gq L ∧ L.length ≤ 1000 ∧ Below w.heap.size w wr) (fun s9 _ => 200 - (intOf s9).toNat)
      case atStart => exact ⟨0, l, rfl, by omega, by omega, hd3, hr, hN3, hb4⟩
      case round =>
        obtain ⟨k, L, rfl, hkl, hk2, hdk, hrk, hL, hbel⟩ := hrel
        clear hd3 hr hb4
        by_cases hlt : k < A.length ∧ k < 200
        · obtain ⟨hlt, hlt2⟩ := hlt
          obtain ⟨b, off, rfl, hbl, hR⟩ := hA2 (by omega)
          have c0 : wr.cell? ⟨b, off + k, none⟩ = some (.int .i64 A[k]) := (hR.block (hbel.block b hbl)) k hlt
          have hI2 : (k : Int) < (A.length : Int) := by omega
          have hI3 : (k : Int) < 200 := by omega
          generalize A[k] = x at *
          go_wp2_with fail
          refine (Copy_any gd _ _ _ _ hdk (by omega)).mono ?_
          rintro e w4 ⟨gc, rfl, hc4, hb5⟩
          have hd4 := hdk.below hb5 hdk.2.2.1
          have hr4 := hrk.below hb5 hrk.2.2.1
          have hb4 := b_step hbel hb5 (Nat.le_refl _)
          have hgc : w.heap.size ≤ gc := by have := hc4.1; have := hbel.size; omega
          have c4 : w4.cell? ⟨b, off + k, none⟩ = some (.int .i64 x) := by rw [(bcell hb5).1 _ _ (block_lt_of_cell c0)]; exact c0
          have hBc : C3 ≤ wr.heap.size := hrk.2.2.1
          obtain ⟨Bc, hBc2⟩ : ∃ Bc, Bc = wr.heap.size := ⟨_, rfl⟩
          obtain ⟨Cc, hCc2⟩ : ∃ Cc, Cc = w4.heap.size := ⟨_, rfl⟩
          rw [← hBc2] at hc4 hBc
          rw [← hCc2] at hc4
          have hgd2 : gd < C1 := hd4.2.1
          have hgq2 : gq < C3 := hr4.2.1
          have hgq3 : B3 ≤ gq := hr4.1
          clear hdk hrk hbel hb5 c0 hBc2 hCc2
          have hL2 := nxR_le x L
          have hdn := Next_any gd _ _ x L w4.drew hd4
          have hrn : ∀ W, Rc W B3 C3 gq L → _ := fun W h => RNext_any gq _ _ x L W h
          generalize nxV x L = v at *
          generalize nxR x L = L' at *
          have hbk : b < w4.heap.size := block_lt_of_cell c4
          go_wp2_with fail
          go_region_held3 (fun w' => w'.cell? ⟨b, off + k, none⟩ = some (.int .i64 x)) (first | with_reducible exact c4 | with_reducible exact c6 | with_reducible exact c7 | go_keep)
            (first
              | (go_at_call 11; refine hdn.mono ?_; rintro e w6 ⟨rfl, hd6, hg6⟩; have hr6 := (show Rc w4.drew B3 C3 gq L from hr4).kept hg6 (.inl (by omega)); have hc6 := (show Dc w4.drew Bc Cc gc L from hc4).kept hg6 (.inl (by omega)); have hb6 := b_grown (Below.drew hb4) hg6 (Nat.le_refl _) hgd; have c6 : w6.cell? ⟨b, off + k, none⟩ = some (.int .i64 x) := (World.cell?_of_block (a := ⟨b, off + k, none⟩) (hg6.block b hbk (by simp; omega))).trans c4)
              | (go_at_call 12; refine (hrn _ hr6).mono ?_; rintro e w7 ⟨rfl, hr7, hg7⟩; have hd7 := hd6.kept hg7 (.inr (by omega)); have hc7 := hc6.kept hg7 (.inl (by omega)); have hb7 := b_grown hb6 hg7 (Nat.le_refl _) hgq; have c7 : w7.cell? ⟨b, off + k, none⟩ = some (.int .i64 x) := (World.cell?_of_block (a := ⟨b, off + k, none⟩) (hg7.block b (block_lt_of_cell c6) (by simp; omega))).trans c6)
              | (go_at_call 13; refine (Left_any gd _ _ _ _ hd7).mono ?_; rintro e w8 ⟨rfl, rfl⟩)
              | (go_at_call 14; refine (RLeft_any gq _ _ _ _ hr7).mono ?_; rintro e w9 ⟨rfl, rfl⟩))
          all_goals
            clear c4 c6 c7 hdn hrn hd4 hr4 hc4 hd6 hr6 hc6 hg6 hg7 hb4 hb6
            go_wp2_with fail
            refine (Next_any gc _ _ 256 _ _ hc7).mono ?_
            rintro e w10 ⟨rfl, _, hg10⟩
            have hd10 := hd7.kept hg10 (.inr (by have := hc7.1; omega))
            have hr10 := hr7.kept hg10 (.inr (by have := hc7.1; omega))
            have hb10 := b_grown hb7 hg10 (Nat.le_refl _) hgc
            clear hd7 hr7 hc7 hg10 hb7
            go_wp2_with fail
            refine (Left_any gd _ _ _ _ hd10).mono ?_
            rintro e w11 ⟨rfl, rfl⟩
            go_wp2_with fail
            refine (RLeft_any gq _ _ _ _ hr10).mono ?_
            rintro e w12 ⟨rfl, rfl⟩
            go_wp2
            go_roundw
            case rel => exact ⟨k + 1, L', by go_num, by omega, by omega, hd10, hr10, by omega, hb10⟩
            case measure => simp [intOf]; omega
        · by_cases hs1 : (k : Int) < (A.length : Int)
          · have hs2 : ¬ (k : Int) < 200 := by omega
            go_wp2_with fail
            refine (works_any _).mono ?_
            rintro e w4 ⟨rfl, hb4⟩
            have hb5 := b_step hbel hb4 (Nat.le_refl _)
            go_wp2
            go_ret
            exact ⟨rfl, hb5⟩
          · go_wp2_with fail
            refine (works_any _).mono ?_
            rintro e w4 ⟨rfl, hb4⟩
            have hb5 := b_step hbel hb4 (Nat.le_refl _)
            go_wp2
            go_ret
            exact ⟨rfl, hb5⟩

set_option maxHeartbeats 4000000 in
set_option maxRecDepth 100000 in
theorem plays_none (q2 : Option Addr) (cap2 : Nat) (A : List Int) (w : World) (hA2 : IArg w q2 A) :
    Calls Try.prog 3 #[.slice none 0 0, .slice q2 A.length cap2] w fun e w' => e = .returned (.bool true) ∧ Below w.heap.size w w' := by
  go_enter Try.func3, Try.ntmps3
  go_wp2_with fail
  refine (New_any none 0 [] _ (BArg.nil _ _) (by decide)).mono ?_
  rintro e w2 ⟨gd, rfl, hd, hb⟩
  have hgd : w.heap.size ≤ gd := hd.1
  obtain ⟨B1, hB1⟩ : ∃ B1, B1 = w.heap.size := ⟨_, rfl⟩
  obtain ⟨C1, hC1⟩ : ∃ C1, C1 = w2.heap.size := ⟨_, rfl⟩
  rw [← hB1] at hd
  rw [← hC1] at hd
  clear hB1 hC1
  go_wp2
  go_loopw [7] (fun s7 wr => s7 = .int .i64 0 ∧ Dc wr B1 C1 gd [] ∧ Below w.heap.size w wr) (fun _ _ => 0)
  case atStart => exact ⟨rfl, hd, hb⟩
  case round =>
    obtain ⟨rfl, hdi, hbel⟩ := hrel
    clear hd hb
    · obtain ⟨wo, hwo⟩ : ∃ wo, wo = wr := ⟨_, rfl⟩
      rw [← hwo]
      rw [← hwo] at hdi hbel
      clear hwo
      have hCo : C1 ≤ wo.heap.size := hdi.2.2.1
      go_wp2_with fail
      refine (RNew_any none 0 [] _ (BArg.nil _ _) (by decide)).mono ?_
      rintro e w3 ⟨gq, rfl, hr, hb3⟩
      have hb4 := b_step hbel hb3 (Nat.le_refl _)
      have hd3 := hdi.below hb3 hCo
      have hgq : w.heap.size ≤ gq := by have := hr.1; have := hbel.size; omega
      obtain ⟨B3, hB3⟩ : ∃ B3, B3 = wo.heap.size := ⟨_, rfl⟩
      obtain ⟨C3, hC3⟩ : ∃ C3, C3 = w3.heap.size := ⟨_, rfl⟩
      rw [← hB3] at hr hCo
      rw [← hC3] at hr
      clear hdi hbel hb3 hB3 hC3
      go_wp2
      go_loopw [9] (fun s9 wr => ∃ (k : Nat) (L : List UInt8), s9 = .int .i64 (k : Int) ∧ k ≤ A.length ∧ k ≤ 200 ∧ Dc wr B1 C1 gd L ∧ Rc wr B3 C3 gq L ∧ L.length ≤ 1000 ∧ Below w.heap.size w wr) (fun s9 _ => 200 - (intOf s9).toNat)
      case atStart => exact ⟨0, [], rfl, by omega, by omega, hd3, hr, by simp, hb4⟩
      case round =>
        obtain ⟨k, L, rfl, hkl, hk2, hdk, hrk, hL, hbel⟩ := hrel
        clear hd3 hr hb4
        by_cases hlt : k < A.length ∧ k < 200
        · obtain ⟨hlt, hlt2⟩ := hlt
          obtain ⟨b, off, rfl, hbl, hR⟩ := hA2 (by omega)
          have c0 : wr.cell? ⟨b, off + k, none⟩ = some (.int .i64 A[k]) := (hR.block (hbel.block b hbl)) k hlt
          have hI2 : (k : Int) < (A.length : Int) := by omega
          have hI3 : (k : Int) < 200 := by omega
          generalize A[k] = x at *
          go_wp2_with fail
          refine (Copy_any gd _ _ _ _ hdk (by omega)).mono ?_
          rintro e w4 ⟨gc, rfl, hc4, hb5⟩
          have hd4 := hdk.below hb5 hdk.2.2.1
          have hr4 := hrk.below hb5 hrk.2.2.1
          have hb4 := b_step hbel hb5 (Nat.le_refl _)
          have hgc : w.heap.size ≤ gc := by have := hc4.1; have := hbel.size; omega
          have c4 : w4.cell? ⟨b, off + k, none⟩ = some (.int .i64 x) := by rw [(bcell hb5).1 _ _ (block_lt_of_cell c0)]; exact c0
          have hBc : C3 ≤ wr.heap.size := hrk.2.2.1
          obtain ⟨Bc, hBc2⟩ : ∃ Bc, Bc = wr.heap.size := ⟨_, rfl⟩
          obtain ⟨Cc, hCc2⟩ : ∃ Cc, Cc = w4.heap.size := ⟨_, rfl⟩
          rw [← hBc2] at hc4 hBc
          rw [← hCc2] at hc4
          have hgd2 : gd < C1 := hd4.2.1
          have hgq2 : gq < C3 := hr4.2.1
          have hgq3 : B3 ≤ gq := hr4.1
          clear hdk hrk hbel hb5 c0 hBc2 hCc2
          have hL2 := nxR_le x L
          have hdn := Next_any gd _ _ x L w4.drew hd4
          have hrn : ∀ W, Rc W B3 C3 gq L → _ := fun W h => RNext_any gq _ _ x L W h
          generalize nxV x L = v at *
          generalize nxR x L = L' at *
          have hbk : b < w4.heap.size := block_lt_of_cell c4
          go_wp2_with fail
          go_region_held3 (fun w' => w'.cell? ⟨b, off + k, none⟩ = some (.int .i64 x)) (first | with_reducible exact c4 | with_reducible exact c6 | with_reducible exact c7 | go_keep)
            (first
              | (go_at_call 11; refine hdn.mono ?_; rintro e w6 ⟨rfl, hd6, hg6⟩; have hr6 := (show Rc w4.drew B3 C3 gq L from hr4).kept hg6 (.inl (by omega)); have hc6 := (show Dc w4.drew Bc Cc gc L from hc4).kept hg6 (.inl (by omega)); have hb6 := b_grown (Below.drew hb4) hg6 (Nat.le_refl _) hgd; have c6 : w6.cell? ⟨b, off + k, none⟩ = some (.int .i64 x) := (World.cell?_of_block (a := ⟨b, off + k, none⟩) (hg6.block b hbk (by simp; omega))).trans c4)
              | (go_at_call 12; refine (hrn _ hr6).mono ?_; rintro e w7 ⟨rfl, hr7, hg7⟩; have hd7 := hd6.kept hg7 (.inr (by omega)); have hc7 := hc6.kept hg7 (.inl (by omega)); have hb7 := b_grown hb6 hg7 (Nat.le_refl _) hgq; have c7 : w7.cell? ⟨b, off + k, none⟩ = some (.int .i64 x) := (World.cell?_of_block (a := ⟨b, off + k, none⟩) (hg7.block b (block_lt_of_cell c6) (by simp; omega))).trans c6)
              | (go_at_call 13; refine (Left_any gd _ _ _ _ hd7).mono ?_; rintro e w8 ⟨rfl, rfl⟩)
              | (go_at_call 14; refine (RLeft_any gq _ _ _ _ hr7).mono ?_; rintro e w9 ⟨rfl, rfl⟩))
          all_goals
            clear c4 c6 c7 hdn hrn hd4 hr4 hc4 hd6 hr6 hc6 hg6 hg7 hb4 hb6
            go_wp2_with fail
            refine (Next_any gc _ _ 256 _ _ hc7).mono ?_
            rintro e w10 ⟨rfl, _, hg10⟩
            have hd10 := hd7.kept hg10 (.inr (by have := hc7.1; omega))
            have hr10 := hr7.kept hg10 (.inr (by have := hc7.1; omega))
            have hb10 := b_grown hb7 hg10 (Nat.le_refl _) hgc
            clear hd7 hr7 hc7 hg10 hb7
            go_wp2_with fail
            refine (Left_any gd _ _ _ _ hd10).mono ?_
            rintro e w11 ⟨rfl, rfl⟩
            go_wp2_with fail
            refine (RLeft_any gq _ _ _ _ hr10).mono ?_
            rintro e w12 ⟨rfl, rfl⟩
            go_wp2
            go_roundw
            case rel => exact ⟨k + 1, L', by go_num, by omega, by omega, hd10, hr10, by omega, hb10⟩
            case measure => simp [intOf]; omega
        · by_cases hs1 : (k : Int) < (A.length : Int)
          · have hs2 : ¬ (k : Int) < 200 := by omega
            go_wp2_with fail
            refine (works_any _).mono ?_
            rintro e w4 ⟨rfl, hb4⟩
            have hb5 := b_step hbel hb4 (Nat.le_refl _)
            go_wp2
            go_ret
            exact ⟨rfl, hb5⟩
          · go_wp2_with fail
            refine (works_any _).mono ?_
            rintro e w4 ⟨rfl, hb4⟩
            have hb5 := b_step hbel hb4 (Nat.le_refl _)
            go_wp2
            go_ret
            exact ⟨rfl, hb5⟩

theorem plays_walk (q : Option Addr) (cap : Nat) (R : List UInt8) (q2 : Option Addr) (cap2 : Nat) (A : List Int) (w : World) (hA : BArg w q R) (hc : R.length ≤ cap) (hn : q = none → R = [] ∧ cap = 0) (hA2 : IArg w q2 A) :
    Calls Try.prog 3 #[.slice q R.length cap, .slice q2 A.length cap2] w fun e w' => e = .returned (.bool true) ∧ Below w.heap.size w w' := by
  cases q with
  | none =>
    obtain ⟨rfl, rfl⟩ := hn rfl
    exact plays_none q2 cap2 A w hA2
  | some a => exact plays_some a cap R q2 cap2 A w hA hc hA2

end Go.Proofs.Ytgcgoijkgjfbmaa
