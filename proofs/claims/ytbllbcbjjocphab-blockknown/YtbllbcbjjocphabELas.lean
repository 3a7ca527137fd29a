/-
  The contract of block.lastWhole: a whole cell that stands ahead of what is sought, or the first one.
-/
import Derived.Test.YtbllbcbjjocphabERd
namespace Go.Proofs.Ytbllbcbjjocphab
open Go.RowKit Go.BigFrame Go.Sort
attribute [local go_sem] size_bstr toList_bstr ls_def

theorem bitLenAux_le : ∀ (f n : Nat), Lib.bitLenAux f n ≤ f
  | 0, _ => Nat.le_refl _
  | f + 1, n => by
    rw [Lib.bitLenAux]
    have := bitLenAux_le f (n / 2)
    split <;> omega

set_option maxHeartbeats 2000000 in
set_option maxRecDepth 100000 in
theorem lastWhole_any (q : Option Addr) (g cap : Nat) (L : List Cl) (t : Cl) (w : World) (hq : 0 < L.length → q = some ⟨g, 0, none⟩ ∧ CRow w g 0 L ∧ g < w.heap.size) (hn : L.length ≤ 40000) :
    Calls Try.prog 20 #[.slice q L.length cap, clV t] w fun e w' => ∃ a : Nat, e = .returned (.int .i64 (a : Int)) ∧ 8 * a ≤ L.length ∧ (a = 0 ∨ ∃ h : 8 * a < L.length, ccl L[8 * a] t < 0) ∧ RowKit.Below w.heap.size w w' := by
  obtain ⟨r, k, v, z, x⟩ := t
  have hB : RowKit.Below w.heap.size w (w.alloc (.cells #[.string (bstr r), .string (bstr k), .int .u64 v, .bool z, .string (bstr x)] 24)) := (RowKit.Below.refl _ _).alloc (Nat.le_refl _) _
  have hA := CellAt.new w 24 r k v z x
  obtain ⟨f0, hf0⟩ : ∃ f0, (L.length + 7) / 8 = f0 := ⟨_, rfl⟩
  have hf1 : ((L.length : Int) + 8 - 1) / 8 = (f0 : Int) := by omega
  have hbl := fun W => Try.bits_Len (f0 : Int) W (by omega) (by omega)
  go_enter Try.func20, Try.ntmps20
  go_wp2_with fail
  refine (hbl _).mono ?_
  rintro e w1 ⟨rfl, hw1⟩
  rw [Int.toNat_natCast]
  obtain ⟨K, hK⟩ : ∃ K, Lib.bitLen f0 = K := ⟨_, rfl⟩
  have hK0 : f0 = 0 → K = 0 := by
    rintro rfl
    rw [← hK]
    rfl
  have hK1 : K ≤ 64 := by
    rw [← hK]
    exact bitLenAux_le 64 f0
  rw [hK]
  subst hw1
  generalize w.alloc (.cells #[.string (bstr r), .string (bstr k), .int .u64 v, .bool z, .string (bstr x)] 24) = W at *
  clear hK hbl
  go_wp2
  have hbW := hB.size
  have hbl' : RowKit.Below W.heap.size W W := RowKit.Below.refl _ _
  go_loopw [5, 6, 16] (fun s5 s6 s16 wr => ∃ i a f : Nat, s16 = .int .i64 (i : Int) ∧ s5 = .int .i64 (a : Int) ∧ s6 = .int .i64 (f : Int) ∧ i ≤ K ∧ a + f ≤ f0 ∧ (0 < f0 → 0 < f) ∧ Hid (a = 0 ∨ ∃ h : 8 * a < L.length, ccl L[8 * a] ⟨r, k, v, z, x⟩ < 0) ∧ RowKit.Below W.heap.size W wr) (fun _ _ s16 _ => K - (intOf s16).toNat)
  case atStart => exact ⟨0, 0, f0, rfl, rfl, rfl, by omega, by omega, fun h => h, .inl rfl, hbl'⟩
  case round =>
    obtain ⟨i, a, f, rfl, rfl, rfl, hiK, haf, hfp, HI, hbel⟩ := hrel
    clear hbl'
    by_cases hlt : i < K
    · have hf0p : 0 < f0 := by
        by_cases h : f0 = 0
        · have := hK0 h; omega
        · omega
      have hfp' := hfp hf0p
      obtain ⟨h, hh⟩ : ∃ h, f / 2 = h := ⟨_, rfl⟩
      have hhi : (f : Int) / 2 = (h : Int) := by omega
      have hhf : h < f := by omega
      have hfh : (f : Int) - (h : Int) = ((f - h : Nat) : Int) := by omega
      obtain ⟨rfl, hR, hgl⟩ := hq (by omega)
      obtain ⟨j, hj⟩ : ∃ j, 8 * (a + h) = j := ⟨_, rfl⟩
      have hjl : j < L.length := by omega
      have hji : (8 : Int) * ((a : Int) + (h : Int)) = (j : Int) := by omega
      have hRW := (hR.step hB hgl).step hbel (Nat.lt_of_lt_of_le hgl hB.size)
      have hAt := hRW j hjl
      rw [Nat.zero_add] at hAt
      have hA' := hA.step hbel
      have hcm := Cmp_any L[j].row L[j].col L[j].ver L[j].gone L[j].val r k v z x
      clear hK0 hh hRW hR
      by_cases hd : ccl L[j] ⟨r, k, v, z, x⟩ < 0
      · have HI2 : Hid (a + h = 0 ∨ ∃ h' : 8 * (a + h) < L.length, ccl L[8 * (a + h)] ⟨r, k, v, z, x⟩ < 0) := by
          refine .inr ⟨by omega, ?_⟩
          simp only [hj]
          exact hd
        change cc L[j].row L[j].col L[j].ver r k v < 0 at hd
        generalize cc L[j].row L[j].col L[j].ver r k v = d at *
        generalize L[j] = p at *
        obtain ⟨r', k', v', z', x'⟩ := p
        obtain ⟨p0, p1, p2, p3, p4⟩ := hAt
        simp only at p0 p1 p2 p3 p4 hcm
        clear hj
        have n0 := fun d os => cell_regrown p0 d os
        have n1 := fun d os => cell_regrown p1 d os
        have n2 := fun d os => cell_regrown p2 d os
        have n3 := fun d os => cell_regrown p3 d os
        have n4 := fun d os => cell_regrown p4 d os
        have m0 := fun d os => cell_regrown hA'.c0 d os
        have m1 := fun d os => cell_regrown hA'.c1 d os
        have m2 := fun d os => cell_regrown hA'.c2 d os
        have m3 := fun d os => cell_regrown hA'.c3 d os
        have m4 := fun d os => cell_regrown hA'.c4 d os
        go_wp2_with fail
        refine wp_region_quiet_below (by kernel_rfl) (by kernel_rfl) ?_
        repeat (go_big_quiet_step (first
          | (go_at_call 9; with_reducible exact Calls.regrown_of (hcm _))))
        refine wpQuiet_nil ?_
        intro _ hw'
        obtain ⟨⟨dq, osq⟩, hw''⟩ := hw'
        subst hw''
        have hb1 := below_regrown wr dq osq
        have hbe := below2 hbel hb1
        clear n0 n1 n2 n3 n4 m0 m1 m2 m3 m4 p0 p1 p2 p3 p4 hcm hb1 hbel hA'
        generalize grow (redrawn wr dq) osq = W1 at *
        go_wp2
        go_roundw
        case rel => exact ⟨i + 1, a + h, f - h, by go_num, by go_num, by go_num, by omega, by omega, fun _ => by omega, HI2, hbe⟩
        case measure => simp [intOf]; omega
      · have hd' : 0 ≤ cc L[j].row L[j].col L[j].ver r k v := Int.not_lt.1 hd
        clear hd
        generalize cc L[j].row L[j].col L[j].ver r k v = d at *
        generalize L[j] = p at *
        obtain ⟨r', k', v', z', x'⟩ := p
        obtain ⟨p0, p1, p2, p3, p4⟩ := hAt
        simp only at p0 p1 p2 p3 p4 hcm
        clear hj
        have n0 := fun d os => cell_regrown p0 d os
        have n1 := fun d os => cell_regrown p1 d os
        have n2 := fun d os => cell_regrown p2 d os
        have n3 := fun d os => cell_regrown p3 d os
        have n4 := fun d os => cell_regrown p4 d os
        have m0 := fun d os => cell_regrown hA'.c0 d os
        have m1 := fun d os => cell_regrown hA'.c1 d os
        have m2 := fun d os => cell_regrown hA'.c2 d os
        have m3 := fun d os => cell_regrown hA'.c3 d os
        have m4 := fun d os => cell_regrown hA'.c4 d os
        go_wp2_with fail
        refine wp_region_quiet_below (by kernel_rfl) (by kernel_rfl) ?_
        repeat (go_big_quiet_step (first
          | (go_at_call 9; with_reducible exact Calls.regrown_of (hcm _))))
        refine wpQuiet_nil ?_
        intro _ hw'
        obtain ⟨⟨dq, osq⟩, hw''⟩ := hw'
        subst hw''
        have hb1 := below_regrown wr dq osq
        have hbe := below2 hbel hb1
        clear n0 n1 n2 n3 n4 m0 m1 m2 m3 m4 p0 p1 p2 p3 p4 hcm hb1 hbel hA'
        generalize grow (redrawn wr dq) osq = W1 at *
        go_wp2
        go_roundw
        case rel => exact ⟨i + 1, a, f - h, by go_num, rfl, by go_num, by omega, by omega, fun _ => by omega, HI, hbe⟩
        case measure => simp [intOf]; omega
    · have hie : i = K := by omega
      subst hie
      go_wp2
      go_ret
      exact ⟨a, rfl, by omega, HI.out, below2 hB hbel⟩

end Go.Proofs.Ytbllbcbjjocphab
