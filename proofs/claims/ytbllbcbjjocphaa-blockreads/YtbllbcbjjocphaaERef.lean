/-
  The document's answers for block: alike, two, one.
-/
import Derived.Test.YtbllbcbjjocphaaETail
import Derived.Test.YtbllbcbjjocphaaCRefN
namespace Go.Proofs.Ytbllbcbjjocphaa
open Go.RowKit Go.BigFrame Go.Sort
attribute [local go_sem] size_bstr getElem_bstr toList_bstr append_bstr

set_option maxHeartbeats 1000000 in
set_option maxRecDepth 100000 in
theorem RAlike_any (a b : List UInt8) (w : World) (ha : a.length ≤ 9223372036854775807) (hb : b.length ≤ 9223372036854775807) :
    Calls Try.prog 59 #[.string (bstr a), .string (bstr b)] w fun e w' => e = .returned (.int .i64 (cmn a b : Int)) ∧ RowKit.Below w.heap.size w w' := by
  go_enter Try.func59, Try.ntmps59
  go_wp2
  go_loopw [5] (fun s5 wr => ∃ i : Nat, s5 = .int .i64 (i : Int) ∧ i ≤ a.length ∧ i ≤ b.length ∧ Hid (cmn a b = i + cmn (a.drop i) (b.drop i)) ∧ RowKit.Below w.heap.size w wr) (fun s5 _ => a.length - (intOf s5).toNat)
  case atStart => exact ⟨0, rfl, by omega, by omega, by show _ = _; simp, RowKit.Below.refl _ _⟩
  case round =>
    obtain ⟨i, rfl, hia, hib, HC, hbel⟩ := hrel
    by_cases ha' : i < a.length
    · have hda : decide ((i : Int) < (a.length : Int)) = true := by rw [decide_eq_true_eq]; omega
      by_cases hb' : i < b.length
      · have hdb : decide ((i : Int) < (b.length : Int)) = true := by rw [decide_eq_true_eq]; omega
        by_cases he : a[i] = b[i]
        · have HE : Hid _ := he
          have hq : ((a[i].toNat : Int) == (b[i].toNat : Int)) = true := by rw [he]; simp
          clear he
          go_wp2_with fail
          go_quiet (fail)
          have hbq := below_drewN hbel nq
          go_wp2
          go_roundw
          case rel => exact ⟨i + 1, by go_num, by omega, by omega, cmn_step ha' hb' HE.out HC.out, hbq⟩
          case measure => simp [intOf]; omega
        · have HE : Hid _ := he
          have hq : ((a[i].toNat : Int) == (b[i].toNat : Int)) = false := by
            rw [beq_eq_false_iff_ne]
            intro h
            exact he (UInt8.toNat_inj.1 (by omega))
          clear he
          go_wp2_with fail
          go_quiet (fail)
          have hbq := below_drewN hbel nq
          go_wp2
          go_ret
          exact ⟨by rw [cmn_here ha' hb' HE.out HC.out]; rfl, hbq⟩
      · have hdb : decide ((i : Int) < (b.length : Int)) = false := by rw [decide_eq_false_iff_not]; omega
        have HB : Hid _ := hb'
        go_wp2_with fail
        go_quiet (fail)
        have hbq := below_drewN hbel nq
        go_wp2
        go_ret
        exact ⟨by rw [cmn_end (.inr (Nat.not_lt.1 HB.out)) HC.out]; rfl, hbq⟩
    · have hda : decide ((i : Int) < (a.length : Int)) = false := by rw [decide_eq_false_iff_not]; omega
      have HB : Hid _ := ha'
      go_wp2_with fail
      go_quiet (fail)
      have hbq := below_drewN hbel nq
      go_wp2
      go_ret
      exact ⟨by rw [cmn_end (.inl (Nat.not_lt.1 HB.out)) HC.out]; rfl, hbq⟩

set_option maxHeartbeats 1000000 in
set_option maxRecDepth 100000 in
theorem RTwo_any (n : Nat) (w : World) (hn : n < 65536) :
    Calls Try.prog 31 #[.int .i64 (n : Int)] w fun e w' => e = .returned (.string (bstr (be2 n))) ∧ RowKit.Below w.heap.size w w' := by
  have hcv : ∀ W : World, (convert 43 9 (.slice (some ⟨W.heap.size, 0, none⟩) 2 2)).run Try.prog (W.alloc (.cells #[.int .u8 ((n : Int) / 256), .int .u8 ((n : Int) % 256)] 5)) =
      .ok (.string (bstr (be2 n))) (W.alloc (.cells #[.int .u8 ((n : Int) / 256), .int .u8 ((n : Int) % 256)] 5)) := by
    intro W
    have hown : (W.alloc (.cells #[.int .u8 ((n : Int) / 256), .int .u8 ((n : Int) % 256)] 5)).ownsRow W.heap.size 5 1 (.slice (some ⟨W.heap.size, 0, none⟩) 2 2) 2 (Lib.byteCells (be2 n)) := by
      have h := World.ownsRow_lit (base := W.heap.size) (e := 5) (size := 1) W #[.int .u8 ((n : Int) / 256), .int .u8 ((n : Int) % 256)] 2 (Nat.le_refl _) (by decide) (by simp)
      rw [← two_cells hn]
      exact h
    exact run_convert_own hown Try.underlying43 Try.underlying5 Try.underlying9
  go_enter Try.func31, Try.ntmps31
  go_wp2
  go_ret
  exact ⟨rfl, (RowKit.Below.refl _ w).alloc (Nat.le_refl _) _⟩

set_option maxHeartbeats 2000000 in
set_option maxRecDepth 100000 in
theorem ROne_any (c : Cl) (a : List UInt8) (w : World) (hc : okC c = true) (ha : a.length ≤ 1000) :
    Calls Try.prog 32 #[.string (bstr a), clV c] w fun e w' => e = .returned (.string (bstr (layB a c))) ∧ RowKit.Below w.heap.size w w' := by
  obtain ⟨h1, h2, h3, h4, h5⟩ := okC_len hc
  clear hc
  obtain ⟨r, k, v, z, x⟩ := c
  simp only at h1 h2 h3 h4 h5
  have hB : RowKit.Below w.heap.size w (w.alloc (.cells #[.string (bstr r), .string (bstr k), .int .u64 v, .bool z, .string (bstr x)] 35)) := (RowKit.Below.refl _ _).alloc (Nat.le_refl _) _
  have hA := CellAt.new w 35 r k v z x
  have hcm := fun W => RAlike_any a r W (by omega) (by omega)
  have hnl := cmn_right a r
  obtain ⟨n, hn⟩ : ∃ n, cmn a r = n := ⟨_, rfl⟩
  rw [hn] at hnl
  have e0 := Lib.uvarint_length64 (x := n) (by omega)
  have e1 := txt_len (s := r.drop n) (by rw [List.length_drop]; omega)
  rw [List.length_drop] at e1
  have e2 := txt_len (s := k) (by omega)
  have e3 := Lib.uvarint_length64 (x := v.toNat) (by omega)
  have l2 : (Lib.uvarint n ++ txt (r.drop n)).length ≤ 10000000000 := by rw [List.length_append]; omega
  have l3 : (Lib.uvarint n ++ txt (r.drop n) ++ txt k).length ≤ 10000000000 := by rw [List.length_append, List.length_append]; omega
  have l4 : (Lib.uvarint n ++ txt (r.drop n) ++ txt k ++ Lib.uvarint v.toNat).length ≤ 10000000000 := by rw [List.length_append, List.length_append, List.length_append]; omega
  have l5' : ∀ {g : UInt8}, (Lib.uvarint n ++ txt (r.drop n) ++ txt k ++ Lib.uvarint v.toNat ++ [g]).length ≤ 100000000000 := by intro g; rw [List.length_append, List.length_append, List.length_append, List.length_append, List.length_singleton]; omega
  have p1 : ∀ W, Calls Try.prog 60 #[.string ⟨#[]⟩, .int .u64 (n : Int)] W fun e w' => e = .returned (.string (bstr (Lib.uvarint n))) ∧ RowKit.Below W.heap.size W w' := fun W => RPutNumber_any [] n W (by simp) (by omega)
  have p2 : ∀ W, Calls Try.prog 61 #[.string (bstr (Lib.uvarint n)), .string (bstr (r.drop n))] W fun e w' => e = .returned (.string (bstr (Lib.uvarint n ++ txt (r.drop n)))) ∧ RowKit.Below W.heap.size W w' := fun W => RPutText_any _ _ W (by omega) (by rw [List.length_drop]; omega)
  have p3 : ∀ W, Calls Try.prog 61 #[.string (bstr (Lib.uvarint n ++ txt (r.drop n))), .string (bstr k)] W fun e w' => e = .returned (.string (bstr (Lib.uvarint n ++ txt (r.drop n) ++ txt k))) ∧ RowKit.Below W.heap.size W w' := fun W => RPutText_any _ _ W (Nat.le_trans l2 (by omega)) (by omega)
  have p3b : ∀ W, Calls Try.prog 60 #[.string (bstr (Lib.uvarint n ++ txt (r.drop n) ++ txt k)), .int .u64 v] W fun e w' => e = .returned (.string (bstr (Lib.uvarint n ++ txt (r.drop n) ++ txt k ++ Lib.uvarint v.toNat))) ∧ RowKit.Below W.heap.size W w' := by
    intro W
    have := RPutNumber_any (Lib.uvarint n ++ txt (r.drop n) ++ txt k) v.toNat W (Nat.le_trans l3 (by omega)) (by omega)
    rw [Int.toNat_of_nonneg (by omega)] at this
    exact this
  have hsl := fun W => erun_from (P := Try.prog) 9 r n hnl W Try.underlying9
  rw [hn] at hcm
  clear e0 e1 e2 e3
  go_enter Try.func32, Try.ntmps32
  go_wp2_with fail
  generalize w.alloc (.cells #[.string (bstr r), .string (bstr k), .int .u64 v, .bool z, .string (bstr x)] 35) = W at *
  refine (hcm _).mono ?_
  rintro e w1 ⟨rfl, hb1⟩
  replace hB := below2 hB hb1
  replace hA := hA.step hb1
  clear hb1 hcm
  cases z with
  | true =>
    have p5 : ∀ W, Calls Try.prog 61 #[.string (bstr (Lib.uvarint n ++ txt (r.drop n) ++ txt k ++ Lib.uvarint v.toNat ++ [1])), .string (bstr x)] W fun e w' => e = .returned (.string (bstr (Lib.uvarint n ++ txt (r.drop n) ++ txt k ++ Lib.uvarint v.toNat ++ [1] ++ txt x))) ∧ RowKit.Below W.heap.size W w' := fun W => RPutText_any _ x W l5' (by omega)
    have HL : Hid (layB a ⟨r, k, v, true, x⟩ = Lib.uvarint n ++ txt (r.drop n) ++ txt k ++ Lib.uvarint v.toNat ++ [1] ++ txt x) := by
      show _ = _
      unfold layB
      simp [hn]
    have hap : bstr (Lib.uvarint n ++ txt (r.drop n) ++ txt k ++ Lib.uvarint v.toNat) ++ ⟨#[1]⟩ = bstr (Lib.uvarint n ++ txt (r.drop n) ++ txt k ++ Lib.uvarint v.toNat ++ [1]) := append_bstr _ [1]
    clear hn l2 l3 l5'
    generalize Lib.uvarint n ++ txt (r.drop n) ++ txt k ++ Lib.uvarint v.toNat ++ [1] ++ txt x = L6 at *
    generalize Lib.uvarint n ++ txt (r.drop n) ++ txt k ++ Lib.uvarint v.toNat ++ [1] = L5 at *
    generalize Lib.uvarint n ++ txt (r.drop n) ++ txt k ++ Lib.uvarint v.toNat = L4 at *
    generalize Lib.uvarint n ++ txt (r.drop n) ++ txt k = L3 at *
    generalize Lib.uvarint n ++ txt (r.drop n) = L2 at *
    generalize Lib.uvarint n = L1 at *
    generalize r.drop n = rd at *
    have c0 := hA.c0
    go_wp2_with fail
    refine (p1 _).mono ?_
    rintro e w2 ⟨rfl, hb2⟩
    replace hB := below2 hB hb2
    replace hA := hA.step hb2
    clear hb2 c0
    have c0 := hA.c0
    go_wp2_with fail
    refine (p2 _).mono ?_
    rintro e w3 ⟨rfl, hb3⟩
    replace hB := below2 hB hb3
    replace hA := hA.step hb3
    clear hb3 c0
    have c1 := hA.c1
    go_wp2_with fail
    refine (p3 _).mono ?_
    rintro e w4 ⟨rfl, hb4⟩
    replace hB := below2 hB hb4
    replace hA := hA.step hb4
    clear hb4 c1
    have c2 := hA.c2
    go_wp2_with fail
    refine (p3b _).mono ?_
    rintro e w5 ⟨rfl, hb5⟩
    replace hB := below2 hB hb5
    replace hA := hA.step hb5
    clear hb5 c2
    have c3 := hA.c3
    have c4 := hA.c4
    go_wp2_with fail
    refine (p5 _).mono ?_
    rintro e w6 ⟨rfl, hb6⟩
    replace hB := below2 hB hb6
    go_wp2
    go_ret
    exact ⟨by rw [HL.out]; rfl, hB⟩
  | false =>
    have p5 : ∀ W, Calls Try.prog 61 #[.string (bstr (Lib.uvarint n ++ txt (r.drop n) ++ txt k ++ Lib.uvarint v.toNat ++ [0])), .string (bstr x)] W fun e w' => e = .returned (.string (bstr (Lib.uvarint n ++ txt (r.drop n) ++ txt k ++ Lib.uvarint v.toNat ++ [0] ++ txt x))) ∧ RowKit.Below W.heap.size W w' := fun W => RPutText_any _ x W l5' (by omega)
    have HL : Hid (layB a ⟨r, k, v, false, x⟩ = Lib.uvarint n ++ txt (r.drop n) ++ txt k ++ Lib.uvarint v.toNat ++ [0] ++ txt x) := by
      show _ = _
      unfold layB
      simp [hn]
    have hap : bstr (Lib.uvarint n ++ txt (r.drop n) ++ txt k ++ Lib.uvarint v.toNat) ++ ⟨#[0]⟩ = bstr (Lib.uvarint n ++ txt (r.drop n) ++ txt k ++ Lib.uvarint v.toNat ++ [0]) := append_bstr _ [0]
    clear hn l2 l3 l5'
    generalize Lib.uvarint n ++ txt (r.drop n) ++ txt k ++ Lib.uvarint v.toNat ++ [0] ++ txt x = L6 at *
    generalize Lib.uvarint n ++ txt (r.drop n) ++ txt k ++ Lib.uvarint v.toNat ++ [0] = L5 at *
    generalize Lib.uvarint n ++ txt (r.drop n) ++ txt k ++ Lib.uvarint v.toNat = L4 at *
    generalize Lib.uvarint n ++ txt (r.drop n) ++ txt k = L3 at *
    generalize Lib.uvarint n ++ txt (r.drop n) = L2 at *
    generalize Lib.uvarint n = L1 at *
    generalize r.drop n = rd at *
    have c0 := hA.c0
    go_wp2_with fail
    refine (p1 _).mono ?_
    rintro e w2 ⟨rfl, hb2⟩
    replace hB := below2 hB hb2
    replace hA := hA.step hb2
    clear hb2 c0
    have c0 := hA.c0
    go_wp2_with fail
    refine (p2 _).mono ?_
    rintro e w3 ⟨rfl, hb3⟩
    replace hB := below2 hB hb3
    replace hA := hA.step hb3
    clear hb3 c0
    have c1 := hA.c1
    go_wp2_with fail
    refine (p3 _).mono ?_
    rintro e w4 ⟨rfl, hb4⟩
    replace hB := below2 hB hb4
    replace hA := hA.step hb4
    clear hb4 c1
    have c2 := hA.c2
    go_wp2_with fail
    refine (p3b _).mono ?_
    rintro e w5 ⟨rfl, hb5⟩
    replace hB := below2 hB hb5
    replace hA := hA.step hb5
    clear hb5 c2
    have c3 := hA.c3
    have c4 := hA.c4
    go_wp2_with fail
    refine (p5 _).mono ?_
    rintro e w6 ⟨rfl, hb6⟩
    replace hB := below2 hB hb6
    go_wp2
    go_ret
    exact ⟨by rw [HL.out]; rfl, hB⟩

end Go.Proofs.Ytbllbcbjjocphaa
