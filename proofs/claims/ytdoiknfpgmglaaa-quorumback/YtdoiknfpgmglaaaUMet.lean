/-
  The law QuorumMeet.
-/
import Derived.Test.YtdoiknfpgmglaaaUMem2
import Derived.Test.YtdoiknfpgmglaaaUMtM
import Derived.Test.YtdoiknfpgmglaaaURMt
import Derived.Test.YtdoiknfpgmglaaaUChg
namespace Go.Proofs.Ytdoiknfpgmglaaa
open Go.RowKit Go.BigFrame

theorem wn1 : ∀ m < 32, ∀ p < 32, cntY (lst m) (lst p) = (lst (m &&& p)).length := by decide +kernel
theorem win_com {m n p q : Nat} (hm : m < 32) (hn : n < 32) (hp : p < 32) (hq : q < 32) (h : meet (lst m) (lst n) = true) (h1 : win (lst m) (lst p) = true) (h2 : win (lst n) (lst q) = true) : com (lst p) (lst q) = true := by
  unfold meet at h
  unfold win at h1 h2
  simp only [Bool.and_eq_true, decide_eq_true_eq] at h h1 h2
  rw [wn1 m hm p hp] at h1
  rw [wn1 n hn q hq] at h2
  rw [pk3 m hm n hn] at h
  have e1 : (m &&& p) &&& m = m &&& p := by
    apply Nat.eq_of_testBit_eq
    intro i
    simp only [Nat.testBit_and]
    cases m.testBit i <;> cases p.testBit i <;> rfl
  have e2 : (n &&& q) &&& n = n &&& q := by
    apply Nat.eq_of_testBit_eq
    intro i
    simp only [Nat.testBit_and]
    cases n.testBit i <;> cases q.testBit i <;> rfl
  have h3 := meet_sound hm hn (Nat.lt_of_le_of_lt Nat.and_le_left hm) (Nat.lt_of_le_of_lt Nat.and_le_left hn) e1 e2 h1.2 h2.2 h.2
  rw [pk2 p hp q hq, decide_eq_true_eq]
  intro e
  apply h3
  apply Nat.eq_of_testBit_eq
  intro i
  have := congrArg (fun z => z.testBit i) e
  simp only [Nat.testBit_and, Nat.zero_testBit] at this ⊢
  cases hx : p.testBit i <;> cases hy : q.testBit i <;> simp_all
theorem mt_self : ∀ m < 32, 0 < m → meet (lst m) (lst m) = true := by decide +kernel
/-- A change as the law makes it. -/
def chX (m k : Nat) : Int := if decide ((k : Int) ∈ lst m) = true then -1 else k
def chY (m k : Nat) : Int := if decide ((k : Int) ∈ lst m) = true then k else -1
def chOk (m k : Nat) : Bool := chgK (lst m) (chX m k) (chY m k)
theorem ch1 : ∀ m < 32, ∀ k < 5, 0 < m → chOk m k = false → lst m = [(k : Int)] := by decide +kernel
theorem ch2 : ∀ m < 32, ∀ k < 5, 0 < m → chOk m k = true → (meet (lst m) (chgL (lst m) (chX m k) (chY m k)) && meet (chgL (lst m) (chX m k) (chY m k)) (lst m) && (decide ((k : Int) ∈ lst m) != decide ((k : Int) ∈ chgL (lst m) (chX m k) (chY m k)))) = true := by decide +kernel
theorem chN_lt (m k : Nat) : chgN (lst m) (chX m k) (chY m k) < 32 := clrB_lt (setB_lt (mk_lt _ (by decide)))
/-- What a change leaves. -/
def ChE (m k : Nat) (B : List Int) (E : Int) : Prop := (E = 2 ∧ lst m = [(k : Int)]) ∨ (E = 0 ∧ (∃ n, n < 32 ∧ B = lst n) ∧ meet (lst m) B = true ∧ meet B (lst m) = true ∧ (decide ((k : Int) ∈ lst m) == decide ((k : Int) ∈ B)) = false)
theorem ch_all {m k : Nat} (hm : m < 32) (h0 : 0 < m) (hk : k < 5) : ChE m k (chgL (lst m) (chX m k) (chY m k)) (chgE (lst m) (chX m k) (chY m k)) := by
  cases h : chOk m k with
  | false =>
    refine .inl ⟨?_, ch1 m hm k hk h0 h⟩
    unfold chOk at h
    unfold chgE
    rw [h]
    rfl
  | true =>
    have h2 := ch2 m hm k hk h0 h
    simp only [Bool.and_eq_true] at h2
    have h3 : chgK (lst m) (chX m k) (chY m k) = true := h
    refine .inr ⟨by unfold chgE; rw [h3]; rfl, ⟨_, chN_lt m k, by unfold chgL; rw [h3]; rfl⟩, h2.1.1, h2.1.2, ?_⟩
    have := h2.2
    revert this
    cases decide ((k : Int) ∈ lst m) <;> cases decide ((k : Int) ∈ chgL (lst m) (chX m k) (chY m k)) <;> simp

set_option maxHeartbeats 16000000 in
set_option maxRecDepth 100000 in
theorem QMeet_any (a x y0 y1 : Nat) (w : World) (ha : a < 256) (hx : x < 256) (hy0 : y0 < 256) (hy1 : y1 < 256) :
    Calls Try.prog 6 #[.int .u8 (a : Int), .int .u8 (x : Int), .agg #[.int .u8 (y0 : Int), .int .u8 (y1 : Int)]] w fun e w' => e = .returned (.bool true) ∧ Below w.heap.size w w' := by
  obtain ⟨M, hM⟩ : ∃ M, M = 1 + a % 31 := ⟨_, rfl⟩
  obtain ⟨P, hP⟩ : ∃ P, P = 1 + x % 31 := ⟨_, rfl⟩
  obtain ⟨Q, hQ⟩ : ∃ Q, Q = 1 + y0 % 31 := ⟨_, rfl⟩
  obtain ⟨k, hk⟩ : ∃ k, k = y1 % 5 := ⟨_, rfl⟩
  have hM1 : M < 32 := by omega
  have hM0 : 0 < M := by omega
  have hP1 : P < 32 := by omega
  have hQ1 : Q < 32 := by omega
  have hk5 : k < 5 := by omega
  have hmA := fun w => members_any a w ha
  have hmP := fun w => members_any x w hx
  have hmQ := fun w => members_any y0 w hy0
  rw [← hM] at hmA
  rw [← hP] at hmP
  rw [← hQ] at hmQ
  have HKE : Hid ((y1 : Int) % 5 = (k : Int)) := by show _ = _; omega
  have hY0 := (mcells (heap_alloc_new w (.cells #[.int .u8 (y0 : Int), .int .u8 (y1 : Int)] 38))).1 0
  have hY1 := (mcells (heap_alloc_new w (.cells #[.int .u8 (y0 : Int), .int .u8 (y1 : Int)] 38))).1 1
  have hb0 := bel_alloc (Below.refl w.heap.size w) (Nat.le_refl _) (.cells #[.int .u8 (y0 : Int), .int .u8 (y1 : Int)] 38)
  clear hM hP hQ hk
  go_enter Try.func6, Try.ntmps6
  go_wp2_with fail
  refine (hmA _).mono ?_
  rintro e w1 ⟨v, rfl, hown, hb1⟩
  obtain ⟨_, p1, c1, rfl, hI1⟩ := own_iarg hown
  have hB1 := below2 hb0 hb1
  have y0c : w1.cell? ⟨w.heap.size, 0, none⟩ = some (.int .u8 (y0 : Int)) := cell_below hb1 hY0
  have y1c : w1.cell? ⟨w.heap.size, 1, none⟩ = some (.int .u8 (y1 : Int)) := cell_below hb1 hY1
  clear hY0 hY1 hb0 hb1 hown hmA
  go_wp2_with fail
  rw [HKE.out]
  have hlM : (lst M).length ≤ 5 := lstI_len _ 5
  have hlm0 : 0 < (lst M).length := by rw [lst_len M hM1]; exact (pop_pos M hM1 hM0).1
  refine (Has_any p1 c1 (lst M) (k : Int) w1 hI1 (by omega)).mono ?_
  rintro e w2 ⟨rfl, rfl⟩
  go_upto_if 24 with fail
  go_cut [8, 10] from 24 to 36 (fun s8 s10 wx => ∃ (p8 : Option Addr) (c8 : Nat) (B : List Int) (E : Int), s8 = .slice p8 B.length c8 ∧ s10 = .int .i64 E ∧ IArg wx p8 B ∧ Hid (B.length ≤ 5) ∧ Hid (ChE M k B E) ∧ Below w2.heap.size w2 wx)
  case first =>
    have HCH : Hid _ := ch_all hM1 hM0 hk5
    have hCL : (chgL (lst M) (chX M k) (chY M k)).length ≤ 5 := by
      unfold chgL
      split
      · exact lstI_len _ 5
      · simp
    have hG := Change_any p1 c1 (lst M) (chX M k) (chY M k) w2 hI1 (by omega)
    unfold ChgQ at hG
    generalize chgL (lst M) (chX M k) (chY M k) = C at *
    generalize chgE (lst M) (chX M k) (chY M k) = E at *
    have hCX : chX M k = if decide ((k : Int) ∈ lst M) = true then -1 else (k : Int) := rfl
    have hCY : chY M k = if decide ((k : Int) ∈ lst M) = true then (k : Int) else -1 := rfl
    rw [hCX, hCY] at hG
    clear hCX hCY
    have HCL : Hid _ := hCL
    clear hCL hmP hmQ
    cases hd : decide ((k : Int) ∈ lst M) with
    | true =>
      rw [hd, if_pos rfl, if_pos rfl] at hG
      clear hd
      go_wp2_with fail
      refine hG.mono ?_
      rintro e w3 ⟨⟨p3, c3, rfl, hI3⟩, hb3⟩
      go_wp2
      go_meet
      case rel => exact ⟨p3, c3, C, E, rfl, rfl, hI3, HCL, HCH, hb3⟩
    | false =>
      rw [hd, if_neg (by simp), if_neg (by simp)] at hG
      clear hd
      go_wp2_with fail
      refine hG.mono ?_
      rintro e w3 ⟨⟨p3, c3, rfl, hI3⟩, hb3⟩
      go_wp2
      go_meet
      case rel => exact ⟨p3, c3, C, E, rfl, rfl, hI3, HCL, HCH, hb3⟩
  case rest =>
  obtain ⟨p8, c8, B, E, rfl, rfl, hI8, HBL, HCE, hb8⟩ := hcut
  have hB8 := below2 hB1 hb8
  have y0d := cell_below hb8 y0c
  have hI1 := hI1.below hb8
  clear hb8 hB1 y0c y1c
  go_upto_if 38 with fail
  go_cut [8] from 38 to 68 (fun s8 wx => ∃ (p8 : Option Addr) (c8 : Nat) (B : List Int), s8 = .slice p8 B.length c8 ∧ IArg wx p8 B ∧ Hid (B.length ≤ 5) ∧ Hid (∃ n, n < 32 ∧ B = lst n ∧ meet (lst M) B = true) ∧ Below wc.heap.size wc wx)
  case first =>
    clear hmP hmQ
    rcases HCE.out with ⟨h1, h2⟩ | ⟨h1, h2, h3, h4, h5⟩
    · subst h1
      have HS : Hid (∃ n, n < 32 ∧ lst M = lst n ∧ meet (lst M) (lst M) = true) := ⟨M, hM1, rfl, mt_self M hM1 hM0⟩
      have hl1 : (lst M).length = 1 := by rw [h2]; rfl
      have e1 : (((lst M).length : Int) != 1) = false := by rw [hl1]; rfl
      have e0 : (0 : Int) < ((lst M).length : Int) := by omega
      obtain ⟨b, off, rfl, hr⟩ := hI1 hlm0
      have c0 := hr 0 hlm0
      have e2 : (lst M)[0] = (k : Int) := by simp only [h2, List.getElem_cons_zero]
      rw [e2, Nat.add_zero] at c0
      have hI1' : IArg wc (some ⟨b, off, none⟩) (lst M) := fun _ => ⟨b, off, rfl, hr⟩
      have HL5 : Hid ((lst M).length ≤ 5) := hlM
      clear h2 hl1 e2 hr HCE hI1 hI8 HBL
      go_wp2
      go_meet
      case rel => exact ⟨_, _, _, rfl, hI1', HL5, HS, Below.refl _ _⟩
    · subst h1
      obtain ⟨n, hn, hBn⟩ := h2
      have HS : Hid (∃ n, n < 32 ∧ B = lst n ∧ meet (lst M) B = true) := ⟨n, hn, hBn, h3⟩
      have hBl := HBL.out
      have hH1 := Has_any p1 c1 (lst M) (k : Int) wc hI1 (by omega)
      have hH2 := Has_any p8 c8 B (k : Int) wc hI8 (by omega)
      have hM1' := Meet_any p1 c1 (lst M) p8 c8 B wc hI1 (by omega) hI8 (by omega)
      have hM2' := fun w h h' => Meet_any p8 c8 B p1 c1 (lst M) w h (by omega) h' (by omega)
      rw [h3] at hM1'
      rw [h4] at hM2'
      clear HCE h3 h4 hBn
      generalize decide ((k : Int) ∈ lst M) = d1 at *
      generalize decide ((k : Int) ∈ B) = d2 at *
      go_wp2_with fail
      refine hH1.mono ?_
      rintro e w3 ⟨rfl, rfl⟩
      go_wp2_with fail
      refine hH2.mono ?_
      rintro e w4 ⟨rfl, rfl⟩
      go_wp2_with fail
      refine hM1'.mono ?_
      rintro e w5 ⟨rfl, hb5⟩
      have hI8' := hI8.below hb5
      have hI1' := hI1.below hb5
      go_wp2_with fail
      refine (hM2' w5 hI8' hI1').mono ?_
      rintro e w6 ⟨rfl, hb6⟩
      have hI8'' := hI8'.below hb6
      have hb := below2 hb5 hb6
      go_wp2
      go_meet
      case rel => exact ⟨_, _, _, rfl, hI8'', HBL, HS, hb⟩
  case rest =>
  obtain ⟨p9, c9, B9, rfl, hI9, HBL9, HB9, hbx⟩ := hcut
  have hB9 := below2 hB8 hbx
  have y0e := cell_below hbx y0d
  have hI1 := hI1.below hbx
  clear hbx hB8 y0d hI8 HCE HBL
  go_wp2_with fail
  have y0e' : wc.drew.cell? ⟨w.heap.size, 0, none⟩ = some (.int .u8 (y0 : Int)) := y0e
  go_region_held3 (fun w' => w'.cell? ⟨w.heap.size, 0, none⟩ = some (.int .u8 (y0 : Int))) (first | with_reducible exact y0e | with_reducible exact y0f | with_reducible exact y0g | go_keep) ((go_at_call 26; first | (with_reducible refine (hmP _).mono ?_; rintro e w11 ⟨v11, rfl, hown11, hb11⟩; obtain ⟨_, pp, cp, rfl, hIp⟩ := own_iarg hown11; have y0f : w11.cell? ⟨w.heap.size, 0, none⟩ = some (.int .u8 (y0 : Int)) := cell_below hb11 y0e') | (with_reducible refine (hmQ _).mono ?_; rintro e w12 ⟨v12, rfl, hown12, hb12⟩; obtain ⟨_, pq, cq, rfl, hIq⟩ := own_iarg hown12; have y0g : w12.cell? ⟨w.heap.size, 0, none⟩ = some (.int .u8 (y0 : Int)) := cell_below hb12 y0f)))
  have hb11' : Below wc.heap.size wc w11 := ⟨hb11.os, hb11.tape, hb11.output, hb11.size, hb11.block⟩
  have hbb := below2 hb11' hb12
  have hI1 := hI1.below hbb
  have hI9 := hI9.below hbb
  have hIp := hIp.below hb12
  have hB12 := below2 hB9 hbb
  have hlP : (lst P).length ≤ 5 := lstI_len _ 5
  have hlQ : (lst Q).length ≤ 5 := lstI_len _ 5
  clear hb11 hb11' hb12 hbb hB9 hmP hmQ hown11 hown12 y0e y0e' y0f y0g
  simp only [Exit.then]
  go_wp2
  go_loopw [13, 14] (fun s13 s14 wz => ∃ i : Nat, s14 = .int .i64 (i : Int) ∧ i ≤ (lst P).length ∧ s13 = .bool (comI (lst P) (lst Q) i) ∧ wz = w12) (fun _ s14 _ => (lst P).length - (intOf s14).toNat)
  case atStart => exact ⟨0, rfl, Nat.zero_le _, rfl, rfl⟩
  case round =>
    obtain ⟨i, rfl, hil, rfl, rfl⟩ := hrel
    by_cases hlti : i < (lst P).length
    · have hi1 : (i : Int) < ((lst P).length : Int) := by omega
      obtain ⟨g, off, rfl, hr⟩ := hIp (by omega)
      have c0 := hr i hlti
      have HT : Hid _ := comI_succ (q := lst Q) hlti
      obtain ⟨z, hz⟩ : ∃ z, z = (lst P)[i] := ⟨_, rfl⟩
      rw [← hz] at c0 HT
      clear hz hr
      have hH := Has_any pq cq (lst Q) z wr hIq (by omega)
      generalize comI (lst P) (lst Q) i = c at *
      generalize decide (z ∈ lst Q) = d at *
      cases c with
      | true =>
        rw [Bool.true_or] at HT
        go_wp2
        go_roundw
        case rel => exact ⟨i + 1, by go_num, by omega, by rw [HT.out], trivial⟩
        case measure => simp [intOf]; omega
      | false =>
        rw [Bool.false_or] at HT
        go_wp2_with fail
        refine hH.mono ?_
        rintro e w7 ⟨rfl, rfl⟩
        go_wp2
        go_roundw
        case rel => exact ⟨i + 1, by go_num, by omega, by rw [HT.out], trivial⟩
        case measure => simp [intOf]; omega
    · obtain rfl : i = (lst P).length := by omega
      have hcom : comI (lst P) (lst Q) (lst P).length = com (lst P) (lst Q) := by unfold comI; rw [List.take_length]
      rw [hcom]
      clear hcom
      have HW : Hid (win (lst M) (lst P) = true → win (lst M) (lst Q) = true ∨ win B9 (lst Q) = true → com (lst P) (lst Q) = true) := by
        show win (lst M) (lst P) = true → win (lst M) (lst Q) = true ∨ win B9 (lst Q) = true → com (lst P) (lst Q) = true
        intro h1 h2
        rcases h2 with h2 | h2
        · exact win_com hM1 hM1 hP1 hQ1 (mt_self M hM1 hM0) h1 h2
        · obtain ⟨n, hn, hBn, hmt⟩ := HB9.out
          rw [hBn] at hmt h2
          exact win_com hM1 hn hP1 hQ1 hmt h1 h2
      have hl9 := HBL9.out
      have hW1 := Wins_any p1 c1 (lst M) pp cp (lst P) wr hI1 (by omega) hIp (by omega)
      have hW2 := fun w h h' => Wins_any p1 c1 (lst M) pq cq (lst Q) w h (by omega) h' (by omega)
      have hW3 := fun w h h' => Wins_any p9 c9 B9 pq cq (lst Q) w h (by omega) h' (by omega)
      generalize win (lst M) (lst P) = b1 at *
      generalize win (lst M) (lst Q) = b2 at *
      generalize win B9 (lst Q) = b3 at *
      generalize com (lst P) (lst Q) = c at *
      clear HB9
      go_upto_region 20 with fail
      go_cut [105] from 89 to 104 (fun s105 wx => s105 = .bool false ∧ Below wr.heap.size wr wx)
      case first =>
        go_wp2_with fail
        refine hW1.mono ?_
        rintro e w21 ⟨rfl, hb21⟩
        have hI1a := hI1.below hb21
        have hIqa := hIq.below hb21
        have hI9a := hI9.below hb21
        clear hW1
        cases b1 with
        | false =>
          clear HW
          go_wp2
          go_meet
          case rel => exact ⟨rfl, hb21⟩
        | true =>
          go_wp2_with fail
          refine (hW2 w21 hI1a hIqa).mono ?_
          rintro e w22 ⟨rfl, hb22⟩
          have hI9b := hI9a.below hb22
          have hIqb := hIqa.below hb22
          have hbb := below2 hb21 hb22
          clear hW2
          cases b2 with
          | true =>
            have hc : c = true := by simpa using HW.out
            subst hc
            clear HW
            go_wp2
            go_meet
            case rel => exact ⟨rfl, hbb⟩
          | false =>
            go_wp2_with fail
            refine (hW3 w22 hI9b hIqb).mono ?_
            rintro e w23 ⟨rfl, hb23⟩
            have hbc := below2 hbb hb23
            clear hW3
            cases b3 with
            | true =>
              have hc : c = true := by simpa using HW.out
              subst hc
              clear HW
              go_wp2
              go_meet
              case rel => exact ⟨rfl, hbc⟩
            | false =>
              clear HW
              go_wp2
              go_meet
              case rel => exact ⟨rfl, hbc⟩
      case rest =>
      obtain ⟨rfl, hbx⟩ := hcut
      have hI1 := hI1.below hbx
      have hBz := below2 hB12 hbx
      have hMM := Meet_any p1 c1 (lst M) p1 c1 (lst M) _ hI1 (by omega) hI1 (by omega)
      rw [mt_self M hM1 hM0] at hMM
      clear hW1 hW2 hW3 HW hbx hB12 hIp hIq hI9
      go_wp2_with fail
      refine hMM.mono ?_
      rintro e w31 ⟨rfl, hb31⟩
      have hBy := below2 hBz hb31
      go_wp2_with fail
      refine (works_any w31).mono ?_
      rintro e w32 ⟨rfl, hb⟩
      have hBw := below2 hBy hb
      go_wp2
      go_ret
      exact ⟨rfl, hBw⟩

end Go.Proofs.Ytdoiknfpgmglaaa
