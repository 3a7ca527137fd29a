/-
  The document's answers for quorum: Meet.
-/
import Derived.Test.YtdoiknfpgmglaaaURPt
namespace Go.Proofs.Ytdoiknfpgmglaaa
open Go.RowKit Go.BigFrame

def comI (p q : List Int) (i : Nat) : Bool := com (p.take i) q
theorem comI_succ {p q : List Int} {i : Nat} (h : i < p.length) : comI p q (i + 1) = (comI p q i || decide (p[i] ∈ q)) := by
  unfold comI com
  rw [List.take_add_one, List.getElem?_eq_getElem h, List.any_append]
  simp
/-- What the document's loops know. -/
def MtTo (a b : List Int) (x y : Nat) : Prop := ∀ y' < y, mtB a b x y' = false
theorem MtAll.next {a b : List Int} {x : Nat} (h : MtAll a b x) (k : MtTo a b x (2 ^ b.length)) : MtAll a b (x + 1) := fun x' hx y' hy => by
  rcases Nat.lt_or_ge x' x with e | e
  · exact h x' e y' hy
  · obtain rfl : x' = x := by omega
    exact k y' hy
theorem MtTo.next {a b : List Int} {x y : Nat} (h : MtTo a b x y) (k : mtB a b x y = false) : MtTo a b x (y + 1) := fun y' hy => by
  rcases Nat.lt_or_ge y' y with e | e
  · exact h y' e
  · obtain rfl : y' = y := by omega
    exact k
theorem shl_num : ∀ n < 6, wrap64 ((2 : Int) ^ (n : Nat)) = ((2 ^ n : Nat) : Int) := by decide +kernel

set_option maxHeartbeats 16000000 in
set_option maxRecDepth 100000 in
theorem RMeet_any (q : Option Addr) (cap : Nat) (a : List Int) (q2 : Option Addr) (cap2 : Nat) (b : List Int) (w : World) (h : IArg w q a) (hl : a.length ≤ 9223372036854775807) (h2 : IArg w q2 b) (hy : b.length ≤ 9223372036854775807) :
    Calls Try.prog 19 #[.slice q a.length cap, .slice q2 b.length cap2] w fun e w' => e = .returned (.bool (meet a b)) ∧ Below w.heap.size w w' := by
  have hR := RMay_any q cap a w h hl
  obtain ⟨r, hr⟩ : ∃ r, r = meet a b := ⟨_, rfl⟩
  rw [← hr]
  have HR : Hid (r = meet a b) := hr
  clear hr
  cases hk : chk a with
  | false =>
    have hr : r = false := by rw [HR.out]; unfold meet; simp [hk]
    subst hr
    rw [hk] at hR
    clear hk
    go_enter Try.func19, Try.ntmps19
    go_wp2_with fail
    refine hR.mono ?_
    rintro e w1 ⟨rfl, hb1⟩
    go_wp2
    go_ret
    exact ⟨rfl, hb1⟩
  | true =>
  rw [hk] at hR
  have HKA : Hid (chk a = true) := hk
  have hla := chk_len hk
  clear hk
  go_enter Try.func19, Try.ntmps19
  go_wp2_with fail
  refine hR.mono ?_
  rintro e w1 ⟨rfl, hb1⟩
  have hR2 := RMay_any q2 cap2 b w1 (h2.below hb1) hy
  cases hk2 : chk b with
  | false =>
    have hr : r = false := by rw [HR.out]; unfold meet; simp [hk2]
    subst hr
    rw [hk2] at hR2
    clear hk2
    go_wp2_with fail
    refine hR2.mono ?_
    rintro e w2 ⟨rfl, hb2⟩
    have hB2 := below2 hb1 hb2
    go_wp2
    go_ret
    exact ⟨rfl, hB2⟩
  | true =>
  rw [hk2] at hR2
  have hlb := chk_len hk2
  have HALL : Hid (r = true ↔ MtAll a b (2 ^ a.length)) := by
    show r = true ↔ _
    rw [HR.out]
    exact meet_all HKA.out hk2
  clear hk2 HR
  have hpa := Nat.pow_le_pow_right (n := 2) (by decide) hla.2
  have hpb := Nat.pow_le_pow_right (n := 2) (by decide) hlb.2
  have hsa := shl_num a.length (by omega)
  have hsb := shl_num b.length (by omega)
  obtain ⟨PA, hPA⟩ : ∃ PA, PA = 2 ^ a.length := ⟨_, rfl⟩
  obtain ⟨PB, hPB⟩ : ∃ PB, PB = 2 ^ b.length := ⟨_, rfl⟩
  have HPB : Hid _ := hPB
  rw [← hPA] at hsa hpa HALL
  rw [← hPB] at hsb hpb
  clear hPA hPB
  go_wp2_with fail
  refine hR2.mono ?_
  rintro e w2 ⟨rfl, hb2⟩
  have hB2 := below2 hb1 hb2
  clear hR hR2 hb1 hb2
  go_wp2
  go_loopw [5] (fun s5 wr => ∃ x : Nat, s5 = .int .i64 (x : Int) ∧ x ≤ PA ∧ Hid (MtAll a b x) ∧ Below w.heap.size w wr) (fun s5 _ => PA - (intOf s5).toNat)
  case atStart => exact ⟨0, rfl, Nat.zero_le _, (fun x hx => absurd hx (by omega) : MtAll a b 0), hB2⟩
  case round =>
    clear hB2
    obtain ⟨x, rfl, hxl, hQ, hbr⟩ := hrel
    by_cases hlt : x < PA
    · have hx1 : (x : Int) < (PA : Int) := by omega
      have hx32 : x < 32 := by omega
      obtain ⟨wy, hwy⟩ : ∃ wy, wy = wr := ⟨_, rfl⟩
      have HWY : Hid _ := hwy
      clear hwy
      go_wp2
      rw [hsa]
      go_loopw [6] (fun s6 wx => ∃ y : Nat, s6 = .int .i64 (y : Int) ∧ y ≤ PB ∧ Hid (MtTo a b x y) ∧ Below w.heap.size w wx) (fun s6 _ => PB - (intOf s6).toNat)
      case atStart => exact ⟨0, rfl, Nat.zero_le _, (fun y hy => absurd hy (by omega) : MtTo a b x 0), hbr⟩
      case round =>
        clear hbr HWY
        obtain ⟨y, rfl, hyl, hT, hbx⟩ := hrel
        by_cases hlty : y < PB
        · have hy1 : (y : Int) < (PB : Int) := by omega
          have hy32 : y < 32 := by omega
          have hIa := h.below hbx
          have hIb := h2.below hbx
          have HBAD : Hid (mtB a b x y = (decide (most a ≤ (parL a x).length) && decide (most b ≤ (parL b y).length) && !com (parL a x) (parL b y))) := rfl
          have HBN : Hid (mtB a b x y = true → r = false) := by
            show mtB a b x y = true → r = false
            intro e
            cases hr : r with
            | false => rfl
            | true =>
              have := (HALL.out.1 hr) x hlt y (by rw [← HPB.out]; exact hlty)
              rw [e] at this
              simp at this
          have HNX : Hid (mtB a b x y = false → MtTo a b x (y + 1)) := fun e => hT.out.next e
          have hpl := par_len a x a.length
          have hpm := par_len b y b.length
          clear hT hlty
          go_wp2_with fail
          refine (RPart_any q cap a x _ hIa hla.2 hx32).mono ?_
          rintro e w3 ⟨v3, rfl, hown3, hb3⟩
          obtain ⟨_, q3, cap3, rfl, hI3⟩ := own_iarg hown3
          have hB3 := below2 hbx hb3
          have hIb3 := h2.below hB3
          clear hown3 hbx hb3
          go_wp2_with fail
          refine (RPart_any q2 cap2 b y _ hIb3 hlb.2 hy32).mono ?_
          rintro e w4 ⟨v4, rfl, hown4, hb4⟩
          obtain ⟨_, q4, cap4, rfl, hI4⟩ := own_iarg hown4
          have hI3 := hI3.below hb4
          have hB4 := below2 hB3 hb4
          clear hown4 hB3 hb4 hIb3 hIa hIb
          have hpl : (parL a x).length ≤ 5 := Nat.le_trans hpl hla.2
          have hpm : (parL b y).length ≤ 5 := Nat.le_trans hpm hlb.2
          generalize parL a x = P at *
          generalize parL b y = Q at *
          have hMa := fun w => RMost_any q cap a w hl
          have hMb := fun w => RMost_any q2 cap2 b w hy
          generalize most a = ma at *
          generalize most b = mb at *
          by_cases hA : ma ≤ P.length
          case neg =>
            have hA' : (P.length : Int) < (ma : Int) := by omega
            have HN : Hid (MtTo a b x (y + 1)) := HNX.out (by rw [HBAD.out]; simp [hA])
            clear HNX HBAD HBN hA
            go_wp2_with fail
            refine (hMa _).mono ?_
            rintro e w5 ⟨rfl, rfl⟩
            go_wp2
            go_roundw
            case rel => exact ⟨y + 1, by go_num, by omega, HN, hB4⟩
            case measure => simp [intOf]; omega
          case pos =>
          have hA' : decide (P.length < ma) = false := decide_eq_false (by omega)
          by_cases hB : mb ≤ Q.length
          case neg =>
            have hB' : (Q.length : Int) < (mb : Int) := by omega
            have HN : Hid (MtTo a b x (y + 1)) := HNX.out (by rw [HBAD.out]; simp [hB])
            clear HNX HBAD HBN hA hB
            go_wp2_with fail
            refine (hMa _).mono ?_
            rintro e w5 ⟨rfl, rfl⟩
            go_wp2_with fail
            refine (hMb _).mono ?_
            rintro e w6 ⟨rfl, rfl⟩
            go_wp2
            go_roundw
            case rel => exact ⟨y + 1, by go_num, by omega, HN, hB4⟩
            case measure => simp [intOf]; omega
          case pos =>
          have hB' : decide (Q.length < mb) = false := decide_eq_false (by omega)
          have HBB : Hid (mtB a b x y = !com P Q) := by
            show _ = _
            rw [HBAD.out]
            simp [hA, hB]
          clear HBAD hA hB
          go_wp2_with fail
          refine (hMa _).mono ?_
          rintro e w5 ⟨rfl, rfl⟩
          go_wp2_with fail
          refine (hMb _).mono ?_
          rintro e w6 ⟨rfl, rfl⟩
          clear hMa hMb
          go_wp2
          try rw [hsb]
          try rw [hsa]
          go_loopw [9, 10] (fun s9 s10 wz => ∃ i : Nat, s10 = .int .i64 (i : Int) ∧ i ≤ P.length ∧ s9 = .bool (comI P Q i) ∧ wz = w6) (fun _ s10 _ => P.length - (intOf s10).toNat)
          case atStart => exact ⟨0, rfl, Nat.zero_le _, rfl, rfl⟩
          case round =>
            obtain ⟨i, rfl, hil, rfl, rfl⟩ := hrel
            by_cases hlti : i < P.length
            · have hi1 : (i : Int) < (P.length : Int) := by omega
              obtain ⟨g, off, rfl, hr⟩ := hI3 (by omega)
              have c0 := hr i hlti
              have HT : Hid _ := comI_succ (q := Q) hlti
              obtain ⟨z, hz⟩ : ∃ z, z = P[i] := ⟨_, rfl⟩
              rw [← hz] at c0 HT
              clear hz hr
              have hH := RHas_any q4 cap4 Q z wr hI4 (by omega)
              generalize comI P Q i = c at *
              generalize decide (z ∈ Q) = d at *
              cases c with
              | true =>
                rw [Bool.true_or] at HT
                go_wp2
                go_roundw
                case rel => exact ⟨i + 1, by go_num, by omega, by rw [HT.out], trivial⟩
                case measure => simp [intOf]; omega
              | false =>
                rw [Bool.false_or] at HT
                go_wp2_with fail
                refine hH.mono ?_
                rintro e w7 ⟨rfl, rfl⟩
                go_wp2
                go_roundw
                case rel => exact ⟨i + 1, by go_num, by omega, by rw [HT.out], trivial⟩
                case measure => simp [intOf]; omega
            · obtain rfl : i = P.length := by omega
              have hcom : comI P Q P.length = com P Q := by unfold comI; rw [List.take_length]
              rw [hcom]
              clear hcom
              cases hc : com P Q with
              | true =>
                have HN : Hid (MtTo a b x (y + 1)) := HNX.out (by rw [HBB.out, hc]; rfl)
                clear HNX HBB HBN hc
                go_wp2
                go_roundw
                case rel => exact ⟨y + 1, by go_num, by omega, HN, hB4⟩
                case measure => simp [intOf]; omega
              | false =>
                have hr : r = false := HBN.out (by rw [HBB.out, hc]; rfl)
                subst hr
                clear HNX HBB HBN hc
                go_wp2
                go_ret
                exact ⟨rfl, hB4⟩
        · obtain rfl : y = PB := by omega
          have HN : Hid (MtAll a b (x + 1)) := hQ.out.next (by rw [← HPB.out]; exact hT.out)
          clear hQ hT
          go_wp2
          go_roundw
          case rel => exact ⟨x + 1, by go_num, by omega, HN, hbx⟩
          case measure => simp [intOf]; omega
    · obtain rfl : x = PA := by omega
      have hr : r = true := HALL.out.2 hQ.out
      subst hr
      clear hQ
      have c1 : ¬ (x : Int) < (x : Int) := by omega
      go_wp2
      go_ret
      exact ⟨rfl, hbr⟩

end Go.Proofs.Ytdoiknfpgmglaaa
