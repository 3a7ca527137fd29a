/-
  The document's answers for quorum: Change.
-/
import Derived.Test.YtdoiknfpgmglaaaURf2
import Derived.Test.YtdoiknfpgmglaaaUChg
namespace Go.Proofs.Ytdoiknfpgmglaaa
open Go.RowKit Go.BigFrame

def moreB (l : List Int) (x y : Int) : Bool := decide (y = -1) && (decide (0 ≤ x) && (decide (x < 5) && !decide (x ∈ l)))
def fewB (l : List Int) (x y : Int) : Bool := decide (x = -1) && (decide (y ∈ l) && decide (1 < l.length))
theorem cd1 : ∀ m < 32, ∀ k < 5, 0 < m → (!(decide (setB m (k : Nat) = m) || decide (setB m (k : Nat) = 0))) = !decide (((k : Nat) : Int) ∈ lst m) := by decide +kernel
theorem cd2 : ∀ m < 32, ∀ k < 5, 0 < m → (!(decide (clrB m (k : Nat) = m) || decide (clrB m (k : Nat) = 0))) = (decide (((k : Nat) : Int) ∈ lst m) && decide (1 < (lst m).length)) := by decide +kernel
theorem chg_doc {l : List Int} {x y : Int} (h : chk l = true) : chgK l x y = (moreB l x y || fewB l x y) := by
  obtain ⟨m, h0, h1, rfl⟩ := chk_ml h
  have hr := (chk_may h).2.1
  have hmem : ∀ z : Int, z ∈ lst m → 0 ≤ z ∧ z < 5 := fun z hz => by
    obtain ⟨j, hj, rfl⟩ := List.mem_iff_getElem.1 hz
    exact hr j hj
  unfold chgK chgN moreB fewB
  rw [h, mk_lst m h1]
  by_cases hx : x = -1
  · subst hx
    have hx1 : setB m (-1) = m := setB_no (by omega)
    rw [hx1]
    by_cases hy : 0 ≤ y ∧ y < 5
    · obtain ⟨k, rfl⟩ : ∃ k : Nat, y = (k : Int) := ⟨y.toNat, by omega⟩
      rw [cd2 m h1 k (by omega) h0]
      simp
    · have hn : clrB m y = m := by unfold clrB; rw [if_neg hy]
      have hn2 : y ∉ lst m := fun e => hy (hmem y e)
      rw [hn]
      simp [hn2]
  · by_cases hy : y = -1
    · subst hy
      have hy1 : ∀ n, clrB n (-1) = n := fun n => by unfold clrB; rw [if_neg (by omega)]
      rw [hy1]
      by_cases hx2 : 0 ≤ x ∧ x < 5
      · obtain ⟨k, rfl⟩ : ∃ k : Nat, x = (k : Int) := ⟨x.toNat, by omega⟩
        rw [cd1 m h1 k (by omega) h0]
        have e1 : ¬ ((k : Int) = -1) := hx
        have e2 : (k : Int) < 5 := hx2.2
        simp [e1, e2]
      · have hn : setB m x = m := setB_no hx2
        rw [hn]
        by_cases hx3 : 0 ≤ x
        · have hx4 : ¬ x < 5 := by omega
          simp [hx, hx4]
        · simp [hx, hx3]
    · simp [hx, hy]
/-- Who is in, told one by one. -/
def inP (l : List Int) (x y : Int) (n : Nat) : Bool := (decide ((n : Int) ∈ l) && !decide ((n : Int) = y)) || decide ((n : Int) = x)
def inI (l : List Int) (x y : Int) (i : Nat) : List Int := ((List.range i).filter (inP l x y)).map fun (n : Nat) => (n : Int)
theorem inI_yes {l : List Int} {x y : Int} {i : Nat} (h : inP l x y i = true) : inI l x y (i + 1) = inI l x y i ++ [(i : Int)] := by
  unfold inI
  rw [List.range_succ, List.filter_append, List.map_append]
  simp [h]
theorem inI_no {l : List Int} {x y : Int} {i : Nat} (h : inP l x y i = false) : inI l x y (i + 1) = inI l x y i := by
  unfold inI
  rw [List.range_succ, List.filter_append, List.map_append]
  simp [h]
theorem inI_len (l : List Int) (x y : Int) (i : Nat) : (inI l x y i).length ≤ i := by
  unfold inI
  rw [List.length_map]
  refine Nat.le_trans (List.length_filter_le ..) ?_
  simp
theorem inI_five {l : List Int} {x y : Int} (h : chgK l x y = true) : inI l x y 5 = chgL l x y := by
  have hxy : ¬ (x ≠ -1 ∧ y ≠ -1) := by
    intro e
    unfold chgK at h
    simp [e] at h
  unfold chgL
  rw [if_pos h]
  unfold inI lst chgN
  congr 1
  apply List.filter_congr
  intro n hn
  have hn5 := List.mem_range.1 hn
  rw [clrB_bit _ _ _ hn5, setB_bit _ _ _ hn5, mk_bit _ _ _ hn5, Nat.zero_testBit, Bool.false_or]
  unfold inP
  by_cases e1 : (n : Int) = x <;> by_cases e2 : (n : Int) = y
  · exact absurd ⟨by omega, by omega⟩ hxy
  · simp [e1]
    simp [← e1, e2]
  · simp [e2]
    simp [← e2, e1]
  · simp [e1, e2]
theorem ChgQ.yes {l : List Int} {x y : Int} {w : World} {q : Option Addr} {c : Nat} (h : chgK l x y = true) (hI : IArg w q (inI l x y 5)) : ChgQ l x y (.returned (.tuple #[.slice q (inI l x y 5).length c, .int .i64 0])) w := by
  have h2 : chgE l x y = 0 := by unfold chgE; simp [h]
  unfold ChgQ
  rw [h2, ← inI_five h]
  exact ⟨q, c, rfl, hI⟩

set_option maxHeartbeats 8000000 in
set_option maxRecDepth 100000 in
theorem RChange_any (q : Option Addr) (cap : Nat) (l : List Int) (x y : Int) (w : World) (h : IArg w q l) (hl : l.length ≤ 9223372036854775807) :
    Calls Try.prog 25 #[.slice q l.length cap, .int .i64 x, .int .i64 y] w fun e w' => ChgQ l x y e w' ∧ Below w.heap.size w w' := by
  obtain ⟨i0, hi0, hz0, hz1, hz2⟩ := info_parts Try.infoInt
  have hR := RMay_any q cap l w h hl
  cases hk : chk l with
  | false =>
    have HR : Hid (chgK l x y = false) := by show _ = _; unfold chgK; simp [hk]
    rw [hk] at hR
    clear hk
    go_enter Try.func25, Try.ntmps25
    go_wp2_with fail
    refine hR.mono ?_
    rintro e w1 ⟨rfl, hb1⟩
    go_wp2
    go_ret2
    exact ⟨ChgQ.no HR.out, hb1⟩
  | true =>
    have HD : Hid _ := chg_doc (x := x) (y := y) hk
    rw [hk] at hR
    clear hk
    obtain ⟨mo, hmo⟩ : ∃ mo, mo = moreB l x y := ⟨_, rfl⟩
    obtain ⟨fe, hfe⟩ : ∃ fe, fe = fewB l x y := ⟨_, rfl⟩
    rw [← hmo, ← hfe] at HD
    have HMO : Hid _ := hmo
    have HFE : Hid _ := hfe
    clear hmo hfe
    go_enter Try.func25, Try.ntmps25
    go_wp2_with fail
    refine hR.mono ?_
    rintro e w1 ⟨rfl, hb1⟩
    clear hR
    have hI1 := h.below hb1
    have hHx := RHas_any q cap l x w1 hI1 hl
    have hHy := RHas_any q cap l y w1 hI1 hl
    go_upto_region 3 with fail
    go_cut [8] from 15 to 30 (fun s8 wx => s8 = .bool mo ∧ wx = w1)
    case first =>
      clear hHy HFE HD
      by_cases hy : y = -1
      · by_cases h0 : 0 ≤ x
        · by_cases h5 : x < 5
          · have hv : mo = !decide (x ∈ l) := by rw [HMO.out]; unfold moreB; simp [hy, h0, h5]
            have ey : (y == -1) = true := beq_iff_eq.2 hy
            have HV : Hid _ := hv
            clear HMO hv hy
            generalize decide (x ∈ l) = b at *
            go_wp2_with fail
            refine hHx.mono ?_
            rintro e w2 ⟨rfl, rfl⟩
            go_wp2
            go_meet
            case rel => exact ⟨by rw [HV.out], rfl⟩
          · have hv : mo = false := by rw [HMO.out]; unfold moreB; simp [h5]
            subst hv
            have ey : (y == -1) = true := beq_iff_eq.2 hy
            clear HMO hy
            go_wp2
            go_meet
            case rel => exact ⟨rfl, rfl⟩
        · have hv : mo = false := by rw [HMO.out]; unfold moreB; simp [h0]
          subst hv
          have ey : (y == -1) = true := beq_iff_eq.2 hy
          clear HMO hy
          go_wp2
          go_meet
          case rel => exact ⟨rfl, rfl⟩
      · have hv : mo = false := by rw [HMO.out]; unfold moreB; simp [hy]
        subst hv
        have ey : (y == -1) = false := beq_eq_false_iff_ne.2 hy
        clear HMO hy
        go_wp2
        go_meet
        case rel => exact ⟨rfl, rfl⟩
    case rest =>
      obtain ⟨rfl, rfl⟩ := hcut
      clear hHx HMO
      go_upto_region 4 with fail
      go_cut [9] from 31 to 42 (fun s9 wx => s9 = .bool fe ∧ wx = wc)
      case first =>
        clear HD
        by_cases hx : x = -1
        · have hv : fe = (decide (y ∈ l) && decide (1 < l.length)) := by rw [HFE.out]; unfold fewB; simp [hx]
          have ex : (x == -1) = true := beq_iff_eq.2 hx
          cases hb : decide (y ∈ l) with
          | true =>
            rw [hb] at hHy hv
            rw [Bool.true_and] at hv
            have HV : Hid _ := hv
            clear HFE hx hb hv
            go_wp2_with fail
            refine hHy.mono ?_
            rintro e w2 ⟨rfl, rfl⟩
            go_wp2
            go_meet
            case rel => exact ⟨by rw [HV.out]; exact congrArg Value.bool (decide_eq_decide.2 (by omega)), rfl⟩
          | false =>
            rw [hb] at hHy hv
            have hv2 : fe = false := hv
            clear hv
            subst hv2
            clear HFE hx hb
            go_wp2_with fail
            refine hHy.mono ?_
            rintro e w2 ⟨rfl, rfl⟩
            go_wp2
            go_meet
            case rel => exact ⟨rfl, rfl⟩
        · have hv : fe = false := by rw [HFE.out]; unfold fewB; simp [hx]
          subst hv
          have ex : (x == -1) = false := beq_eq_false_iff_ne.2 hx
          clear HFE hx
          go_wp2
          go_meet
          case rel => exact ⟨rfl, rfl⟩
      case rest =>
        obtain ⟨rfl, rfl⟩ := hcut
        clear hHy HFE
        cases hor : (mo || fe) with
        | false =>
          rw [hor] at HD
          have h1 : mo = false := by cases mo <;> simp_all
          have h2 : fe = false := by cases fe <;> simp_all
          subst h1
          subst h2
          clear hor
          go_wp2
          go_ret2
          exact ⟨ChgQ.no HD.out, hb1⟩
        | true =>
          rw [hor] at HD
          have HOR : Hid (mo = true ∨ mo = false ∧ fe = true) := by
            show mo = true ∨ mo = false ∧ fe = true
            cases mo <;> simp_all
          clear hor
          go_upto_region 5 with fail
          go_cut [48] from 43 to 47 (fun s48 wx => s48 = .bool false ∧ wx = wc)
          case first =>
            rcases HOR.out with h1 | ⟨h1, h2⟩
            · subst h1
              clear HOR
              go_wp2
              go_meet
              case rel => exact ⟨rfl, rfl⟩
            · subst h1
              subst h2
              clear HOR
              go_wp2
              go_meet
              case rel => exact ⟨rfl, rfl⟩
          case rest =>
            obtain ⟨rfl, rfl⟩ := hcut
            clear HOR
            go_wp2
            go_loopw [10, 11] (fun s10 s11 wr => ∃ i : Nat, s11 = .int .i64 (i : Int) ∧ i ≤ 5 ∧ wr.ownsRow w.heap.size 3 1 s10 (inI l x y i).length (icells (inI l x y i)) ∧ Below w.heap.size w wr) (fun _ s11 _ => 5 - (intOf s11).toNat)
            case atStart => exact ⟨0, rfl, Nat.zero_le _, World.ownsRow_nil .., hb1⟩
            case round =>
              clear hI1 hb1
              obtain ⟨i, rfl, hi, hown, hbr⟩ := hrel
              by_cases hlt : i < 5
              · have hi1 : (i : Int) < 5 := by omega
                have hI := h.below hbr
                have hH := RHas_any q cap l (i : Int) wr hI hl
                go_upto_region 11 with fail
                go_cut [65] from 53 to 64 (fun s65 wx => s65 = .bool (inP l x y i) ∧ wx = wr)
                case first =>
                  clear hown hbr hI
                  have HP : Hid (inP l x y i = ((decide ((i : Int) ∈ l) && !decide ((i : Int) = y)) || decide ((i : Int) = x))) := rfl
                  generalize decide ((i : Int) ∈ l) = b at *
                  cases b with
                  | true =>
                    by_cases ey : (i : Int) = y
                    · have e1 : ((i : Int) != y) = false := by simp [ey]
                      have hv : Hid (inP l x y i = ((i : Int) == x)) := by
                        show _ = _
                        rw [HP.out]
                        have : decide ((i : Int) = y) = true := decide_eq_true ey
                        rw [this]
                        simp
                        rfl
                      clear HP ey
                      go_wp2_with fail
                      refine hH.mono ?_
                      rintro e w2 ⟨rfl, rfl⟩
                      go_wp2
                      go_meet
                      case rel => exact ⟨by rw [hv.out], rfl⟩
                    · have e1 : ((i : Int) != y) = true := by simp [ey]
                      have hv : Hid (inP l x y i = true) := by
                        show _ = _
                        rw [HP.out]
                        simp [ey]
                      clear HP ey
                      go_wp2_with fail
                      refine hH.mono ?_
                      rintro e w2 ⟨rfl, rfl⟩
                      go_wp2
                      go_meet
                      case rel => exact ⟨by rw [hv.out], rfl⟩
                  | false =>
                    have hv : Hid (inP l x y i = ((i : Int) == x)) := by
                      show _ = _
                      rw [HP.out]
                      simp
                      rfl
                    clear HP
                    go_wp2_with fail
                    refine hH.mono ?_
                    rintro e w2 ⟨rfl, rfl⟩
                    go_wp2
                    go_meet
                    case rel => exact ⟨by rw [hv.out], rfl⟩
                case rest =>
                  obtain ⟨rfl, rfl⟩ := hcut
                  clear hH hI
                  cases hP : inP l x y i with
                  | false =>
                    have HL : Hid _ := inI_no hP
                    clear hP
                    go_wp2
                    go_roundw
                    case rel => exact ⟨i + 1, by go_num, by omega, by rw [HL.out]; exact hown, hbr⟩
                    case measure => simp [intOf]; omega
                  | true =>
                    have HL : Hid _ := inI_yes hP
                    have hlen := inI_len l x y i
                    have hz := hbr.size
                    obtain ⟨n, hn⟩ : ∃ n, n = (inI l x y i).length := ⟨_, rfl⟩
                    rw [← hn] at hown hlen
                    have HN : Hid _ := hn
                    have y3 : Hid (n + 1 ≤ maxLen) := by show _ ≤ _; unfold maxLen; omega
                    have y4 : Hid ((n + 1) * 8 ≤ 140737488355328) := by show _ ≤ _; omega
                    have y5 : Hid (w.heap.size ≤ (wc.alloc (.cells #[.int .i64 (i : Int)] 3)).heap.size) := by show _ ≤ _; simp; omega
                    clear hn hz hlen hP
                    go_wp2_with (at_builtin; refine wpList_append_own _ rfl _ _ 22 rfl w.heap.size 3 i0 (.int .i64 0) 1 8 Try.underlying22 hi0 hz0 hz1 hz2 rfl (by decide) _ _ _ rfl (hown.alloc _) ⟨wc.heap.size, 0, none⟩ 1 1 [.int .i64 (i : Int)] rfl rfl (news_one _ _ _) (one_int _ _) y3.out y4.out y5.out ?_)
                    intro v4 w4 hown4 hgr4 _
                    have hbw4 : Below w.heap.size w w4 := (bel_alloc hbr (Nat.le_refl _) _).grown hgr4 (by have := hbr.size; simp; omega) (fun k hk => (hown.lt k hk).1)
                    have hown5 : w4.ownsRow w.heap.size 3 1 v4 (inI l x y (i + 1)).length (icells (inI l x y (i + 1))) := by
                      rw [HL.out, icells_append, List.length_append, ← HN.out]
                      exact hown4
                    clear hown hown4 hgr4
                    go_wp2
                    go_roundw
                    case rel => exact ⟨i + 1, by go_num, by omega, hown5, hbw4⟩
                    case measure => simp [intOf]; omega
              · obtain rfl : i = 5 := by omega
                obtain ⟨hnl, q9, cap9, rfl, hI9⟩ := own_iarg hown
                have c1 : ¬ (5 : Int) < 5 := by omega
                clear hown hnl
                go_wp2
                go_ret2
                exact ⟨ChgQ.yes HD.out hI9, hbr⟩

end Go.Proofs.Ytdoiknfpgmglaaa
