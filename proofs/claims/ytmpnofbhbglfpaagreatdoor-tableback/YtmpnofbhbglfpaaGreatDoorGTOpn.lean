/-
  The contract of table's check.
  The contract of table.Write.
  The contract of table.Open.
-/
import Derived.Test.YtmpnofbhbglfpaaGreatDoorGTPut
namespace Go.Proofs.YtmpnofbhbglfpaaGreatDoor
open Go.RowKit Go.BigFrame Go.Sort
attribute [local go_sem] size_bstr toList_bstr ls_def

theorem chk_num {l : List Cl} {m : Int} (h : m < 1 ∨ 32768 < m) : chkE l m = 2 := by unfold chkE; rw [if_pos h]
theorem chk_arg {l : List Cl} {m : Int} (h1 : 1 ≤ m) (h2 : m ≤ 32768) (h : okL l = false) : chkE l m = 2 := by unfold chkE; rw [if_neg (by omega), h]; rfl
theorem chk_long {l : List Cl} {m : Int} {i : Nat} (h1 : 1 ≤ m) (h2 : m ≤ 32768) (h : okL l = true) (hi : i < l.length) (hb : ¬ (blkB [l[i]]).length ≤ 32768) : chkE l m = 3 := by
  have ho : onesB l = false := by
    cases ho : onesB l with
    | false => rfl
    | true =>
      have := List.all_eq_true.1 ho _ (List.getElem_mem hi)
      rw [decide_eq_true_eq] at this
      exact absurd this hb
  unfold chkE
  rw [if_neg (by omega), h, ho]
  rfl
theorem chk_ok {l : List Cl} {m : Int} (h1 : 1 ≤ m) (h2 : m ≤ 32768) (h : okL l = true) (ho : onesB (l.take l.length) = true) : chkE l m = 0 := by
  rw [List.take_length] at ho
  unfold chkE
  rw [if_neg (by omega), h, ho]
  rfl
theorem ones_step {l : List Cl} {i : Nat} (hi : i < l.length) (h : onesB (l.take i) = true) (h1 : (blkB [l[i]]).length ≤ 32768) : onesB (l.take (i + 1)) = true := by
  rw [List.take_succ_eq_append_getElem hi]
  unfold onesB at h ⊢
  rw [List.all_append, h]
  simp [h1]
theorem okL_one {l : List Cl} {i : Nat} (hi : i < l.length) (h : okL l = true) : okL [l[i]] = true := by
  rw [okL_iff] at h ⊢
  refine ⟨?_, List.pairwise_singleton _ _⟩
  have := List.all_eq_true.1 h.1 _ (List.getElem_mem hi)
  simp [this]

set_option maxHeartbeats 4000000 in
set_option maxRecDepth 100000 in
theorem check_any (q : Option Addr) (b off cap : Nat) (cs : List Cl) (m : Int) (w : World) (hq : 0 < cs.length → q = some ⟨b, off, none⟩ ∧ CRow w b off cs ∧ b < w.heap.size) (hc : cs.length ≤ cap) (hn : cs.length ≤ 1000000000) :
    Calls Tryz.prog 24 #[.slice q cs.length cap, .int .i64 m] w fun e w' => e = .returned (.int .i64 (chkE cs m)) ∧ RowKit.Below w.heap.size w w' := by
  generalize heE : chkE cs m = eE
  have HE : Hid (chkE cs m = eE) := heE
  clear heE
  go_enter Tryz.func24, Tryz.ntmps24
  by_cases hm1 : m < 1
  · have d1 : decide (m < 1) = true := by simpa using hm1
    have HX : Hid (eE = 2) := by show _ = _; rw [← HE.out]; exact chk_num (Or.inl hm1)
    go_wp2
    go_ret
    exact ⟨by rw [HX.out]; rfl, by first | exact RowKit.Below.refl _ _ | exact (RowKit.Below.refl _ _).drew⟩
  by_cases hm2 : 32768 < m
  · have d1 : decide (m < 1) = false := by simpa using hm1
    have d2 : decide (32768 < m) = true := by simpa using hm2
    have HX : Hid (eE = 2) := by show _ = _; rw [← HE.out]; exact chk_num (Or.inr hm2)
    go_wp2
    go_ret
    exact ⟨by rw [HX.out]; rfl, by first | exact RowKit.Below.refl _ _ | exact (RowKit.Below.refl _ _).drew⟩
  have d1 : decide (m < 1) = false := by simpa using hm1
  have d2 : decide (32768 < m) = false := by simpa using hm2
  have HM1 : Hid (1 ≤ m) := Int.not_lt.1 hm1
  have HM2 : Hid (m ≤ 32768) := Int.not_lt.1 hm2
  clear hm1 hm2
  go_wp2
  clear d1 d2
  go_loopw [18] (fun s13 wr => ∃ i : Nat, s13 = .int .i64 (i : Int) ∧ i ≤ cs.length ∧ Hid (okL (cs.take i) = true) ∧ RowKit.Below w.heap.size w wr) (fun s13 _ => cs.length - (intOf s13).toNat)
  case atStart => exact ⟨0, rfl, by omega, rfl, RowKit.Below.refl _ _⟩
  case round =>
    obtain ⟨i, rfl, hil, HA, hbel⟩ := hrel
    by_cases hlt : i < cs.length
    · obtain ⟨rfl, hR, hbl⟩ := hq (by omega)
      have hR' := hR.step hbel hbl
      have hAt := hR' i hlt
      have hcon := Cell_any cs[i].row cs[i].col cs[i].ver cs[i].gone cs[i].val
      have hW1 : RowKit.Below wr.heap.size wr (wr.alloc (.cells #[.string (bstr cs[i].row), .string (bstr cs[i].col), .int .u64 cs[i].ver, .bool cs[i].gone, .string (bstr cs[i].val)] 39)) := (RowKit.Below.refl _ _).alloc (Nat.le_refl _) _
      have hN := CellAt.new wr 39 cs[i].row cs[i].col cs[i].ver cs[i].gone cs[i].val
      cases hm : okC cs[i] with
      | false =>
        have e1 := chk_arg HM1.out HM2.out (okL_bad1 hlt hm)
        have HX : Hid (eE = 2) := by show _ = _; rw [← HE.out]; exact e1
        rw [show mayC cs[i].row cs[i].col cs[i].ver cs[i].gone cs[i].val = false from hm, if_neg (by simp)] at hcon
        clear hm hR hR' e1
        generalize cs[i] = c at *
        obtain ⟨r, k, v, z, x⟩ := c
        obtain ⟨c0, c1, c2, c3, c4⟩ := hAt
        simp only at c0 c1 c2 c3 c4 hcon hW1 hN
        go_wp2_with fail
        generalize wr.alloc (.cells #[.string (bstr r), .string (bstr k), .int .u64 v, .bool z, .string (bstr x)] 39) = W at *
        have n0 := fun d os => cell_regrown hN.c0 d os
        have n1 := fun d os => cell_regrown hN.c1 d os
        have n2 := fun d os => cell_regrown hN.c2 d os
        have n3 := fun d os => cell_regrown hN.c3 d os
        have n4 := fun d os => cell_regrown hN.c4 d os
        refine wp_region_quiet_below (by kernel_rfl) (by kernel_rfl) ?_
        repeat (go_big_quiet_step (first
          | (go_at_call 47; with_reducible exact Calls.regrown_of (hcon _))))
        refine wpQuiet_nil ?_
        intro _ hw'
        obtain ⟨⟨dq, osq⟩, hw''⟩ := hw'
        subst hw''
        have hb1 := below_regrown W dq osq
        have hbe := below2 hbel (below2 hW1 hb1)
        clear n0 n1 n2 n3 n4 hb1 hW1 hN c0 c1 c2 c3 c4 hcon
        generalize grow (redrawn W dq) osq = W1 at *
        go_wp2
        go_ret
        exact ⟨by rw [HX.out]; rfl, hbe⟩
      | true =>
        rw [show mayC cs[i].row cs[i].col cs[i].ver cs[i].gone cs[i].val = true from hm, if_pos rfl] at hcon
        by_cases h0 : 0 < i
        · have hd0 : decide ((0 : Int) < (i : Int)) = true := by rw [decide_eq_true_eq]; omega
          have i1 : (i : Int) - 1 = ((i - 1 : Nat) : Int) := by omega
          have hAp := (hR' (i - 1) (by omega)).step hW1 (Nat.lt_of_lt_of_le hbl hbel.size)
          have hcm := Cmp_any cs[i - 1].row cs[i - 1].col cs[i - 1].ver cs[i - 1].gone cs[i - 1].val cs[i].row cs[i].col cs[i].ver cs[i].gone cs[i].val
          by_cases hd : ccl cs[i - 1] cs[i] < 0
          · have HM : Hid (okL (cs.take (i + 1)) = true) := okL_step hlt HA.out hm fun _ => hd
            change cc cs[i - 1].row cs[i - 1].col cs[i - 1].ver cs[i].row cs[i].col cs[i].ver < 0 at hd
            generalize cc cs[i - 1].row cs[i - 1].col cs[i - 1].ver cs[i].row cs[i].col cs[i].ver = d at *
            clear hm hR hR'
            generalize cs[i] = c at *
            generalize cs[i - 1] = p at *
            obtain ⟨r, k, v, z, x⟩ := c
            obtain ⟨c0, c1, c2, c3, c4⟩ := hAt
            simp only at c0 c1 c2 c3 c4 hcon hW1 hN
            go_wp2_with fail
            generalize wr.alloc (.cells #[.string (bstr r), .string (bstr k), .int .u64 v, .bool z, .string (bstr x)] 39) = W at *
            have n0 := fun d os => cell_regrown hN.c0 d os
            have n1 := fun d os => cell_regrown hN.c1 d os
            have n2 := fun d os => cell_regrown hN.c2 d os
            have n3 := fun d os => cell_regrown hN.c3 d os
            have n4 := fun d os => cell_regrown hN.c4 d os
            obtain ⟨r', k', v', z', x'⟩ := p
            simp only at hcm hAp
            obtain ⟨p0, p1, p2, p3, p4⟩ := hAp
            simp only at p0 p1 p2 p3 p4
            have m0 := fun d os => cell_regrown p0 d os
            have m1 := fun d os => cell_regrown p1 d os
            have m2 := fun d os => cell_regrown p2 d os
            have m3 := fun d os => cell_regrown p3 d os
            have m4 := fun d os => cell_regrown p4 d os
            refine wp_region_quiet_below (by kernel_rfl) (by kernel_rfl) ?_
            repeat (go_big_quiet_step (first
              | (go_at_call 47; with_reducible exact Calls.regrown_of (hcon _))
              | (go_at_call 48; with_reducible exact Calls.regrown_of (hcm _))))
            refine wpQuiet_nil ?_
            intro _ hw'
            obtain ⟨⟨dq, osq⟩, hw''⟩ := hw'
            subst hw''
            have hb1 := below_regrown W dq osq
            have hbe := below2 hbel (below2 hW1 hb1)
            clear n0 n1 n2 n3 n4 hb1 hW1 hN c0 c1 c2 c3 c4 hcon hcm p0 p1 p2 p3 p4 m0 m1 m2 m3 m4
            generalize grow (redrawn W dq) osq = W1 at *
            go_wp2
            go_roundw
            case rel => exact ⟨i + 1, by go_num, by omega, HM, hbe⟩
            case measure => simp [intOf]; omega
          · have e1 := chk_arg HM1.out HM2.out (okL_bad2 hlt h0 hd)
            have HX : Hid (eE = 2) := by show _ = _; rw [← HE.out]; exact e1
            have hd' : 0 ≤ cc cs[i - 1].row cs[i - 1].col cs[i - 1].ver cs[i].row cs[i].col cs[i].ver := Int.not_lt.1 hd
            generalize cc cs[i - 1].row cs[i - 1].col cs[i - 1].ver cs[i].row cs[i].col cs[i].ver = d at *
            clear hm hR hR' e1 hd
            generalize cs[i] = c at *
            generalize cs[i - 1] = p at *
            obtain ⟨r, k, v, z, x⟩ := c
            obtain ⟨c0, c1, c2, c3, c4⟩ := hAt
            simp only at c0 c1 c2 c3 c4 hcon hW1 hN
            go_wp2_with fail
            generalize wr.alloc (.cells #[.string (bstr r), .string (bstr k), .int .u64 v, .bool z, .string (bstr x)] 39) = W at *
            have n0 := fun d os => cell_regrown hN.c0 d os
            have n1 := fun d os => cell_regrown hN.c1 d os
            have n2 := fun d os => cell_regrown hN.c2 d os
            have n3 := fun d os => cell_regrown hN.c3 d os
            have n4 := fun d os => cell_regrown hN.c4 d os
            obtain ⟨r', k', v', z', x'⟩ := p
            simp only at hcm hAp
            obtain ⟨p0, p1, p2, p3, p4⟩ := hAp
            simp only at p0 p1 p2 p3 p4
            have m0 := fun d os => cell_regrown p0 d os
            have m1 := fun d os => cell_regrown p1 d os
            have m2 := fun d os => cell_regrown p2 d os
            have m3 := fun d os => cell_regrown p3 d os
            have m4 := fun d os => cell_regrown p4 d os
            refine wp_region_quiet_below (by kernel_rfl) (by kernel_rfl) ?_
            repeat (go_big_quiet_step (first
              | (go_at_call 47; with_reducible exact Calls.regrown_of (hcon _))
              | (go_at_call 48; with_reducible exact Calls.regrown_of (hcm _))))
            refine wpQuiet_nil ?_
            intro _ hw'
            obtain ⟨⟨dq, osq⟩, hw''⟩ := hw'
            subst hw''
            have hb1 := below_regrown W dq osq
            have hbe := below2 hbel (below2 hW1 hb1)
            clear n0 n1 n2 n3 n4 hb1 hW1 hN c0 c1 c2 c3 c4 hcon hcm p0 p1 p2 p3 p4 m0 m1 m2 m3 m4
            generalize grow (redrawn W dq) osq = W1 at *
            go_wp2
            go_ret
            exact ⟨by rw [HX.out]; rfl, hbe⟩
        · have hd0 : decide ((0 : Int) < (i : Int)) = false := by rw [decide_eq_false_iff_not]; omega
          have HM : Hid (okL (cs.take (i + 1)) = true) := okL_step hlt HA.out hm fun h => absurd h h0
          clear hm hR hR'
          generalize cs[i] = c at *
          obtain ⟨r, k, v, z, x⟩ := c
          obtain ⟨c0, c1, c2, c3, c4⟩ := hAt
          simp only at c0 c1 c2 c3 c4 hcon hW1 hN
          go_wp2_with fail
          generalize wr.alloc (.cells #[.string (bstr r), .string (bstr k), .int .u64 v, .bool z, .string (bstr x)] 39) = W at *
          have n0 := fun d os => cell_regrown hN.c0 d os
          have n1 := fun d os => cell_regrown hN.c1 d os
          have n2 := fun d os => cell_regrown hN.c2 d os
          have n3 := fun d os => cell_regrown hN.c3 d os
          have n4 := fun d os => cell_regrown hN.c4 d os
          refine wp_region_quiet_below (by kernel_rfl) (by kernel_rfl) ?_
          repeat (go_big_quiet_step (first
            | (go_at_call 47; with_reducible exact Calls.regrown_of (hcon _))))
          refine wpQuiet_nil ?_
          intro _ hw'
          obtain ⟨⟨dq, osq⟩, hw''⟩ := hw'
          subst hw''
          have hb1 := below_regrown W dq osq
          have hbe := below2 hbel (below2 hW1 hb1)
          clear n0 n1 n2 n3 n4 hb1 hW1 hN c0 c1 c2 c3 c4 hcon
          generalize grow (redrawn W dq) osq = W1 at *
          go_wp2
          go_roundw
          case rel => exact ⟨i + 1, by go_num, by omega, HM, hbe⟩
          case measure => simp [intOf]; omega
    · have hie : i = cs.length := by omega
      subst hie
      rw [List.take_length] at HA
      go_wp2
      go_loopw [43] (fun s43 wr => ∃ i : Nat, s43 = .int .i64 (i : Int) ∧ i ≤ cs.length ∧ Hid (onesB (cs.take i) = true) ∧ RowKit.Below w.heap.size w wr) (fun s43 _ => cs.length - (intOf s43).toNat)
      case atStart => exact ⟨0, rfl, by omega, rfl, hbel⟩
      case round =>
        clear hbel
        obtain ⟨i, rfl, hil, HO, hbel⟩ := hrel
        by_cases hlt : i < cs.length
        · obtain ⟨rfl, hR, hbl⟩ := hq (by omega)
          have hR' := hR.step hbel hbl
          have hRi : CRow wr b (off + i * 5) [cs[i]] := by
            have h1 := (hR'.drop i).take 1
            have h2 : (cs.drop i).take 1 = [cs[i]] := by rw [List.drop_eq_getElem_cons hlt]; rfl
            rwa [h2] at h1
          have hcon := Build_any (some ⟨b, off + i * 5, none⟩) b (off + i * 5) (cap - i) [cs[i]] wr (fun _ => ⟨rfl, hRi, Nat.lt_of_lt_of_le hbl hbel.size⟩) (by simp)
          have hok1 := okL_one hlt HA.out
          by_cases hb : (blkB [cs[i]]).length ≤ 32768
          · rw [(bld_ok hok1 hb).1, (bld_ok hok1 hb).2] at hcon
            have HS : Hid (onesB (cs.take (i + 1)) = true) := ones_step hlt HO.out hb
            clear hR hR' hRi hok1 hb
            generalize blkB [cs[i]] = bb at *
            simp only [List.length_singleton] at hcon
            go_wp2_with (go_at_call 49; with_reducible refine hcon.mono ?_; rintro e W1 ⟨rfl, hb1⟩; have hbe := below2 hbel hb1)
            go_roundw
            case rel => exact ⟨i + 1, by go_num, by omega, HS, hbe⟩
            case measure => simp [intOf]; omega
          · rw [(bld_long hok1 hb).1, (bld_long hok1 hb).2] at hcon
            have HX : Hid (eE = 3) := by show _ = _; rw [← HE.out]; exact chk_long HM1.out HM2.out HA.out hlt hb
            clear hR hR' hRi hok1 hb
            simp only [List.length_singleton] at hcon
            go_wp2_with (go_at_call 49; with_reducible refine hcon.mono ?_; rintro e W1 ⟨rfl, hb1⟩; have hbe := below2 hbel hb1)
            go_ret
            exact ⟨by rw [HX.out]; rfl, hbe⟩
        · have hie : i = cs.length := by omega
          subst hie
          have HX : Hid (eE = 0) := by show _ = _; rw [← HE.out]; exact chk_ok HM1.out HM2.out HA.out HO.out
          go_wp2
          go_ret
          exact ⟨by rw [HX.out]; rfl, hbel⟩

end Go.Proofs.YtmpnofbhbglfpaaGreatDoor

namespace Go.Proofs.YtmpnofbhbglfpaaGreatDoor
open Go.RowKit

/-- What Write answers. -/
def wriT (l : List Cl) (m : Int) : List UInt8 := if chkE l m = 0 then layT (cutB l m.toNat) else []
theorem chk_iff {l : List Cl} {m : Int} : chkE l m = 0 ↔ (1 ≤ m ∧ m ≤ 32768) ∧ okL l = true ∧ onesB l = true := by
  unfold chkE
  by_cases h : m < 1 ∨ 32768 < m
  · rw [if_pos h]
    exact ⟨fun h => absurd h (by decide), fun h2 => by omega⟩
  · rw [if_neg h]
    by_cases h1 : okL l = true
    · rw [if_pos h1]
      by_cases h2 : onesB l = true
      · rw [if_pos h2]
        exact ⟨fun _ => ⟨by omega, h1, h2⟩, fun _ => rfl⟩
      · rw [if_neg h2]
        exact ⟨fun h => absurd h (by decide), fun h => absurd h.2.2 h2⟩
    · rw [if_neg h1]
      exact ⟨fun h => absurd h (by decide), fun h => absurd h.2.1 h1⟩
theorem CBlk.step {w w' : World} {g B : Nat} (h : CBlk w g) (hb : Below B w w') (hB : g < B) : CBlk w' g := h.same (hb.block g hB)

set_option maxHeartbeats 4000000 in
set_option maxRecDepth 100000 in
theorem TWrite_any (q : Option Addr) (g off cap : Nat) (cs : List Cl) (m : Int) (w : World) (hq : 0 < cs.length → q = some ⟨g, off, none⟩ ∧ CRow w g off cs ∧ CBlk w g) (hc : cs.length ≤ cap) (hL : cs.length ≤ 1000000) (ht : Tabs w) (hR : chkE cs m = 0 → Room (cutB cs m.toNat)) :
    Calls Tryz.prog 7 #[.slice q cs.length cap, .int .i64 m] w fun e w' => e = .returned (.tuple #[.string (bstr (wriT cs m)), .int .i64 (chkE cs m)]) ∧ Below w.heap.size w w' := by
  have hck := check_any q g off cap cs m w (fun h => ⟨(hq h).1, (hq h).2.1, (hq h).2.2.lt⟩) hc (by omega)
  by_cases h0 : chkE cs m = 0
  · have hm := chk_iff.1 h0
    have hGB := cutB_gb (l := cs) (m := m.toNat) (by omega) hm.2.1 hm.2.2
    have hw : wriT cs m = layT (cutB cs m.toNat) := by unfold wriT; rw [if_pos h0]
    have hcu : ∀ W, Below w.heap.size w W → Calls Tryz.prog 26 #[.slice q cs.length cap, .int .i64 m] W fun e w' => e = .returned (.func (.func 60) #[] #[.pointer (some ⟨W.heap.size, 0, none⟩), .pointer (some ⟨W.heap.size + 1, 0, none⟩)]) ∧ Tells 60 #[.pointer (some ⟨W.heap.size, 0, none⟩), .pointer (some ⟨W.heap.size + 1, 0, none⟩)] (cutB cs m.toNat) w' ∧ Below W.heap.size W w' := fun W hb => by
      have h1 := tcut_any q cs.length cap m.toNat W
      rw [show ((m.toNat : Nat) : Int) = m by omega] at h1
      refine h1.mono ?_
      rintro e w' ⟨rfl, hB, hs, hb1⟩
      refine ⟨rfl, cut1_tells q g off cap W.heap.size cs m.toNat w' (fun h => ?_) hB hm.2.1 hm.2.2 (by omega) hc hL, hb1⟩
      obtain ⟨e1, e2, e3⟩ := hq h
      have hb2 := below2 hb hb1
      exact ⟨e1, e2.step hb2 e3.lt, e3.step hb2 e3.lt⟩
    rw [h0] at hck
    rw [hw, h0]
    have HR : Hid (Room (cutB cs m.toNat)) := hR h0
    have HG : Hid (GB (cutB cs m.toNat)) := hGB.1
    clear hR hGB hw h0 hm
    generalize cutB cs m.toNat = Bs at *
    go_enter Tryz.func7, Tryz.ntmps7
    go_wp2_with (first
      | (go_at_call 24; with_reducible refine hck.mono ?_; rintro e W1 ⟨rfl, hb1⟩)
      | (go_at_call 26; with_reducible refine (hcu _ hb1).mono ?_; rintro e W2 ⟨rfl, hT2, hb2⟩; have hbb := below2 hb1 hb2)
      | (go_at_call 25; with_reducible refine (put_any _ _ Bs _ (fun _ _ => rfl) hT2 HG.out HR.out (ht.below hbb)).mono ?_; rintro e W3 ⟨tb, vb, vl, rfl, _, hb3⟩; have hbc := below2 hbb hb3))
    go_ret2
    exact ⟨rfl, hbc⟩
  · have hw : wriT cs m = [] := by unfold wriT; rw [if_neg h0]
    have hne : (chkE cs m == 0) = false := by simpa using h0
    rw [hw]
    clear hR hw
    generalize chkE cs m = e0 at *
    go_enter Tryz.func7, Tryz.ntmps7
    go_wp2_with (first
      | (go_at_call 24; with_reducible refine hck.mono ?_; rintro e W1 ⟨rfl, hb1⟩))
    go_ret2
    exact ⟨rfl, hb1⟩

end Go.Proofs.YtmpnofbhbglfpaaGreatDoor

namespace Go.Proofs.YtmpnofbhbglfpaaGreatDoor
open Go.RowKit
attribute [local go_sem] size_bstr toList_bstr

theorem scn_long (k : Nat) (s : List UInt8) : (scn k s).length ≤ k ∧ ∀ b ∈ scn k s, b.length ≤ 1048576 := by
  induction k generalizing s with
  | zero => exact ⟨Nat.le_refl _, fun b h => by cases h⟩
  | succ k ih =>
    cases h : opn s with
    | none => rw [scn_none h]; exact ⟨Nat.zero_le _, fun b h => by cases h⟩
    | some b =>
      rw [scn_some h]
      obtain ⟨h1, h2⟩ := ih (s.drop (8 + b.length))
      refine ⟨by rw [List.length_cons]; omega, fun x hx => ?_⟩
      rcases List.mem_cons.1 hx with rfl | hx
      · exact (opn_some h).1
      · exact h2 x hx

set_option maxHeartbeats 4000000 in
set_option maxRecDepth 100000 in
theorem Open_any (s : List UInt8) (w : World) (hs : s.length ≤ 35184372088832) (ht : Tabs w) (hR : Room (opB s)) :
    Calls Tryz.prog 11 #[.string (bstr s)] w fun e w' => Below w.heap.size w w' ∧ ((layT (opB s) = s ∧ ∃ tb vb vl, e = .returned (.tuple #[.pointer (some ⟨tb, 0, none⟩), .int .i64 0]) ∧ TB w' tb vb vl (opB s)) ∨ (layT (opB s) ≠ s ∧ e = .returned (.tuple #[.pointer none, .int .i64 4]))) := by
  have hbe := blocksEnd_any s w (by omega)
  have hle := bEnd_le s
  have hsc := Scan_any (s.take (bEnd s)) w (by rw [List.length_take]; omega) ht
  obtain ⟨h1, h2⟩ := scn_long (s.take (bEnd s)).length (s.take (bEnd s))
  have hop : opB s = rdB none (scn (s.take (bEnd s)).length (s.take (bEnd s))) := rfl
  have h3 : (scn (s.take (bEnd s)).length (s.take (bEnd s))).length ≤ 35184372088832 := by
    have h4 : (s.take (bEnd s)).length ≤ s.length := by rw [List.length_take]; omega
    omega
  clear h1
  generalize scn (s.take (bEnd s)).length (s.take (bEnd s)) = bs at *
  generalize bEnd s = n at *
  rw [hop] at hR ⊢
  have hG := rdB_gb bs
  have hrd : ∀ (q : Option Addr) (g cap : Nat) (W : World), Bl.SArg W q g 0 bs → Calls Tryz.prog 32 #[.slice q bs.length cap] W fun e w' => e = .returned (.func (.func 72) #[] #[.pointer (some ⟨W.heap.size, 0, none⟩)]) ∧ Tells 72 #[.pointer (some ⟨W.heap.size, 0, none⟩)] (rdB none bs) w' ∧ Below W.heap.size W w' := fun q g cap W hA => by
    refine (tread_any q bs.length cap W).mono ?_
    rintro e w' ⟨rfl, hB, hsz, hb⟩
    refine ⟨rfl, read1_tells q g 0 cap W.heap.size bs w' (fun h => ?_) hB (fun s hs => Nat.le_trans (h2 s hs) (by omega)) (by omega), hb⟩
    exact hA.below hb h
  generalize rdB none bs = Bs at *
  clear hop
  have hsl : ∀ W, (Instr.slice 9 (.string (bstr s)) none (some (.int .i64 (n : Int))) none).run Tryz.prog W = .ok (.string (bstr (s.take n))) W := fun W => run_head _ s n hle W Tryz.underlying9
  by_cases he : layT Bs = s
  · have hE : (layT Bs == s) = true := by simpa using he
    have HE : Hid _ := he
    clear he
    go_enter Tryz.func11, Tryz.ntmps11
    go_wp2_with (first
      | (go_at_call 31; with_reducible refine hbe.mono ?_; rintro e W0 ⟨rfl, rfl⟩)
      | (go_at_call 30; with_reducible refine hsc.mono ?_; rintro e W1 ⟨v, rfl, hown, hb1⟩; obtain ⟨q, g, cap, rfl, hA⟩ := own_sarg hown)
      | (go_at_call 32; with_reducible refine (hrd _ g _ _ hA).mono ?_; rintro e W2 ⟨rfl, hT2, hb2⟩; have hbb := below2 hb1 hb2)
      | (go_at_call 25; with_reducible refine (put_any _ _ Bs _ (fun _ _ => rfl) hT2 hG hR (ht.below hbb)).mono ?_; rintro e W3 ⟨tb, vb, vl, rfl, hTB, hb3⟩; have hbc := below2 hbb hb3))
    go_ret2
    exact ⟨hbc, Or.inl ⟨HE.out, tb, vb, vl, rfl, hTB⟩⟩
  · have hE : (layT Bs == s) = false := by simpa using he
    have HE : Hid _ := he
    clear he
    go_enter Tryz.func11, Tryz.ntmps11
    go_wp2_with (first
      | (go_at_call 31; with_reducible refine hbe.mono ?_; rintro e W0 ⟨rfl, rfl⟩)
      | (go_at_call 30; with_reducible refine hsc.mono ?_; rintro e W1 ⟨v, rfl, hown, hb1⟩; obtain ⟨q, g, cap, rfl, hA⟩ := own_sarg hown)
      | (go_at_call 32; with_reducible refine (hrd _ g _ _ hA).mono ?_; rintro e W2 ⟨rfl, hT2, hb2⟩; have hbb := below2 hb1 hb2)
      | (go_at_call 25; with_reducible refine (put_any _ _ Bs _ (fun _ _ => rfl) hT2 hG hR (ht.below hbb)).mono ?_; rintro e W3 ⟨tb, vb, vl, rfl, hTB, hb3⟩; have hbc := below2 hbb hb3))
    go_ret2
    exact ⟨hbc, Or.inr ⟨HE.out, rfl⟩⟩

end Go.Proofs.YtmpnofbhbglfpaaGreatDoor
