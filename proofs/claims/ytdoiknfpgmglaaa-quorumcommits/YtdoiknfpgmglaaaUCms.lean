/-
  The law QuorumCommits.
-/
import Derived.Test.YtdoiknfpgmglaaaULaw
import Derived.Test.YtdoiknfpgmglaaaURCm
namespace Go.Proofs.Ytdoiknfpgmglaaa
open Go.RowKit Go.BigFrame

set_option maxHeartbeats 16000000 in
set_option maxRecDepth 100000 in
theorem QCommits_any (q : Option Addr) (cap : Nat) (l : List Int) (q2 : Option Addr) (cap2 : Nat) (ms : List Nat) (w : World) (h : IArg w q l) (hl : l.length ≤ 9223372036854775807) (hc : l.length ≤ cap) (hnil : q = none → l = [] ∧ cap = 0) (h2 : UArg w q2 ms) (hl2 : ms.length ≤ 9223372036854775807) (hc2 : ms.length ≤ cap2) (hnil2 : q2 = none → ms = [] ∧ cap2 = 0) :
    Calls Try.prog 4 #[.slice q l.length cap, .slice q2 ms.length cap2] w fun e w' => e = .returned (.bool true) ∧ Below w.heap.size w w' := by
  obtain ⟨i0, hi0, hz0, hz1, hz2⟩ := info_parts Try.infoU64
  have lA : (l.take 50).length ≤ 9223372036854775807 := by rw [List.length_take]; omega
  have ho := fun w h => own_any q cap l w h hl hc hnil
  generalize l.take 50 = A at *
  have lB : (ms.take 50).length = min ms.length 50 := by rw [List.length_take]; omega
  have HGB : Hid (∀ i (hi : i < (ms.take 50).length) (hj : i < ms.length), (ms.take 50)[i] = ms[i]) := fun i hi hj => List.getElem_take
  have h2B := h2.take 50
  have e50 : (min (0 : Int) 50).toNat = 0 := by decide
  go_enter Try.func4, Try.ntmps4
  go_upto_region 2 with fail
  go_cut [5] from 8 to 14 (fun s5 wx => ∃ (p : Option Addr) (c : Nat), s5 = .slice p (ms.take 50).length c ∧ UArg wx p (ms.take 50) ∧ Below w.heap.size w wx)
  case first =>
    clear ho h hl hc hnil lA
    by_cases h0 : 0 < ms.length
    · generalize ms.take 50 = B at *
      obtain ⟨n, hn⟩ : ∃ n, n = B.length := ⟨_, rfl⟩
      have e1 : min (ms.length : Int) 50 = (n : Int) := by omega
      have hnc : (n : Int) ≤ (cap2 : Int) := by omega
      have hnp : 0 < n := by omega
      obtain ⟨b, off, rfl, hr⟩ := h2B (by omega)
      have HNW : Hid _ := hr.news
      have hown0 : w.ownsRow w.heap.size 32 1 (.slice none 0 0) 0 [] := ⟨rfl, .inl ⟨rfl, rfl⟩⟩
      have y2 : Hid ((ucells B).length = n * 1) := by show _ = _; unfold ucells; rw [List.length_map, Nat.mul_one, hn]
      have y3 : Hid (0 + n ≤ maxLen) := by show _ ≤ _; unfold maxLen; omega
      have y4 : Hid ((0 + n) * 8 ≤ 140737488355328) := by show _ ≤ _; omega
      have HN : Hid _ := hn
      clear hr hn hnil2 h2 h2B HGB lB
      go_wp2_with (at_builtin; refine wpList_append_own _ rfl _ _ 31 rfl w.heap.size 32 i0 (.int .u64 0) 1 8 Try.underlying31 hi0 hz0 hz1 hz2 rfl (by decide) _ _ [] rfl hown0 ⟨b, off, none⟩ n cap2 (ucells B) rfl y2.out HNW.out (ucells_one _) y3.out y4.out (Nat.le_refl _) ?_)
      intro v5 w5 hown5' hgr5 _
      have hown5 : w5.ownsRow w.heap.size 32 1 v5 n (ucells B) := by simpa using hown5'
      clear hown5'
      have hb5 : Below w.heap.size w w5 := (Below.refl _ _).grown hgr5 (Nat.le_refl _) (fun k hk => by cases hk)
      obtain ⟨_, p5, c5, rfl, hI5⟩ := own_uarg hown5
      go_wp2
      go_meet
      case rel => exact ⟨p5, c5, rfl, hI5, hb5⟩
    · have hl0 : ms = [] := List.eq_nil_of_length_eq_zero (by omega)
      subst hl0
      clear h2 hl2 hc2 hnil2 HGB lB h2B
      cases q2 with
      | none =>
        go_wp2
        go_meet
        case rel => exact ⟨none, 0, rfl, fun h => absurd h (by simp), Below.refl _ _⟩
      | some a =>
        go_wp2
        go_meet
        case rel => exact ⟨none, 0, rfl, fun h => absurd h (by simp), Below.refl _ _⟩
  case rest =>
  obtain ⟨p, c, rfl, hU, hbc⟩ := hcut
  have lB2 : (ms.take 50).length ≤ 50 := by omega
  have lB3 : (ms.take 50).length ≤ ms.length := by omega
  clear h2B lB e50
  generalize ms.take 50 = B at *
  go_wp2_with fail
  refine (ho wc (h.below hbc)).mono ?_
  rintro e w1 ⟨v, rfl, hown, hb1⟩
  obtain ⟨_, p1, c1, rfl, hI1⟩ := own_iarg hown
  have hB1 := below2 hbc hb1
  have hU := hU.below hb1
  clear hown hb1 hbc
  go_wp2_with fail
  refine (Commit_any p1 c1 A p c B w1 hI1 lA hU).mono ?_
  rintro e w2 ⟨⟨k, rfl, hk0, hk1⟩, hb2⟩
  have HK0 : Hid _ := hk0
  have HK1 : Hid _ := hk1
  have hB2 := below2 hB1 hb2
  have hU := hU.below hb2
  clear hb2 hB1 hk0 hk1 hI1
  go_wp2
  go_loopw [7] (fun s7 wr => ∃ i : Nat, s7 = .int .i64 (i : Int) ∧ i ≤ B.length ∧ Below w2.heap.size w2 wr) (fun s7 _ => B.length - (intOf s7).toNat)
  case atStart => exact ⟨0, rfl, Nat.zero_le _, Below.refl _ _⟩
  case round =>
    obtain ⟨i, rfl, hil, hbr⟩ := hrel
    by_cases hlt : i < B.length
    · have hi1 : (i : Int) < (B.length : Int) := by omega
      have hi2 : (i : Int) < (ms.length : Int) := by omega
      have hi3 : i < ms.length := by omega
      have hUr := hU.below hbr
      have hMr := (h2.below hB2).below hbr
      obtain ⟨g, off, rfl, hr⟩ := hUr (by omega)
      obtain ⟨g2, off2, rfl, hr2⟩ := hMr (by omega)
      have c0 := hr i hlt
      have c1' := hr2 i hi3
      rw [← HGB.out i hlt hi3] at c1'
      obtain ⟨z, hz⟩ : ∃ z, z = B[i] := ⟨_, rfl⟩
      rw [← hz] at c0 c1'
      have hbx := fun n => bel_drewN hbr n
      clear hz hr hr2
      go_wp2
      go_quiet (fail)
      go_wp2
      go_roundw
      case rel => exact ⟨i + 1, by go_num, by omega, hbx _⟩
      case measure => simp [intOf]; omega
    · obtain rfl : i = B.length := by omega
      have hB3 := below2 hB2 hbr
      have hU := hU.below hbr
      have c9 : ¬ (B.length : Int) < (B.length : Int) := by omega
      clear hB2 hbr h2
      go_wp2_with fail
      refine (ho wr (h.below hB3)).mono ?_
      rintro e w3 ⟨v, rfl, hown, hb3⟩
      obtain ⟨_, p3, c3, rfl, hI3⟩ := own_iarg hown
      have hB4 := below2 hB3 hb3
      have hU := hU.below hb3
      clear hown hb3 hB3 ho
      go_wp2_with fail
      refine (RCommit_any p3 c3 A p c B w3 hI3 lA hU (by omega)).mono ?_
      rintro e w4 ⟨⟨k2, rfl, hk0, hk1⟩, hb4⟩
      have hB5 := below2 hB4 hb4
      have hkk : k2 = k := by
        cases hck : chk A with
        | false => rw [hk0 hck, HK0.out hck]
        | true => exact (hk1 hck).eq (HK1.out hck)
      subst hkk
      clear hk0 hk1 HK0 HK1 hb4 hB4
      go_wp2_with fail
      refine (works_any w4).mono ?_
      rintro e w5 ⟨rfl, hb⟩
      have hB6 := below2 hB5 hb
      go_wp2
      go_ret
      exact ⟨rfl, hB6⟩

end Go.Proofs.Ytdoiknfpgmglaaa
