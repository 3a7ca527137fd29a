/-
  BloomNever, walked.
-/
import Derived.Test.YtiingodillcleaaBCut
namespace Go.Proofs.Ytiingodillcleaa
open Go.RowKit
attribute [local go_sem] size_bstr getElem_bstr toList_bstr

/-- '(x%m + m)%m'. -/
theorem mod_fact (x : Int) (m : Nat) (hm : 0 < m) (hm2 : m ≤ 1000000) : ∃ r : Nat, r < m ∧ (wrap64 (x.tmod (m : Int) + (m : Int))).tmod (m : Int) = (r : Int) := by
  have h1 : x.tmod (m : Int) < (m : Int) := Int.tmod_lt_of_pos x (by omega)
  have h2 : -(m : Int) < x.tmod (m : Int) := Int.lt_tmod_of_pos x (by omega)
  generalize x.tmod (m : Int) = y at *
  have e : wrap64 (y + (m : Int)) = y + (m : Int) := by unfold wrap64; omega
  rw [e]
  have h3 := Int.tmod_eq_emod_of_nonneg (a := y + (m : Int)) (b := (m : Int)) (by omega)
  rw [h3]
  have h4 := Int.emod_nonneg (y + (m : Int)) (b := (m : Int)) (by omega)
  have h5 := Int.emod_lt_of_pos (y + (m : Int)) (b := (m : Int)) (by omega)
  exact ⟨((y + (m : Int)) % (m : Int)).toNat, by omega, by omega⟩

theorem news_of {w : World} {g k : Nat} {ks : List (List UInt8)} (h : StrsAt w g 0 ks) {j : Nat} {u : Value} (hj : (sCells (ks.drop k))[j]? = some u) : w.cell? ((⟨g, k, none⟩ : Addr).add j) = some u := by
  rw [Addr.add_lit]
  unfold sCells at hj
  rw [List.getElem?_map, List.getElem?_drop] at hj
  obtain ⟨s, hs, rfl⟩ := Option.map_eq_some_iff.1 hj
  obtain ⟨hl, rfl⟩ := List.getElem?_eq_some_iff.1 hs
  have := h (k + j) hl
  rwa [Nat.zero_add] at this
theorem news_of0 {w : World} {g k : Nat} {ks : List (List UInt8)} (h : StrsAt w g 0 ks) {j : Nat} {u : Value} (hj : (sCells (ks.take k))[j]? = some u) : w.cell? ((⟨g, 0, none⟩ : Addr).add j) = some u := by
  refine news_of (k := 0) h (j := j) ?_
  unfold sCells at hj ⊢
  rw [List.getElem?_map] at hj ⊢
  obtain ⟨s, hs, rfl⟩ := Option.map_eq_some_iff.1 hj
  rw [List.drop_zero, List.getElem?_eq_some_iff.2]
  · rfl
  · obtain ⟨hl, hh⟩ := List.getElem?_eq_some_iff.1 hs
    rw [List.getElem_take] at hh
    exact ⟨_, hh⟩

set_option maxHeartbeats 4000000 in
set_option maxRecDepth 100000 in
theorem Never_any (q : Option Addr) (g off cap : Nat) (l : List (List UInt8)) (bits turn : Int) (w : World) (hq : SArg w q g off l) (hl : l.length ≤ 9223372036854775807) (hls : ∀ s ∈ l, s.length ≤ 9223372036854775807) :
    Calls Try.prog 5 #[.slice q l.length cap, .int .i64 bits, .int .i64 turn] w fun e w' => e = .returned (.bool true) ∧ Below w.heap.size w w' := by
  obtain ⟨i0, hi0, hz0, hz1, hz2⟩ := info_parts Try.infoStr
  have hcu := cut_any q g off cap l w hq hl hls
  obtain ⟨r0, hr0, er0⟩ := mod_fact bits 32 (by decide) (by decide)
  obtain ⟨nb, hnb1, hnb2, enb⟩ : ∃ nb : Nat, 1 ≤ nb ∧ nb ≤ 32 ∧ 1 + (r0 : Int) = (nb : Int) := ⟨1 + r0, by omega, by omega, by omega⟩
  have er1 : (wrap64 (bits.tmod 32 + 32)).tmod 32 = (r0 : Int) := er0
  have HE : Hid _ := er0
  clear er0
  go_enter Try.func5, Try.ntmps5
  go_wp2_with fail
  refine hcu.mono ?_
  rintro e w1 ⟨v, rfl, hown, hbw1⟩
  obtain ⟨_, p1, cap1, g1, rfl, hc1, hs1⟩ := own_sarg hown
  have hk200 := cutK_length l
  have hsho : ∀ s ∈ cutK l, s.length ≤ 9223372036854775807 := fun s hs => cutK_short hs
  generalize cutK l = ks at *
  have hmk := Make_ok p1 g1 0 cap1 ks nb w1 hs1 hnb1 hnb2 (by omega) hsho
  have hFl : (mkF ks nb).length ≤ 9223372036854775807 := by rw [mkF_length]; have := szz_le (n := ks.length) hnb2 (by omega); omega
  have hisF : ckE (mkF ks nb) = 0 := by unfold ckE; rw [isF_mk hnb2 (by omega)]; rfl
  have hHas : ∀ s ∈ ks, hasF (mkF ks nb) s = true := fun s hs => hasF_mk hs
  have HSM : Hid (∀ js : List (List UInt8), js.length = ks.length → (∀ s, s ∈ js ↔ s ∈ ks) → mkF js nb = mkF ks nb) := fun js h1 h2 => mkF_same nb h1 h2
  have HHas : Hid _ := hHas
  have HisF : Hid _ := hisF
  have HFl : Hid _ := hFl
  have Hsho : Hid _ := hsho
  clear hcu hHas hisF hFl hsho
  generalize mkF ks nb = FF at *
  go_wp2_with fail
  refine hmk.mono ?_
  rintro e w2 ⟨rfl, hbw2⟩
  have hbe2 := below2 hbw1 hbw2
  have hs2 := hs1.below hbw2
  have hck := Check_any FF w2 HFl.out
  rw [HisF.out] at hck
  have hown2 : w2.ownsRow w.heap.size 9 1 (.slice p1 ks.length cap1) ks.length (sCells ks) := own_below hown hbw2
  clear hmk hown hs1 hbw1 hbw2
  go_wp2_with fail
  refine hck.mono ?_
  rintro e w3 ⟨rfl, rfl⟩
  clear hck
  go_wp2_with fail
  go_loopw [11] (fun s11 wr => ∃ i : Nat, s11 = .int .i64 (i : Int) ∧ i ≤ ks.length ∧ Below w3.heap.size w3 wr) (fun s11 _ => ks.length - (intOf s11).toNat)
  case atStart => exact ⟨0, rfl, Nat.zero_le _, Below.refl _ _⟩
  case round =>
    obtain ⟨i, rfl, hil, hbel⟩ := hrel
    have hs4 := hs2.below hbel
    by_cases hlt : i < ks.length
    · obtain ⟨rfl, hS, hg⟩ := hs4 (by omega)
      have cs := hS i hlt
      simp only [Nat.zero_add] at cs
      have hha := Has_any FF ks[i] wr HFl.out (Hsho.out _ (List.getElem_mem hlt))
      rw [HHas.out _ (List.getElem_mem hlt)] at hha
      have c1 : (i : Int) < (ks.length : Int) := by omega
      generalize ks[i] = s at *
      clear hS
      go_wp2_with fail
      refine hha.mono ?_
      rintro e w4 ⟨rfl, hb4⟩
      have hbe4 := below2 hbel hb4
      clear hha cs hb4 hbel
      go_wp2
      go_roundw
      case rel => exact ⟨i + 1, by go_num, by omega, hbe4⟩
      case measure => simp [intOf]; omega
    · have hbe5 := below2 hbe2 hbel
      have c1 : ¬ (i : Int) < (ks.length : Int) := by omega
      by_cases hz : ks.length = 0
      · have hwk := works9_any wr
        have hzi : (ks.length : Int) = 0 := by omega
        go_wp2_with fail
        refine hwk.mono ?_
        rintro e w5 ⟨rfl, hb5⟩
        go_wp2
        go_ret
        exact ⟨rfl, below2 hbe5 hb5⟩
      · have hzi : ¬ (ks.length : Int) = 0 := by omega
        obtain ⟨rfl, hS, hg⟩ := hs4 (by omega)
        obtain ⟨by0, hby, eby⟩ := mod_fact turn ks.length (by omega) (by omega)
        have hcap : ¬ cap1 = by0 := by omega
        have hn1 : ∀ j u, (sCells (ks.drop by0))[j]? = some u → wr.cell? ((⟨g1, by0, none⟩ : Addr).add j) = some u := fun j u hj => news_of hS hj
        have hsm := hbel.size
        have hnil : wr.ownsRow wr.heap.size 9 1 (.slice none 0 0) 0 [] := ⟨rfl, .inl ⟨rfl, rfl⟩⟩
        have y2 : Hid ((sCells (ks.drop by0)).length = (ks.length - by0) * 1) := by show _ = _; rw [sCells_length, List.length_drop, Nat.mul_one]
        have y3 : Hid (0 + (ks.length - by0) ≤ maxLen) := by show _ ≤ _; unfold maxLen; omega
        have y4 : Hid ((0 + (ks.length - by0)) * 16 ≤ 140737488355328) := by show _ ≤ _; omega
        have y5 : Hid ((sCells (ks.take by0)).length = by0 * 1) := by show _ = _; rw [sCells_length, List.length_take, Nat.mul_one]; omega
        have y6 : Hid (ks.length - by0 + by0 ≤ maxLen) := by show _ ≤ _; unfold maxLen; omega
        have y7 : Hid ((ks.length - by0 + by0) * 16 ≤ 140737488355328) := by show _ ≤ _; omega
        have HLT : Hid _ := hlt
        clear hlt
        go_wp2_with (at_builtin; refine wpList_append_own _ rfl _ _ 22 rfl wr.heap.size 9 i0 (.string .empty) 1 16 Try.underlying22 hi0 hz0 hz1 hz2 rfl (by decide) _ _ [] rfl hnil ⟨g1, by0, none⟩ (ks.length - by0) (cap1 - by0) (sCells (ks.drop by0)) rfl y2.out hn1 sCells_one y3.out y4.out (Nat.le_refl _) ?_)
        intro v5 w5 hown5' hgr5 _
        have hown5 : w5.ownsRow wr.heap.size 9 1 v5 (ks.length - by0) (sCells (ks.drop by0)) := by simpa using hown5'
        clear hown5'
        have hb5 : Below wr.heap.size wr w5 := (Below.refl _ _).grown hgr5 (Nat.le_refl _) (fun k hk => by cases hk)
        have hS5 := hS.block (hb5.block g1 hg)
        have hn2 : ∀ j u, (sCells (ks.take by0))[j]? = some u → w5.cell? ((⟨g1, 0, none⟩ : Addr).add j) = some u := fun j u hj => news_of0 hS5 hj
        clear hn1 hgr5 hS
        go_wp2_with (at_builtin; refine wpList_append_own _ rfl _ _ 22 rfl wr.heap.size 9 i0 (.string .empty) 1 16 Try.underlying22 hi0 hz0 hz1 hz2 rfl (by decide) _ _ _ rfl hown5 ⟨g1, 0, none⟩ by0 cap1 (sCells (ks.take by0)) rfl y5.out hn2 sCells_one y6.out y7.out hb5.size ?_)
        intro v6 w6 hown6 hgr6 _
        have hb6 : Below wr.heap.size wr w6 := hb5.grown hgr6 hb5.size (fun k hk => (hown5.lt k hk).1)
        have hown7 : w6.ownsRow wr.heap.size 9 1 v6 (ks.length - by0 + by0) (sCells (ks.drop by0 ++ ks.take by0)) := by
          rw [sCells_append]
          exact hown6
        obtain ⟨hnn, p7, cap7, g7, rfl, hc7, hs7⟩ := own_sarg hown7
        have hjl : (ks.drop by0 ++ ks.take by0).length = ks.length := by simp; omega
        have hjm : ∀ s, s ∈ ks.drop by0 ++ ks.take by0 ↔ s ∈ ks := fun s => by
          conv => rhs; rw [← List.take_append_drop by0 ks]
          rw [List.mem_append, List.mem_append]
          exact Or.comm
        have hmk := Make_ok p7 g7 0 cap7 (ks.drop by0 ++ ks.take by0) nb w6 hs7 hnb1 hnb2 (by rw [hjl]; omega) (fun s hs => Hsho.out s ((hjm s).1 hs))
        rw [HSM.out _ hjl hjm] at hmk
        clear hown5 hown6 hown7 hn2 hgr6 hS5 hs7 hjm hb5 hjl hnn hc7
        generalize ks.drop by0 ++ ks.take by0 = js at *
        go_wp2_with fail
        refine hmk.mono ?_
        rintro e w8 ⟨rfl, hb8⟩
        have hbe8 := below2 (below2 hbe5 hb6) hb8
        clear hmk hb8 hb6 hbe5
        have hwk := works9_any w8
        go_wp2_with fail
        refine hwk.mono ?_
        rintro e w9 ⟨rfl, hb9⟩
        go_wp2
        go_ret
        exact ⟨rfl, below2 hbe8 hb9⟩

end Go.Proofs.Ytiingodillcleaa
