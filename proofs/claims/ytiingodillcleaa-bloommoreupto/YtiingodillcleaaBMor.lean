/-
  BloomMore, walked.
-/
import Derived.Test.YtiingodillcleaaBNev
namespace Go.Proofs.Ytiingodillcleaa
open Go.RowKit
attribute [local go_sem] size_bstr getElem_bstr toList_bstr

theorem sCells_set (ps : List (List UInt8)) (k : Nat) (s : List UInt8) : (sCells ps).set k (.string (bstr s)) = sCells (ps.set k s) := by simp [sCells, List.map_set]

set_option maxHeartbeats 4000000 in
set_option maxRecDepth 100000 in
theorem More_any (q : Option Addr) (g off cap : Nat) (l : List (List UInt8)) (bt pos : Int) (w : World) (hq : SArg w q g off l) (hl : l.length ≤ 9223372036854775807) (hls : ∀ s ∈ l, s.length ≤ 9223372036854775807) :
    Calls Try.prog 6 #[.slice q l.length cap, .int .i64 bt, .int .i64 pos] w fun e w' => e = .returned (.bool true) ∧ Below w.heap.size w w' := by
  obtain ⟨i0, hi0, hz0, hz1, hz2⟩ := info_parts Try.infoStr
  have hcu := cut_any q g off cap l w hq hl hls
  obtain ⟨r0, hr0, er0⟩ := mod_fact bt 32 (by decide) (by decide)
  obtain ⟨nb, hnb1, hnb2, enb⟩ : ∃ nb : Nat, 1 ≤ nb ∧ nb ≤ 32 ∧ 1 + (r0 : Int) = (nb : Int) := ⟨1 + r0, by omega, by omega, by omega⟩
  have er1 : (wrap64 (bt.tmod 32 + 32)).tmod 32 = (r0 : Int) := er0
  clear er0
  go_enter Try.func6, Try.ntmps6
  go_wp2_with fail
  refine hcu.mono ?_
  rintro e w1 ⟨v, rfl, hown, hbw1⟩
  obtain ⟨_, p1, cap1, g1, rfl, hc1, hs1⟩ := own_sarg hown
  have hk200 := cutK_length l
  have hsho : Hid (∀ s ∈ cutK l, s.length ≤ 9223372036854775807) := fun s hs => cutK_short hs
  generalize cutK l = ks at *
  clear hcu hown
  by_cases hz : ks.length = 0
  · have hwk := works9_any w1
    have hzi : (ks.length : Int) = 0 := by omega
    go_wp2_with fail
    refine hwk.mono ?_
    rintro e w5 ⟨rfl, hb5⟩
    go_wp2
    go_ret
    exact ⟨rfl, below2 hbw1 hb5⟩
  · have hzi : ¬ (ks.length : Int) = 0 := by omega
    obtain ⟨rfl, hS, hg⟩ := hs1 (by omega)
    obtain ⟨k, hk, ek⟩ := mod_fact pos ks.length (by omega) (by omega)
    have hnil : w1.ownsRow w1.heap.size 9 1 (.slice none 0 0) 0 [] := ⟨rfl, .inl ⟨rfl, rfl⟩⟩
    have hn1 : ∀ j u, (sCells ks)[j]? = some u → w1.cell? ((⟨g1, 0, none⟩ : Addr).add j) = some u := fun j u hj => news_of (k := 0) hS (by rw [List.drop_zero]; exact hj)
    have y2 : Hid ((sCells ks).length = ks.length * 1) := by show _ = _; rw [sCells_length, Nat.mul_one]
    have y3 : Hid (0 + ks.length ≤ maxLen) := by show _ ≤ _; unfold maxLen; omega
    have y4 : Hid ((0 + ks.length) * 16 ≤ 140737488355328) := by show _ ≤ _; omega
    go_wp2_with (at_builtin; refine wpList_append_own _ rfl _ _ 22 rfl w1.heap.size 9 i0 (.string .empty) 1 16 Try.underlying22 hi0 hz0 hz1 hz2 rfl (by decide) _ _ [] rfl hnil ⟨g1, 0, none⟩ ks.length cap1 (sCells ks) rfl y2.out hn1 sCells_one y3.out y4.out (Nat.le_refl _) ?_)
    intro v5 w5 hown5' hgr5 _
    have hown5 : w5.ownsRow w1.heap.size 9 1 v5 ks.length (sCells ks) := by simpa using hown5'
    clear hown5'
    have hb5 : Below w1.heap.size w1 w5 := (Below.refl _ _).grown hgr5 (Nat.le_refl _) (fun k hk => by cases hk)
    have hS5 := hS.block (hb5.block g1 hg)
    rcases hown5.2 with ⟨_, e0⟩ | ⟨g5, cap5, cur5, rfl, hbg5, hg5, hnc5, hcm5, hcs5, htk5⟩
    · exact absurd e0 hz
    have c0 := hS5 0 (by omega)
    simp only [Nat.zero_add] at c0
    have ck := hown5.cells (g := g5) rfl k (.string (bstr ks[k])) (by simp [sCells, hk])
    rw [Addr.add_lit] at ck
    simp only [Nat.zero_add] at ck
    have fk : w5.frozen? ⟨g5, k, none⟩ = false := (cells_block hg5).2 k
    clear hn1 hgr5 hnil
    obtain ⟨js, hjs⟩ : ∃ js, js = ks.set k ks[0] := ⟨_, rfl⟩
    have hjl : js.length = ks.length := by rw [hjs, List.length_set]
    have hjm : ∀ s, s ∈ js → s ∈ ks := fun s hs => by
      rw [hjs] at hs
      rcases List.mem_or_eq_of_mem_set hs with h | h
      · exact h
      · rw [h]; exact List.getElem_mem _
    have hset := heap_set_same hg5 (o := k) (.string (bstr ks[0]))
    have hlt5 : g5 < w5.heap.size := blk_lt hg5
    have hS6 : StrsAt (w5.setCell ⟨g5, k, none⟩ (.string (bstr ks[0]))) g1 0 ks := hS5.block (heap_set_other _ (by omega))
    have hF6 : StrsAt (w5.setCell ⟨g5, k, none⟩ (.string (bstr ks[0]))) g5 0 js := by
      intro j hj
      rw [hjl] at hj
      have hcj := hown5.cells (g := g5) rfl j (.string (bstr ks[j])) (by simp [sCells, hj])
      rw [Addr.add_lit, Nat.zero_add, (cells_block hg5).1 j] at hcj
      rw [Nat.zero_add, (cells_block hset).1 j, Array.getElem?_setIfInBounds]
      by_cases e : k = j
      · subst e
        rw [if_pos rfl, if_pos (Array.getElem?_eq_some_iff.1 hcj).1]
        simp [hjs]
      · rw [if_neg e, hcj]
        simp [hjs, e]
    have hb6 : Below w1.heap.size w1 (w5.setCell ⟨g5, k, none⟩ (.string (bstr ks[0]))) := below_set0 hb5 hbg5 _
    have hsz6 : g5 < (w5.setCell ⟨g5, k, none⟩ (.string (bstr ks[0]))).heap.size := blk_lt hset
    have hsz1 : g1 < (w5.setCell ⟨g5, k, none⟩ (.string (bstr ks[0]))).heap.size := Nat.lt_of_lt_of_le hg hb6.size
    go_wp2_with fail
    generalize w5.setCell ⟨g5, k, none⟩ (.string (bstr ks[0])) = w6 at *
    have hmk1 := Make_ok (some ⟨g1, 0, none⟩) g1 0 cap1 ks nb w6 (fun _ => ⟨rfl, hS6, hsz1⟩) hnb1 hnb2 (by omega) hsho.out
    have hA6 : SArg w6 (some ⟨g5, 0, none⟩) g5 0 js := fun _ => ⟨rfl, hF6, hsz6⟩
    have HSB : Hid (∀ (i : Nat) (h1 : i < (mkF js nb).length) (h2 : i < (mkF ks nb).length), 0 < i → (mkF js nb)[i].toNat &&& (255 - (mkF ks nb)[i].toNat) = 0) := fun i h1 h2 h => mkF_sub nb hjl hjm h1 h2 h
    have hl1 : (mkF ks nb).length = 1 + szz nb ks.length := mkF_length ks nb
    have hl2 : (mkF js nb).length = 1 + szz nb ks.length := by rw [mkF_length, hjl]
    have hmk2 := fun w7 (h : Below w6.heap.size w6 w7) => Make_ok (some ⟨g5, 0, none⟩) g5 0 cap5 js nb w7 (hA6.below h) hnb1 hnb2 (by rw [hjl]; omega) (fun s hs => hsho.out s (hjm s hs))
    rw [hjl] at hmk2
    have hbe6 := below2 hbw1 hb6
    have HFG : Hid (∃ kb fa fb, mkF ks nb = kb :: fa ∧ mkF js nb = kb :: fb) := ⟨_, _, _, rfl, rfl⟩
    clear hS6 hF6 hsz6 hsz1 hset hg5 hown5 hS5 ck c0 fk hb6 hA6 hjm hjl hS hb5 hlt5
    have HZ : Hid (szz nb ks.length ≤ 131072) := szz_le hnb2 (by omega)
    generalize szz nb ks.length = z at *
    generalize mkF ks nb = FF at *
    generalize mkF js nb = GG at *
    refine hmk1.mono ?_
    rintro e w7 ⟨rfl, hb7⟩
    clear hmk1
    have hmk3 := hmk2 w7 hb7
    clear hmk2
    go_wp2_with fail
    refine hmk3.mono ?_
    rintro e w8 ⟨rfl, hb8⟩
    have hbe8 := below2 (below2 hbe6 hb7) hb8
    clear hmk3 hb7 hb8 hbe6
    obtain ⟨kb, fa, fb, rfl, rfl⟩ := HFG.out
    have hla : fa.length = z := by rw [List.length_cons] at hl1; omega
    have hlb : fb.length = z := by rw [List.length_cons] at hl2; omega
    have hzz : z ≤ 131072 := HZ.out
    have HL1 : Hid _ := hl1
    have HL2 : Hid _ := hl2
    clear hl1 hl2
    have g1 : ¬ ((z : Int) + 1 = 0) := by omega
    go_wp2_with fail
    go_quiet (fail)
    go_wp2_with fail
    go_loopw [15] (fun s15 wr => ∃ i : Nat, s15 = .int .i64 (i : Int) ∧ 1 ≤ i ∧ i ≤ z + 1 ∧ Below w.heap.size w wr) (fun s15 _ => z + 1 - (intOf s15).toNat)
    case atStart => exact ⟨1, rfl, by omega, by omega, ⟨hbe8.os, hbe8.tape, hbe8.output, hbe8.size, hbe8.block⟩⟩
    case round =>
      obtain ⟨i, rfl, hi1, hiz, hbel⟩ := hrel
      by_cases hlt : i < z + 1
      · have c1 : (i : Int) < (z : Int) + 1 := by omega
        have ha : i < (kb :: fa).length := by rw [List.length_cons, hla]; exact hlt
        have hb : i < (kb :: fb).length := by rw [List.length_cons, hlb]; exact hlt
        have hbt : bits .andNot .u8 ((((kb :: fb)[i]'hb).toNat : Nat) : Int) ((((kb :: fa)[i]'ha).toNat : Nat) : Int) = 0 := by
          rw [u8_andNot_nat _ _ ((kb :: fb)[i]'hb).toNat_lt ((kb :: fa)[i]'ha).toNat_lt, HSB.out i hb ha (by omega)]
          rfl
        clear hbe8
        go_wp2_with fail
        go_region
        go_wp2
        go_roundw
        case rel => exact ⟨i + 1, by go_num, by omega, by omega, hbel.drew⟩
        case measure => simp [intOf]; omega
      · have c1 : ¬ (i : Int) < (z : Int) + 1 := by omega
        have hwk := works9_any wr
        go_wp2_with fail
        refine hwk.mono ?_
        rintro e w9 ⟨rfl, hb9⟩
        go_wp2
        go_ret
        exact ⟨rfl, below2 hbel hb9⟩

end Go.Proofs.Ytiingodillcleaa
