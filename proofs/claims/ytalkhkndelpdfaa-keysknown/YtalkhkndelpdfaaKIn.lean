/-
  The contract of keys.inOrder: the ranges that may be, by rising Low, in a row of its own.
-/
import Derived.Test.YtalkhkndelpdfaaKRow
import Derived.Test.YtalkhkndelpdfaaKWorks
namespace Go.Proofs.Ytalkhkndelpdfaa
open Go.RowKit
attribute [local go_sem] size_bstr toList_bstr ls_def

theorem Try.infoRng : (Try.prog.info? 26).map (fun i => (i.zero, i.size, i.bytes)) = some (some (.agg #[.string ⟨#[]⟩, .string ⟨#[]⟩]), 2, 32) := by kernel_rfl
theorem info_parts {x : Option TypeInfo} {z : Value} {a b : Nat} (h : x.map (fun i => (i.zero, i.size, i.bytes)) = some (some z, a, b)) : ∃ i, x = some i ∧ i.zero = some z ∧ i.size = a ∧ i.bytes = b := by
  cases x with
  | none => simp at h
  | some i => simp at h; exact ⟨i, rfl, h.1, h.2.1, h.2.2⟩
theorem own_below {w w' : World} {B e size n : Nat} {v : Value} {xs : List Value} (h : w.ownsRow B e size v n xs) (hb : Below w.heap.size w w') : w'.ownsRow B e size v n xs := by
  rcases h.2 with h0 | ⟨g, cap, cur, hv, hbg, hg, hnc, hcm, hcs, htake⟩
  · exact ⟨h.1, .inl h0⟩
  · have hlt : g < w.heap.size := by
      by_cases hl : g < w.heap.size
      · exact hl
      · rw [Array.getElem?_eq_none (Nat.le_of_not_lt hl)] at hg
        exact absurd hg (by simp)
    exact ⟨h.1, .inr ⟨g, cap, cur, hv, hbg, (hb.block g hlt).trans hg, hnc, hcm, hcs, htake⟩⟩

/-- Those of the first i that may be. -/
def mays (rs : List Rg) (i : Nat) : List Rg := (rs.take i).filter fun r => mayB r.1 r.2
theorem mays_yes {rs : List Rg} {i : Nat} (hi : i < rs.length) (h : mayB (rs[i]).1 (rs[i]).2 = true) : mays rs (i + 1) = mays rs i ++ [rs[i]] := by
  unfold mays
  rw [List.take_succ_eq_append_getElem hi, List.filter_append]
  simp [h]
theorem mays_no {rs : List Rg} {i : Nat} (hi : i < rs.length) (h : mayB (rs[i]).1 (rs[i]).2 = false) : mays rs (i + 1) = mays rs i := by
  unfold mays
  rw [List.take_succ_eq_append_getElem hi, List.filter_append]
  simp [h]
theorem mays_len (rs : List Rg) (i : Nat) : (mays rs i).length ≤ rs.length := Nat.le_trans (List.length_filter_le _ _) (by simp; omega)
theorem mays_all (rs : List Rg) : mays rs rs.length = rs.filter fun r => mayB r.1 r.2 := by unfold mays; rw [List.take_length]
theorem sorted_of {rs ss : List Rg} (hp : ss.Perm (rs.filter fun r => mayB r.1 r.2)) (ha : ∀ i j (hj : j < ss.length) (hi : i < j), ls (ss[j]).1 (ss[i]'(by omega)).1 = false) : Sorted rs ss := by
  refine ⟨fun r hr => ?_, fun r hr hm => ?_, ha⟩
  · have := hp.mem_iff.1 hr
    simpa using this
  · exact hp.mem_iff.2 (by simpa using ⟨hr, hm⟩)

set_option maxHeartbeats 4000000 in
set_option maxRecDepth 100000 in
theorem inOrder_any (q : Option Addr) (b off cap : Nat) (rs : List Rg) (w : World) (hq : 0 < rs.length → q = some ⟨b, off, none⟩ ∧ RowAt w b off rs ∧ b < w.heap.size) (hn : rs.length ≤ 1000000) :
    Calls Try.prog 15 #[.slice q rs.length cap] w fun e w' => ∃ (ss : List Rg) (p : Option Addr) (g c : Nat), e = .returned (.slice p ss.length c) ∧ Sorted rs ss ∧ ss.length ≤ rs.length ∧ ss.length ≤ c ∧ c ≤ maxLen ∧ (0 < ss.length → p = some ⟨g, 0, none⟩ ∧ w.heap.size ≤ g ∧ g < w'.heap.size ∧ RowAt w' g 0 ss) ∧ Below w.heap.size w w' := by
  obtain ⟨i0, hi, hz0, hz1, hz2⟩ := info_parts Try.infoRng
  go_enter Try.func15, Try.ntmps15
  go_wp2
  go_loopw [3, 8] (fun s3 s8 wr => ∃ i : Nat, s8 = .int .i64 (i : Int) ∧ i ≤ rs.length ∧ wr.ownsRow w.heap.size 26 2 s3 (mays rs i).length (rcells (mays rs i)) ∧ Below w.heap.size w wr) (fun _ s8 _ => rs.length - (intOf s8).toNat)
  case atStart => exact ⟨0, rfl, by omega, ⟨rfl, .inl ⟨rfl, rfl⟩⟩, Below.refl _ _⟩
  case round =>
    obtain ⟨i, rfl, hil, hown, hbel⟩ := hrel
    by_cases hlt : i < rs.length
    · obtain ⟨rfl, hR, hbl⟩ := hq (by omega)
      have hRr := hR.step hbel hbl
      obtain ⟨c0, c1⟩ := hRr i hlt
      have hck := Check_any (rs[i]).1 (rs[i]).2
      have hlen := mays_len rs i
      have hbr : b < _ := Nat.lt_of_lt_of_le hbl hbel.size
      cases hm : mayB (rs[i]).1 (rs[i]).2 with
      | true =>
        have HM : Hid _ := mays_yes hlt hm
        rw [hm, if_pos rfl] at hck
        clear hRr hm
        generalize rs[i] = r at *
        obtain ⟨lo, hi2⟩ := r
        simp only at c0 c1 hck
        go_wp2_with fail
        refine (hck _).mono ?_
        rintro e w1 ⟨rfl, hb1⟩
        have ra := (RngAt.new wr 26 lo hi2).step hb1
        have hbw : Below wr.heap.size wr w1 := below2 ((Below.refl _ _).alloc (Nat.le_refl _) _) hb1
        have hown2 := own_below hown hbw
        have hbe : Below w.heap.size w w1 := below2 hbel hbw
        obtain ⟨a0, a1⟩ := ra
        clear hb1 hown hbw c0 c1
        go_wp2_with (at_builtin; refine wpList_append_own _ rfl _ _ 34 rfl w.heap.size 26 i0 (.agg #[.string ⟨#[]⟩, .string ⟨#[]⟩]) 2 32 Try.underlying34 hi hz0 hz1 hz2 rfl (by decide) _ _ _ rfl (hown2.alloc _) ⟨w1.heap.size, 0, none⟩ 1 1 [.string (bstr lo), .string (bstr hi2)] rfl rfl ?c1 ?c2 ?c3 ?c4 ?c5 ?_)
        case c1 =>
          intro j u hj
          match j, hj with
          | 0, hj => simp at hj; subst hj; simp [Addr.add]
          | 1, hj => simp at hj; subst hj; simp [Addr.add]
        case c2 => intro u hu; simp at hu; rcases hu with rfl | rfl <;> rfl
        case c3 => unfold maxLen; omega
        case c4 => omega
        case c5 => have := hbe.size; simp; omega
        intro v' w3 hown3 hgrow _
        have hbw3 : Below w.heap.size w w3 := (hbe.alloc hbe.size _).grown hgrow (by have := hbe.size; simp; omega) (fun k hk => (hown2.lt k hk).1)
        have hown4 : w3.ownsRow w.heap.size 26 2 v' (mays rs (i + 1)).length (rcells (mays rs (i + 1))) := by
          rw [HM.out, List.length_append, rcells_append]
          exact hown3
        clear hown2 hown3 hgrow
        go_wp2
        go_roundw
        case rel => exact ⟨i + 1, by go_num, by omega, hown4, hbw3⟩
        case measure => simp [intOf]; omega
      | false =>
        have HM : Hid _ := mays_no hlt hm
        rw [hm, if_neg (by simp)] at hck
        clear hRr hm
        generalize rs[i] = r at *
        obtain ⟨lo, hi2⟩ := r
        simp only at c0 c1 hck
        go_wp2_with fail
        refine (hck _).mono ?_
        rintro e w1 ⟨rfl, hb1⟩
        have hbw : Below wr.heap.size wr w1 := below2 ((Below.refl _ _).alloc (Nat.le_refl _) _) hb1
        have hown2 := own_below hown hbw
        have hbe : Below w.heap.size w w1 := below2 hbel hbw
        clear hb1 hown hbw c0 c1
        go_wp2
        go_roundw
        case rel => exact ⟨i + 1, by go_num, by omega, by rw [HM.out]; exact hown2, hbe⟩
        case measure => simp [intOf]; omega
    · have hie : i = rs.length := by omega
      subst hie
      rw [mays_all] at hown
      by_cases hne : (rs.filter fun r => mayB r.1 r.2) = []
      · have hv := hown.2
        rw [hne] at hv hown
        obtain ⟨p, c, rfl, hcm⟩ : ∃ p c, u3 = .slice p 0 c ∧ c ≤ maxLen := by
          rcases hv with ⟨rfl, _⟩ | ⟨g, cap, cur, rfl, _, _, _, hc, _⟩
          · exact ⟨_, _, rfl, Nat.zero_le _⟩
          · exact ⟨_, _, rfl, hc⟩
        have hS : Sorted rs [] := sorted_of (by rw [hne]) (fun i j hj => by simp at hj)
        have HS : Hid _ := hS
        clear hS hv hown hne
        go_wp2_with fail
        refine (Sort_none p c _ _).mono ?_
        rintro e w1 ⟨rfl, rfl⟩
        go_wp2
        go_ret
        exact ⟨[], p, 0, c, rfl, HS.out, by simp, Nat.zero_le _, hcm, fun h => absurd h (by simp), hbel⟩
      · obtain ⟨g, c, rfl, hg1, hg2, hgc, hcm, hrow, hfz⟩ := own_row hown hne
        have hfl : (rs.filter fun r => mayB r.1 r.2).length ≤ rs.length := List.length_filter_le _ _
        have hso := Sort_any w.heap.size g c _ wr hrow hfz hg2 hg1 (by omega)
        generalize hfe : (rs.filter fun r => mayB r.1 r.2) = fs at *
        have HF : Hid _ := hfe
        clear hfe hown hne hrow hfz
        go_wp2_with fail
        refine hso.mono ?_
        rintro e w1 ⟨rfl, ss, hp, hasc, hrow2, hb2⟩
        clear hso
        have hsl := hp.length_eq
        have hS : Hid (Sorted rs ss) := sorted_of (by rw [HF.out]; exact hp) hasc
        have hbe := hbel.trans hb2
        have hz := hb2.size
        clear hp hasc hb2 hbel
        go_wp2
        go_ret
        exact ⟨ss, _, g, c, by rw [hsl]; rfl, hS.out, by omega, by omega, hcm, fun _ => ⟨rfl, hg1, by omega, hrow2⟩, hbe⟩

end Go.Proofs.Ytalkhkndelpdfaa
