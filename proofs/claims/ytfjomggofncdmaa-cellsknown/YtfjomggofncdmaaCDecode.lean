/-
  The contract of cells.Decode.
-/
import Derived.Test.YtfjomggofncdmaaCBackM
namespace Go.Proofs.Ytfjomggofncdmaa
open Go.RowKit Go.BigFrame Go.Sort
attribute [local go_sem] size_bstr toList_bstr ls_def

/-- A row stays where one block below its own changes. -/
theorem own_grown {w w' : World} {B e size n g : Nat} {v : Value} {xs : List Value} (h : w.ownsRow B e size v n xs) (hg : w.grownBy w' (some g)) (hB : g < B) : w'.ownsRow B e size v n xs := by
  rcases h.2 with h0 | ⟨g', cap, cur, hv, hbg, hg', r⟩
  · exact ⟨h.1, .inl h0⟩
  · exact ⟨h.1, .inr ⟨g', cap, cur, hv, hbg, (hg.block g' (lt_of_block hg') (fun e => by cases e; omega)).trans hg', r⟩⟩
theorem lay_pos (c : Cl) : 1 ≤ (layL c).length := by
  have := Lib.uvarint_pos c.row.length
  simp [layL, txt]
  omega

set_option maxHeartbeats 4000000 in
set_option maxRecDepth 100000 in
theorem Decode_any (s : List UInt8) (w : World) (hs : s.length ≤ 140737488355328) :
    Calls Try.prog 6 #[.string (bstr s)] w fun e w' => (∀ cs, decR s = some cs → ∃ v, e = .returned (.tuple #[v, .int .i64 0]) ∧ w'.ownsRow w.heap.size 24 5 v cs.length (ccells cs)) ∧ (decR s = none → e = .returned (.tuple #[.slice none 0 0, .int .i64 4])) ∧ RowKit.Below w.heap.size w w' := by
  obtain ⟨i0, hi0, hz0, hz1, hz2⟩ := info_parts Try.infoCell
  by_cases hl : s.length ≤ 1048576
  · have hgt : decide ((1048576 : Int) < (s.length : Int)) = false := by rw [decide_eq_false_iff_not]; omega
    go_enter Try.func6, Try.ntmps6
    go_wp2_with fail
    refine (New_any (bstr s) w).mono ?_
    rintro e w1 ⟨rfl, r1, hb1⟩
    go_wp2_with fail
    refine (Number_r w.heap.size s w1 r1 (by omega)).mono ?_
    rintro e w2 ⟨rfl, r2, g2⟩
    have hb2 : RowKit.Below w.heap.size w w2 := hb1.grown g2 hb1.size (fun k hk => by cases hk; exact Nat.le_refl _)
    have hnl := nR_len s
    clear r1 g2 hb1
    cases ho : okN s with
    | false =>
      have HD : Hid (decR s = none) := by show _ = _; unfold decR; rw [if_pos hl, ho]; rfl
      go_wp2
      go_ret2
      exact ⟨(fun cs h => by rw [HD.out] at h; cases h), fun _ => rfl, hb2⟩
    | true =>
      have HD : Hid (decR s = fin (decN (nV s) (nR s))) := by show _ = _; unfold decR; rw [if_pos hl, ho, if_pos rfl]
      have hvl : nV s < 18446744073709551616 := (okN_back ho).2
      generalize nV s = n at *
      generalize nR s = l at *
      go_wp2
      go_loopw [7, 23] (fun s7 s23 wr => ∃ (i : Nat) (acc : List Cl) (l' : List UInt8), s23 = .int .u64 (i : Int) ∧ i ≤ n ∧ Rd wr w.heap.size (bstr l') ∧ wr.ownsRow (w.heap.size + 1) 24 5 s7 acc.length (ccells acc) ∧ Hid (decN n l = (decN (n - i) l').map (fun p => (acc ++ p.1, p.2))) ∧ acc.length + l'.length ≤ l.length ∧ RowKit.Below w.heap.size w wr) (fun _ s23 _ => n - (intOf s23).toNat)
      case atStart => exact ⟨0, [], l, rfl, by omega, r2, ⟨rfl, .inl ⟨rfl, rfl⟩⟩, by show _ = _; simp, by simp, hb2⟩
      case round =>
        obtain ⟨i, acc, l', rfl, hin, hr, hown, hD, hlen, hbel⟩ := hrel
        have hrl := hr.lt
        by_cases hlt : i < n
        · have hiz : (i : Int) < (n : Int) := by omega
          go_wp2_with fail
          refine (take_any w.heap.size l' wr hr (by omega)).mono ?_
          rintro e w3 ⟨hy, hno, hg3⟩
          have hb3 : RowKit.Below w.heap.size w w3 := hbel.grown hg3 hbel.size (fun k hk => by cases hk; exact Nat.le_refl _)
          have hown3 := own_grown hown hg3 (Nat.lt_succ_self _)
          have hs3 := hg3.size
          have ⟨k, hk⟩ : ∃ k, n - i = k + 1 := ⟨n - i - 1, by omega⟩
          have hk2 : n - (i + 1) = k := by omega
          rw [hk] at hD
          cases ht : takeOk l' with
          | true =>
            obtain ⟨rfl, r3⟩ := hy ht
            have tb := (take_back ht).1
            have tl : 1 ≤ (layL (cellOf l')).length := lay_pos _
            have tl2 : (l5 l').length + 1 ≤ l'.length := by
              have := congrArg List.length tb
              rw [List.length_append] at this
              omega
            have HE : Hid (decN n l = (decN (n - (i + 1)) (l5 l')).map (fun p => ((acc ++ [cellOf l']) ++ p.1, p.2))) := by
              show _ = _
              rw [hD.out, decN, ht, if_pos rfl, hk2, Option.map_map]
              congr 1
              funext p
              simp
            clear hD hy hno tb hown hr ht hg3 hbel
            generalize l5 l' = l2 at *
            generalize cellOf l' = c at *
            obtain ⟨r, k, v, z, x⟩ := c
            have hnews := cell_news (w3.alloc (.cells #[.string (bstr r), .string (bstr k), .int .u64 v, .bool z, .string (bstr x)] 24)) ⟨r, k, v, z, x⟩ 24
            rw [show (w3.alloc (.cells #[.string (bstr r), .string (bstr k), .int .u64 v, .bool z, .string (bstr x)] 24)).heap.size = w3.heap.size + 1 by simp] at hnews
            go_wp2_with (at_builtin; refine wpList_append_own _ rfl _ _ 26 rfl (w.heap.size + 1) 24 i0 (.agg #[.string ⟨#[]⟩, .string ⟨#[]⟩, .int .u64 0, .bool false, .string ⟨#[]⟩]) 5 64 Try.underlying26 hi0 hz0 hz1 hz2 rfl (by decide) _ _ _ rfl ((hown3.alloc _).alloc _) ⟨w3.heap.size + 1, 0, none⟩ 1 1 (encC ⟨r, k, v, z, x⟩) rfl rfl hnews (encC_one _) ?c3 ?c4 ?c5 ?_)
            case c3 => unfold maxLen; omega
            case c4 => omega
            case c5 => simp; omega
            intro v' w4 hown4 hgrow _
            have hb34 : RowKit.Below (w.heap.size + 1) w3 w4 := (((RowKit.Below.refl _ _).alloc (by omega) _).alloc (by simp; omega) _).grown hgrow (by simp; omega) (fun k hk => (hown3.lt k hk).1)
            have hb4 : RowKit.Below w.heap.size w w4 := ((hb3.alloc hb3.size _).alloc (by have := hb3.size; simp; omega) _).grown hgrow (by have := hb3.size; simp; omega) (fun k hk => Nat.le_of_succ_le (hown3.lt k hk).1)
            have r4 := r3.below hb34 (Nat.lt_succ_self _)
            have hown5 : w4.ownsRow (w.heap.size + 1) 24 5 v' (acc ++ [Cl.mk r k v z x]).length (ccells (acc ++ [Cl.mk r k v z x])) := by
              rw [List.length_append, ccells_append]
              exact hown4
            clear hown3 hown4 hgrow hb34 r3 hb3
            go_wp2
            go_roundw
            case rel => exact ⟨i + 1, acc ++ [⟨r, k, v, z, x⟩], l2, by go_num, by omega, r4, hown5, HE, by simp; omega, hb4⟩
            case measure => simp [intOf]; omega
          | false =>
            obtain ⟨c, rfl⟩ := hno ht
            have HN : Hid (decR s = none) := by
              show _ = _
              rw [HD.out, hD.out, decN, ht]
              rfl
            clear hD hy hno hown hr ht hown3 hg3 HD
            go_wp2
            go_ret2
            exact ⟨(fun cs h => by rw [HN.out] at h; cases h), fun _ => rfl, hb3.alloc hb3.size _⟩
        · have hiz : ¬ (i : Int) < (n : Int) := by omega
          have hie : n - i = 0 := by omega
          have HE : Hid (decR s = fin (some (acc, l'))) := by
            show _ = _
            rw [HD.out, hD.out, hie]
            simp [decN]
          clear hD HD
          go_wp2_with fail
          refine (Left_any w.heap.size l' wr hr).mono ?_
          rintro e w3 ⟨rfl, rfl⟩
          have hown3 := own_mono hown (Nat.le_succ _)
          have hb3' := hbel
          cases l' with
          | nil =>
            have HF : Hid (decR s = some acc) := HE.out
            clear HE
            go_wp2
            go_ret2
            exact ⟨(fun cs h => by rw [HF.out] at h; cases h; exact ⟨_, rfl, hown3⟩), (fun h => by rw [HF.out] at h; cases h), hb3'⟩
          | cons y l' =>
            have HF : Hid (decR s = none) := HE.out
            have hp : decide ((0 : Int) < (((y :: l').length : Nat) : Int)) = true := by simp
            clear HE
            go_wp2
            go_ret2
            exact ⟨(fun cs h => by rw [HF.out] at h; cases h), (fun _ => rfl), hb3'⟩
  · have hgt : decide ((1048576 : Int) < (s.length : Int)) = true := by rw [decide_eq_true_eq]; omega
    have HD : Hid (decR s = none) := by show _ = _; unfold decR; rw [if_neg hl]
    go_enter Try.func6, Try.ntmps6
    go_wp2
    go_ret2
    exact ⟨(fun cs h => by rw [HD.out] at h; cases h), fun _ => rfl, RowKit.Below.refl _ _⟩

end Go.Proofs.Ytfjomggofncdmaa
