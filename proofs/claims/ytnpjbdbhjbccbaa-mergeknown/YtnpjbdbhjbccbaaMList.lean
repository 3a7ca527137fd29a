/-
  merge.List: the next cells of a row.
-/
import Derived.Test.YtnpjbdbhjbccbaaMAliv
namespace Go.Proofs.Ytnpjbdbhjbccbaa
open Go.RowKit Go.BigFrame Go.Sort
attribute [local go_sem] size_bstr toList_bstr ls_def

theorem own_kp {w w' : World} {B e size n : Nat} {v : Value} {xs : List Value} {S : Nat → Prop} (h : w.ownsRow B e size v n xs) (hk : Kp w w' S) (hS : ∀ i, S i → i < B) : w'.ownsRow B e size v n xs := by
  rcases h.2 with h0 | ⟨g, cap, cur, hv, hbg, hg, r⟩
  · exact ⟨h.1, .inl h0⟩
  · exact ⟨h.1, .inr ⟨g, cap, cur, hv, hbg, (hk.block g (blk_lt hg) (fun hs => by have := hS g hs; omega)).trans hg, r⟩⟩
/-- How often a row is asked for the next most cells. -/
def askN (left most : Nat) : Nat := if left < most then left + 1 else most
theorem take_snoc {cs : List Cl} {n i : Nat} {c : Cl} (h : cs[n + i]? = some c) : (cs.drop n).take (i + 1) = (cs.drop n).take i ++ [c] := by
  have : (cs.drop n)[i]? = some c := by rw [List.getElem?_drop]; exact h
  rw [List.take_add_one, this]
  rfl

set_option maxHeartbeats 4000000 in
set_option maxRecDepth 100000 in
theorem List_row {g : Nat} {caps : Array Value} {F : Nat → Prop} {cs : List Cl} {J : Nat → World → Prop} (hT : Tlr g caps F cs J) (n : Nat) (most : Int) (w : World) (hJ : J n w) (hn : cs.length * 64 ≤ 140737488351232) (hm : most ≤ 9223372036854775807) :
    Calls Try.prog 21 #[.func (.func g) #[] caps, .int .i64 most] w fun e w' => ∃ v, e = .returned v ∧ w'.ownsRow w.heap.size 39 5 v ((cs.drop n).take most.toNat).length (ccells ((cs.drop n).take most.toNat)) ∧ J (n + askN (cs.length - n) most.toNat) w' ∧ Kp w w' F := by
  obtain ⟨i0, hi0, hz0, hz1, hz2⟩ := info_parts Try.infoCell
  have hE1 := fun g caps w => fn_eql g caps w
  have eg := hT.eg
  have hFl := hT.lt n w hJ
  go_enter Try.func21, Try.ntmps21
  go_wp2
  go_loopw [5, 11] (fun s5 s11 wr => ∃ i : Nat, s11 = .int .i64 (i : Int) ∧ (i : Int) ≤ max most 0 ∧ n + i ≤ max cs.length n ∧ wr.ownsRow w.heap.size 39 5 s5 ((cs.drop n).take i).length (ccells ((cs.drop n).take i)) ∧ J (n + i) wr ∧ Kp w wr F) (fun _ s11 _ => most.toNat - (intOf s11).toNat)
  case atStart => exact ⟨0, rfl, by omega, by omega, ⟨rfl, .inl ⟨rfl, rfl⟩⟩, hJ, Kp.refl _ _⟩
  case round =>
    obtain ⟨i, rfl, him, hic, hown, hJi, hK⟩ := hrel
    by_cases hlt : (i : Int) < most
    · have hcall := hT.step (n + i) wr hJi
      have hwr := hK.size
      have HM : Hid _ := hm
      have HN : Hid _ := hn
      have HIM : Hid _ := him
      have HIC : Hid _ := hic
      clear hm hn him hic
      by_cases hc : n + i < cs.length
      · obtain ⟨c, hcc⟩ : ∃ c, cs[n + i]? = some c := ⟨_, List.getElem?_eq_getElem hc⟩
        rw [ansV_yes hcc] at hcall
        have hfc : Fits c := hT.fits c (List.mem_of_getElem? hcc)
        have HT1 : Hid _ := take_snoc hcc
        have hlen : ((cs.drop n).take i).length = i := by rw [List.length_take, List.length_drop]; omega
        have HLN : Hid _ := hlen
        clear hcc hlen
        go_wp2_with fail
        refine hcall.mono ?_
        rintro e w1 ⟨rfl, hJ1, hK1⟩
        have hown1 := own_kp hown hK1 hFl
        have hKw1 := hK.trans hK1 (fun i hi => Or.inl hi)
        have hA1 := At5.new w1 c 39 rfl
        have hBA : Below w1.heap.size w1 (w1.alloc (.cells #[.string (bstr c.row), .string (bstr c.col), .int .u64 c.ver, .bool c.gone, .string (bstr c.val)] 39)) := (Below.refl _ _).alloc (Nat.le_refl _) _
        clear hcall hown hJi
        go_wp2_with fail
        refine (mfresh_any c _ hfc).mono ?_
        rintro e w2 ⟨rfl, hb2⟩
        have hb12 := below2 hBA hb2
        have hown2 := own_cbelow hown1 hb12
        have hKw2 := hKw1.trans (Kp.of_below (fun _ => False) hb12) (fun _ h => h.elim)
        have hJ2 := hT.below hJ1 hb12
        have hs2 := hKw2.size
        clear hb2 hown1 hKw1 hJ1 hA1 hBA hb12
        go_wp2_with (at_builtin; refine wpList_append_own _ rfl _ _ 29 rfl w.heap.size 39 i0 (.agg #[.string ⟨#[]⟩, .string ⟨#[]⟩, .int .u64 0, .bool false, .string ⟨#[]⟩]) 5 64 Try.underlying29 hi0 hz0 hz1 hz2 rfl (by decide) _ _ _ rfl (hown2.alloc _) ⟨w2.heap.size, 0, none⟩ 1 1 (encC c) rfl rfl (cell_news w2 c 39) (encC_one _) ?c3 ?c4 ?c5 ?_)
        case c3 => have := HLN.out; have := HN.out; unfold maxLen; omega
        case c4 => have := HLN.out; have := HN.out; omega
        case c5 => simp; omega
        intro v' w3 hown3 hgrow _
        have hK3 : Kp (w2.alloc (.cells #[.string (bstr c.row), .string (bstr c.col), .int .u64 c.ver, .bool c.gone, .string (bstr c.val)] 39)) w3 (fun k => w.heap.size ≤ k) := Kp.of_grown hgrow (fun k hk => (hown2.lt k hk).1)
        have hJ3 := hT.kp (hT.below hJ2 ((Below.refl _ _).alloc (Nat.le_refl _) _)) hK3 (fun k h1 h2 => by have := hFl k h2; omega)
        have hKw3 := (hKw2.alloc _).trans hK3 (fun k hk => Or.inr hk)
        have hown4 : w3.ownsRow w.heap.size 39 5 v' ((cs.drop n).take (i + 1)).length (ccells ((cs.drop n).take (i + 1))) := by
          rw [HT1.out, List.length_append, ccells_append, List.length_take, List.length_drop]
          exact hown3
        have hil : (i : Int) + 1 ≤ 9223372036854775807 := by have := HM.out; omega
        clear hown2 hown3 hgrow hJ2 hKw2
        go_wp2
        go_roundw
        case rel => exact ⟨i + 1, by go_num, by have := HIM.out; omega, by omega, hown4, hJ3, hKw3⟩
        case measure => simp [intOf]; omega
      · rw [ansV_no (by omega)] at hcall
        have HO : Hid _ := hown
        go_wp2_with fail
        refine hcall.mono ?_
        rintro e w1 ⟨rfl, hJ1, hK1⟩
        have hown1 := own_kp hown hK1 hFl
        have hKw1 := hK.trans hK1 (fun i hi => Or.inl hi)
        have HJ1 : Hid _ := hJ1
        clear hcall hown hJi hJ1 HO
        go_wp2
        go_ret
        have hic := HIC.out
        have e1 : (cs.drop n).take most.toNat = (cs.drop n).take i := by
          rw [List.take_of_length_le (by rw [List.length_drop]; omega), List.take_of_length_le (by rw [List.length_drop]; omega)]
        rw [e1]
        refine ⟨_, rfl, own_cbelow hown1 ((Below.refl _ _).alloc (Nat.le_refl _) _), ?_, hKw1.alloc _⟩
        have e2 : n + askN (cs.length - n) most.toNat = n + i + 1 := by
          unfold askN
          split <;> omega
        rw [e2]
        exact hT.below HJ1.out ((Below.refl _ _).alloc (Nat.le_refl _) _)
    · have HI : Hid _ := him
      have HIC : Hid _ := hic
      go_wp2
      go_ret
      have him := HI.out
      have hic := HIC.out
      have e1 : most.toNat = i := by omega
      rw [e1]
      rw [List.length_take, List.length_drop] at hown
      refine ⟨_, rfl, hown, ?_, hK⟩
      have e2 : n + askN (cs.length - n) i = n + i := by
        unfold askN
        split <;> omega
      rw [e2]
      exact hJi

set_option maxHeartbeats 1000000 in
theorem List_nil (most : Int) (w : World) :
    Calls Try.prog 21 #[.nilFunc, .int .i64 most] w fun e w' => e = .returned (.slice none 0 0) ∧ w' = w := by
  have hE2 := fun w => nil_eql w
  go_enter Try.func21, Try.ntmps21
  go_wp2
  go_ret
  exact ⟨rfl, rfl⟩

end Go.Proofs.Ytnpjbdbhjbccbaa
