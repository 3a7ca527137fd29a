/-
  The walk of the law KeysGap over this seat's translation: it returns true, and of what was there nothing has turned.
-/
import Derived.Test.YtphoimimifepcaaKRGap
namespace Go.Proofs.Ytphoimimifepcaa
open Go.RowKit Go.BigFrame
attribute [local go_sem] size_bstr toList_bstr ls_def
attribute [local go_sem high] rng_eql rng_neq rng_guard

theorem RowAt.take {W : World} {b off : Nat} {rs : List Rg} (h : RowAt W b off rs) (n : Nat) : RowAt W b off (rs.take n) := by
  intro i hi
  have hi' : i < rs.length := by rw [List.length_take] at hi; omega
  rw [List.getElem_take]
  exact h i hi'
theorem RowAt.all {W : World} {b off : Nat} {rs : List Rg} (h : RowAt W b off rs) : ∀ j u, (rcells rs)[j]? = some u → W.cell? ((⟨b, off, none⟩ : Addr).add j) = some u := by
  intro j u hj
  have hl : j < rs.length * 2 := by
    have := (List.getElem?_eq_some_iff.1 hj).1
    rwa [rcells_length] at this
  have hi : j / 2 < rs.length := by omega
  obtain ⟨g0, g1⟩ := rcells_get rs (j / 2) hi
  obtain ⟨h0, h1⟩ := h (j / 2) hi
  rw [Addr.add_lit]
  rcases Nat.mod_two_eq_zero_or_one j with hm | hm
  · have e : j = j / 2 * 2 := by omega
    rw [← e] at g0 h0
    rw [h0, ← g0, hj]
  · have e : j = j / 2 * 2 + 1 := by omega
    rw [← e] at g1
    rw [Nat.add_assoc, ← e] at h1
    rw [h1, ← g1, hj]
theorem rcells_one (rs : List Rg) : ∀ u ∈ rcells rs, u.oneCell' = true := by
  intro u hu
  rw [rcells, List.mem_flatMap] at hu
  obtain ⟨r, _, hr⟩ := hu
  simp [encR] at hr
  rcases hr with rfl | rfl <;> rfl
theorem gapV_ex (o : Option Rg) : ∃ a b is, gapV o = .tuple #[rngV a b, .bool is] := by
  cases o with
  | none => exact ⟨_, _, _, rfl⟩
  | some r => exact ⟨_, _, _, rfl⟩

set_option maxHeartbeats 4000000 in
set_option maxRecDepth 100000 in
theorem gap_walk (rs : List Rg) (b off cap : Nat) (w : World) (hc : RowAt w b off rs) (hbw : b < w.heap.size) (h0 : 0 < rs.length) (hcap : rs.length ≤ cap) (hlen : rs.length ≤ 9223372036854775807) :
    Calls Try.prog 4 #[.slice (some ⟨b, off, none⟩) rs.length cap] w fun e w' => e = .returned (.bool true) ∧ Below w.heap.size w w' := by
  obtain ⟨i0, hi, hz0, hz1, hz2⟩ := info_parts Try.infoRng
  obtain ⟨N, hN, hN30, hNl, hN0⟩ : ∃ N : Nat, min (rs.length : Int) 40 = (N : Int) ∧ N ≤ 40 ∧ N ≤ rs.length ∧ 0 < N := ⟨min rs.length 40, by omega, by omega, by omega, by omega⟩
  have hcT := hc.take N
  have hTl : (rs.take N).length = N := by rw [List.length_take]; omega
  generalize hrt : rs.take N = ts at *
  subst hTl
  have hown0 : w.ownsRow w.heap.size 23 2 (.slice none 0 0) 0 [] := ⟨rfl, .inl ⟨rfl, rfl⟩⟩
  have hall := hcT.all
  have hone := rcells_one ts
  have hNc : (ts.length : Int) ≤ (cap : Int) := by omega
  have hrl := rcells_length ts
  go_enter Try.func4, Try.ntmps4
  go_wp2_with (at_builtin; refine wpList_append_own _ rfl _ _ 33 rfl w.heap.size 23 i0 (.agg #[.string ⟨#[]⟩, .string ⟨#[]⟩]) 2 32 Try.underlying33 hi hz0 hz1 hz2 rfl (by decide) _ _ _ rfl hown0 ⟨b, off, none⟩ ts.length cap (rcells ts) rfl hrl hall hone (by unfold maxLen; omega) (by omega) (Nat.le_refl _) ?_)
  intro v' w1 hown1 hgrow _
  have hb1 : Below w.heap.size w w1 := (Below.refl _ _).grown hgrow (Nat.le_refl _) (fun k hk => by cases hk)
  have hne : ts ≠ [] := by intro e; rw [e] at hN0; simp at hN0
  obtain ⟨g, c2, rfl, hg1, hg2, hgc, _, hrow, _⟩ := own_row hown1 hne
  have hl1 := hcT.step hb1 hbw
  have hbw1 : b < w1.heap.size := Nat.lt_of_lt_of_le hbw hb1.size
  clear hown0 hall hone hown1 hgrow hcT
  go_wp2_with fail
  refine (Gap_any (some ⟨g, 0, none⟩) g 0 c2 ts _ (fun _ => ⟨rfl, hrow, hg2⟩) (by omega)).mono ?_
  rintro e w2 ⟨o, rfl, ho, hb2⟩
  obtain ⟨x, y, is, hv⟩ := gapV_ex o
  rw [hv]
  replace hrow := hrow.step hb2 hg2
  replace hl1 := hl1.step hb2 hbw1
  have hB := hb1.trans (hb2.mono hb1.size)
  have hg3 : g < w2.heap.size := Nat.lt_of_lt_of_le hg2 hb2.size
  have hbw2 : b < w2.heap.size := Nat.lt_of_lt_of_le hbw1 hb2.size
  have HO : Hid _ := ho
  have HV : Hid _ := hv
  clear ho hv hb2 hb1
  have hba : Below w2.heap.size w2 (w2.alloc (.cells #[.string (bstr x), .string (bstr y)] 23)) := (Below.refl _ _).alloc (Nat.le_refl _) _
  go_wp2_with fail
  refine (RGap_any (some ⟨b, off, none⟩) b off cap ts _ (fun _ => ⟨rfl, hl1.step hba hbw2, Nat.lt_of_lt_of_le hbw2 hba.size⟩) (by omega)).mono ?_
  rintro e w3 ⟨o2, rfl, ho2, hb3⟩
  have hoo := gapSpec_one ho2 HO.out
  rw [hoo, HV.out]
  have ra := (RngAt.new w2 23 x y).step hb3
  have hb23 := below2 hba hb3
  replace hrow := hrow.step hb23 hg3
  replace hl1 := hl1.step hb23 hbw2
  replace hB := below2 hB hb23
  have hg4 : g < w3.heap.size := Nat.lt_of_lt_of_le hg3 hb23.size
  have hbw3 : b < w3.heap.size := Nat.lt_of_lt_of_le hbw2 hb23.size
  clear ho2 hoo HO HV hb3 hb23 hba
  have hba : Below w3.heap.size w3 (w3.alloc (.cells #[.string (bstr x), .string (bstr y)] 23)) := (Below.refl _ _).alloc (Nat.le_refl _) _
  replace ra := ra.step hba
  have rb := RngAt.new w3 23 x y
  replace hrow := hrow.step hba hg4
  replace hl1 := hl1.step hba hbw3
  replace hB := below2 hB hba
  have hg5 : g < (w3.alloc (.cells #[.string (bstr x), .string (bstr y)] 23)).heap.size := Nat.lt_of_lt_of_le hg4 hba.size
  have hbw5 : b < (w3.alloc (.cells #[.string (bstr x), .string (bstr y)] 23)).heap.size := Nat.lt_of_lt_of_le hbw3 hba.size
  clear hba
  go_wp2
  generalize w3.alloc (.cells #[.string (bstr x), .string (bstr y)] 23) = W at *
  go_loopw [8] (fun s8 wr => ∃ i : Nat, s8 = .int .i64 (i : Int) ∧ i ≤ ts.length ∧ Below W.heap.size W wr) (fun s8 _ => ts.length - (intOf s8).toNat)
  case atStart => exact ⟨0, rfl, by omega, Below.refl _ _⟩
  case round =>
    obtain ⟨i, rfl, hil, hbr⟩ := hrel
    by_cases hlt : i < ts.length
    · obtain ⟨a0, a1⟩ := (hrow.step hbr hg5) i hlt
      obtain ⟨b0, b1⟩ := (hl1.step hbr hbw5) i hlt
      rw [Nat.zero_add] at a0 a1
      have hlt' : (i : Int) < (ts.length : Int) := by omega
      have hk0 : (0 : Int) ≤ (i : Int) := by omega
      generalize ts[i] = r at *
      obtain ⟨lo, hi'⟩ := r
      simp only at a0 a1 b0 b1
      go_wp2_with fail
      go_quiet (fail)
      have hbr2 := below_drewN hbr nq
      clear a0 a1 b0 b1 hbr
      go_wp2
      go_roundw
      case rel => exact ⟨i + 1, by go_num, by omega, hbr2⟩
      case measure => simp [intOf]; omega
    · have hie : ¬ (i : Int) < (ts.length : Int) := by omega
      replace ra := ra.step hbr
      replace rb := rb.step hbr
      replace hB := below2 hB hbr
      obtain ⟨a0, a1⟩ := ra
      obtain ⟨b0, b1⟩ := rb
      go_wp2_with fail
      refine (works_any _).mono ?_
      rintro e w5 ⟨rfl, hb5⟩
      replace hB := below2 hB hb5
      go_wp2
      go_ret
      exact ⟨rfl, hB⟩

end Go.Proofs.Ytphoimimifepcaa
