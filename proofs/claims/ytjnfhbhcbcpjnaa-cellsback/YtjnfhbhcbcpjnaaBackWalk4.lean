/-
  The walk of the law CellsBack, the stage's theorem.
-/
import Derived.Test.YtjnfhbhcbcpjnaaAgainWalk4
namespace Go.Proofs.Ytjnfhbhcbcpjnaa
open Go.RowKit Go.BigFrame Go.Sort
attribute [local go_sem] size_bstr toList_bstr ls_def append_bstr

theorem dec_less {cs : List Cl} {t : List UInt8} {x : UInt8} (ho : cs.all okC = true) (hl : (encL cs).length ≤ 1048576) (e : encL cs = t ++ [x]) : decR t = none := by
  cases hd : decR t with
  | none => rfl
  | some cs' =>
    obtain ⟨e', ho', hl'⟩ := decR_back hd
    have hm := decR_more (t := [x]) ho' (by simp) (by have := enc_len cs'; rw [← e'] at this; omega)
    rw [← e', ← e, decR_enc ho hl] at hm
    cases hm

set_option maxHeartbeats 4000000 in
set_option maxRecDepth 100000 in
theorem back_walk (q : Option Addr) (b off cap : Nat) (cs : List Cl) (w : World) (hq : 0 < cs.length → q = some ⟨b, off, none⟩ ∧ CRow w b off cs ∧ b < w.heap.size) (hn : cs.length * 64 ≤ 140737488351232) :
    Calls Try.prog 5 #[.slice q cs.length cap] w fun e w' => e = .returned (.bool true) ∧ RowKit.Below w.heap.size w w' := by
  have hqs : ∀ W, RowKit.Below w.heap.size w W → (0 < cs.length → q = some ⟨b, off, none⟩ ∧ CRow W b off cs ∧ b < W.heap.size) := fun W hb h => ⟨(hq h).1, (hq h).2.1.step hb (hq h).2.2, Nat.lt_of_lt_of_le (hq h).2.2 hb.size⟩
  have hE := fun W hq => Encode_any q b off cap cs W hq hn
  clear hq
  go_enter Try.func5, Try.ntmps5
  go_wp2_with fail
  refine (works_any w).mono ?_
  rintro e w1 ⟨rfl, hb1⟩
  by_cases ho : cs.all okC = true
  · by_cases hl : (encL cs).length ≤ 1048576
    · have d1 : encB cs = encL cs := by unfold encB; rw [if_pos ho, if_pos hl]
      have d2 : encE cs = 0 := by unfold encE; rw [if_pos ho, if_pos hl]
      rw [d1, d2] at hE
      have k1 := decR_enc ho hl
      have k2 := decR_more (t := [0]) ho (by simp) (by have := enc_len cs; omega)
      obtain ⟨t, x, ht⟩ : ∃ t x, encL cs = t ++ [x] := by
        rcases List.eq_nil_or_concat (encL cs) with h | ⟨t, x, h⟩
        · exfalso
          have := Lib.uvarint_pos cs.length
          have h2 := congrArg List.length h
          rw [encL, List.length_append, List.length_nil] at h2
          omega
        · exact ⟨t, x, by rw [h, List.concat_eq_append]⟩
      have k3 := dec_less ho hl ht
      have hm : (encL cs).length = t.length + 1 := by rw [ht]; simp
      have htk : (encL cs).take t.length = t := by rw [ht]; simp
      have hsl := fun w : World => run_head (P := Try.prog) 9 (encL cs) t.length (by omega) w Try.underlying9
      rw [htk] at hsl
      have D1 := fun W => Decode_any (encL cs) W (by omega)
      have D2 := fun W => Decode_any (encL cs ++ [0]) W (by simp; omega)
      have D3 := fun W => Decode_any t W (by omega)
      have hsub : ((encL cs).length : Int) - 1 = (t.length : Int) := by omega
      have ht0 : (t.length : Int) ≤ 9223372036854775807 := by omega
      clear d1 d2 ho ht htk
      generalize encL cs = s at *
      go_wp2_with fail
      refine (hE w1 (hqs w1 hb1)).mono ?_
      rintro e w2 ⟨rfl, hb2⟩
      have hb2' := below2 hb1 hb2
      clear hb1 hb2 hE
      go_wp2_with fail
      refine (D1 w2).mono ?_
      rintro e w3 ⟨hy, _, hb3⟩
      obtain ⟨v, rfl, hown⟩ := hy cs k1
      obtain ⟨p, cap', g, rfl, _, hg, hr, _⟩ := own_get hown
      have hb3' := below2 hb2' hb3
      clear hy hb3 hb2' D1 k1 hown
      go_wp2_with fail
      refine (D2 w3).mono ?_
      rintro e w4 ⟨_, hno, hb4⟩
      obtain rfl := hno k2
      have hr4 := hq_step hr hb4 (fun h => (hr h).2.2)
      have hb4' := below2 hb3' hb4
      clear hno hb4 hb3' D2 k2 hr
      go_wp2_with fail
      refine (D3 w4).mono ?_
      rintro e w5 ⟨_, hno, hb5⟩
      obtain rfl := hno k3
      have hr5 := hq_step hr4 hb5 (fun h => (hr4 h).2.2)
      have hb5' := below2 hb4' hb5
      clear hno hb5 hb4' D3 k3 hr4
      go_wp2_with fail
      refine (same_any p q g 0 cap' b off cap cs w5 (hq_two hr5) (hq_two (hqs w5 hb5')) (by omega)).mono ?_
      rintro e w6 ⟨rfl, hb6⟩
      have hb6' := below2 hb5' hb6
      clear hb6 hr5
      go_wp2
      go_ret
      exact ⟨rfl, hb6'⟩
    · have d1 : encB cs = [] := by unfold encB; rw [if_pos ho, if_neg hl]
      have d2 : encE cs = 3 := by unfold encE; rw [if_pos ho, if_neg hl]
      rw [d1, d2] at hE
      clear d1 d2 ho hl
      go_wp2_with fail
      refine (hE w1 (hqs w1 hb1)).mono ?_
      rintro e w2 ⟨rfl, hb2⟩
      have hb2' := below2 hb1 hb2
      clear hb1 hb2 hE
      go_wp2
      go_ret
      exact ⟨rfl, hb2'⟩
  · have d1 : encB cs = [] := by unfold encB; rw [if_neg ho]
    have d2 : encE cs = 2 := by unfold encE; rw [if_neg ho]
    rw [d1, d2] at hE
    clear d1 d2 ho
    go_wp2_with fail
    refine (hE w1 (hqs w1 hb1)).mono ?_
    rintro e w2 ⟨rfl, hb2⟩
    have hb2' := below2 hb1 hb2
    clear hb1 hb2 hE
    go_wp2
    go_ret
    exact ⟨rfl, hb2'⟩

end Go.Proofs.Ytjnfhbhcbcpjnaa
