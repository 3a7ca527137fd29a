/-
  The walk of the law CellsAgain.
-/
import Derived.Test.YtjnfhbhcbcpjnaaCDecode
import Derived.Test.YtjnfhbhcbcpjnaaCOwn
namespace Go.Proofs.Ytjnfhbhcbcpjnaa
open Go.RowKit Go.BigFrame Go.Sort
attribute [local go_sem] size_bstr toList_bstr ls_def

theorem enc_len : ∀ (cs : List Cl), cs.length ≤ (encL cs).length := by
  intro cs
  have : cs.length ≤ (bodyL cs).length := by
    induction cs with
    | nil => simp
    | cons c cs ih =>
      have e : bodyL (c :: cs) = layL c ++ bodyL cs := by simp [bodyL]
      have := lay_pos c
      rw [e, List.length_append, List.length_cons]
      omega
  unfold encL
  rw [List.length_append]
  omega
theorem dec_enc {s : List UInt8} {cs : List Cl} (h : decR s = some cs) : encB cs = s ∧ encE cs = 0 ∧ cs.length ≤ 1048576 := by
  obtain ⟨e, ho, hl⟩ := decR_back h
  have hl2 := enc_len cs
  rw [← e] at hl2
  refine ⟨?_, ?_, by omega⟩
  · unfold encB
    rw [if_pos ho, ← e, if_pos hl]
  · unfold encE
    rw [if_pos ho, ← e, if_pos hl]

set_option maxHeartbeats 4000000 in
set_option maxRecDepth 100000 in
theorem again_walk (s : List UInt8) (w : World) (hs : s.length ≤ 140737488351232) :
    Calls Try.prog 6 #[.string (bstr s)] w fun e w' => e = .returned (.bool true) ∧ RowKit.Below w.heap.size w w' := by
  go_enter Try.func6, Try.ntmps6
  go_wp2_with fail
  refine (works_any w).mono ?_
  rintro e w1 ⟨rfl, hb1⟩
  go_wp2_with fail
  refine (Decode_any s w1 (by omega)).mono ?_
  rintro e w2 ⟨hy, hno, hb2⟩
  have hb2' := below2 hb1 hb2
  clear hb1
  cases hd : decR s with
  | none =>
    obtain rfl := hno hd
    clear hy hno hd hb2
    go_wp2
    go_ret
    exact ⟨rfl, hb2'⟩
  | some cs =>
    obtain ⟨v, rfl, hown⟩ := hy cs hd
    obtain ⟨d1, d2, d3⟩ := dec_enc hd
    obtain ⟨p, cap, g, rfl, _, hg, hr, _⟩ := own_get hown
    have hE := fun W hq => Encode_any p g 0 cap cs W hq (by omega)
    rw [d1, d2] at hE
    clear hy hno hd hb2 hown d1 d2
    go_wp2_with fail
    refine (hE w2 hr).mono ?_
    rintro e w3 ⟨rfl, hb3⟩
    have hb3' := below2 hb2' hb3
    clear hb3 hE hr
    go_wp2
    go_ret
    exact ⟨rfl, hb3'⟩

end Go.Proofs.Ytjnfhbhcbcpjnaa
