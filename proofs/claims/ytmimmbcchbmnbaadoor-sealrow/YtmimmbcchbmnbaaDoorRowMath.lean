/-
  Rows of frames, as lists: what is found in a row that is cut anywhere, or that has bytes 0 behind it.
-/
import Derived.Test.YtmimmbcchbmnbaaDoorScan
namespace Go.Proofs.YtmimmbcchbmnbaaDoor
open Go.RowKit

/-- The frames of bodies, one behind the other. -/
def fr (G : List (List UInt8)) : List UInt8 := (G.map frm).flatten
theorem fr_nil : fr [] = [] := rfl
theorem fr_cons (b : List UInt8) (G : List (List UInt8)) : fr (b :: G) = frm b ++ fr G := by
  unfold fr
  simp
theorem fr_append (G H : List (List UInt8)) : fr (G ++ H) = fr G ++ fr H := by
  unfold fr
  simp
theorem fr_length (G : List (List UInt8)) : (fr G).length = tot G := by
  induction G with
  | nil => rfl
  | cons b G ih =>
    rw [fr_cons, List.length_append, frm_length, ih]
    unfold tot
    simp
theorem tot_append (G H : List (List UInt8)) : tot (G ++ H) = tot G + tot H := by
  unfold tot
  simp
/-- What begins like a frame, and is no whole one, is none. -/
theorem prefix_none {b : List UInt8} (hb : b.length ≤ 1048576) {m : Nat} (hm : m < (frm b).length) : opn ((frm b).take m) = none := by
  cases h : opn ((frm b).take m) with
  | none => rfl
  | some c =>
    exfalso
    obtain ⟨hc, r, hr⟩ := opn_some h
    have h1 : opn (frm b) = some b := by
      have := opn_frm hb []
      rwa [List.append_nil] at this
    have h2 : frm b = frm c ++ (r ++ (frm b).drop m) := by
      rw [← List.append_assoc, ← hr, List.take_append_drop]
    have h3 : opn (frm b) = some c := by
      rw [h2]
      exact opn_frm hc _
    have h4 : b = c := Option.some.inj (h1.symm.trans h3)
    have h5 := congrArg List.length hr
    rw [List.length_append, List.length_take, ← h4] at h5
    omega
theorem zero_crc : ¬ le4 (crc ([0, 0, 0, 0] ++ [])).toNat = [0, 0, 0, 0] := by decide +kernel
/-- Bytes 0 begin with no frame. -/
theorem zeros_none (n : Nat) : opn (List.replicate n 0) = none := by
  by_cases h : n < 8
  · exact opn_short (by rw [List.length_replicate]; exact h)
  · obtain ⟨m, rfl⟩ : ∃ m, n = m + 8 := ⟨n - 8, by omega⟩
    show opn (0 :: 0 :: 0 :: 0 :: 0 :: 0 :: 0 :: 0 :: List.replicate m 0) = none
    rw [opn_eq, show rd4 0 0 0 0 = 0 from rfl, List.take_zero]
    exact if_neg fun hh => zero_crc hh.2.2
/-- Whole frames, and behind them what begins with none. -/
theorem scn_frames (G : List (List UInt8)) (r : List UInt8) (k : Nat) (hk : G.length ≤ k) (hG : ∀ b ∈ G, b.length ≤ 1048576) (hr : opn r = none) : scn k (fr G ++ r) = G := by
  induction G generalizing k with
  | nil => rw [fr_nil, List.nil_append]; exact scn_none hr
  | cons b G ih =>
    cases k with
    | zero => simp at hk
    | succ k =>
      have hb := hG b List.mem_cons_self
      rw [fr_cons, List.append_assoc, scn_some (opn_frm hb _)]
      have : (frm b ++ (fr G ++ r)).drop (8 + b.length) = fr G ++ r := by
        rw [List.drop_append_of_le_length (by rw [frm_length]; omega), List.drop_of_length_le (by rw [frm_length]; omega), List.nil_append]
      rw [this, ih k (by simpa using hk) (fun c hc => hG c (List.mem_cons_of_mem _ hc))]
/-- A row that is cut has just the whole ones. -/
theorem scn_cut (G : List (List UInt8)) (n i k : Nat) (hG : ∀ b ∈ G, b.length ≤ 1048576) (hi : i ≤ G.length) (hk : i ≤ k) (h1 : tot (G.take i) ≤ n) (h2 : i < G.length → n < tot (G.take (i + 1))) : scn k ((fr G).take n) = G.take i := by
  have hsplit : fr G = fr (G.take i) ++ fr (G.drop i) := by rw [← fr_append, List.take_append_drop]
  have hl : (fr (G.take i)).length = tot (G.take i) := fr_length _
  have htake : (fr G).take n = fr (G.take i) ++ (fr (G.drop i)).take (n - tot (G.take i)) := by
    rw [hsplit, List.take_append, hl, List.take_of_length_le (by omega)]
  rw [htake]
  refine scn_frames _ _ _ (by rw [List.length_take]; omega) (fun b hb => hG b (List.mem_of_mem_take hb)) ?_
  by_cases hlt : i < G.length
  · have h3 := h2 hlt
    rw [List.take_succ_eq_append_getElem hlt, tot_append] at h3
    have h4 : tot [G[i]] = G[i].length + 8 := by unfold tot; simp
    rw [List.drop_eq_getElem_cons hlt, fr_cons, List.take_append_of_le_length (by rw [frm_length]; omega)]
    exact prefix_none (hG _ (List.getElem_mem hlt)) (by rw [frm_length]; omega)
  · rw [List.drop_of_length_le (by omega), fr_nil, List.take_nil]
    rfl

end Go.Proofs.YtmimmbcchbmnbaaDoor
