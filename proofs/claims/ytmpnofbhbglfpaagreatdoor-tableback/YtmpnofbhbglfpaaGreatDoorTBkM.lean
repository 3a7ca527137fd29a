/-
  TableBack, as lists: what is got of a place, and what is told from one on.
-/
import Derived.Test.YtmpnofbhbglfpaaGreatDoorGTRfM
namespace Go.Proofs.YtmpnofbhbglfpaaGreatDoor

theorem fnd_some {row col : List UInt8} : ∀ {S : List Cl} {x : Cl}, Asc S → x ∈ S → x.row = row ∧ x.col = col → ∃ d, fnd row col S = some d ∧ d ∈ S ∧ (d.row = row ∧ d.col = col) ∧ ccl d x ≤ 0
  | c :: l, x, ha, hx, hp => by
    obtain ⟨h1, h2⟩ := List.pairwise_cons.1 ha
    by_cases hc : c.row = row ∧ c.col = col
    · refine ⟨c, by rw [fnd, if_pos hc], by simp, hc, ?_⟩
      rcases List.mem_cons.1 hx with rfl | hx
      · rw [ccl_self]; omega
      · have := h1 x hx; omega
    · have hxl : x ∈ l := by
        rcases List.mem_cons.1 hx with rfl | hx
        · exact absurd hp hc
        · exact hx
      obtain ⟨d, e1, e2, e3, e4⟩ := fnd_some h2 hxl hp
      exact ⟨d, by rw [fnd, if_neg hc]; exact e1, by simp [e2], e3, e4⟩
theorem fnd_mem2 {row col : List UInt8} : ∀ {S : List Cl} {d : Cl}, fnd row col S = some d → d ∈ S ∧ d.row = row ∧ d.col = col
  | c :: l, d, h => by
    rw [fnd] at h
    split at h
    · rename_i hc
      cases h
      exact ⟨by simp, hc⟩
    · obtain ⟨h1, h2⟩ := fnd_mem2 h
      exact ⟨by simp [h1], h2⟩
theorem asc_one {S : List Cl} (h : Asc S) {a b : Cl} (ha : a ∈ S) (hb : b ∈ S) (e : ccl a b = 0) : a = b := by
  obtain ⟨i, hi, rfl⟩ := List.getElem_of_mem ha
  obtain ⟨j, hj, rfl⟩ := List.getElem_of_mem hb
  rcases Nat.lt_trichotomy i j with k | k | k
  · have := List.pairwise_iff_getElem.1 h i j hi hj k
    omega
  · subst k
    rfl
  · have := List.pairwise_iff_getElem.1 h j i hj hi k
    have := ccl_sym e
    omega
/-- The newest of a place is what is found. -/
theorem fnd_new {S N : List Cl} (h : Asc S) (k : NewSpec S N) {n : Cl} (hn : n ∈ N) : fnd n.row n.col S = some n := by
  obtain ⟨d, e1, e2, e3, e4⟩ := fnd_some h (k.sub n hn) ⟨rfl, rfl⟩
  obtain ⟨n', h1, h2, h3⟩ := k.best d e2
  have hpl : plc n' n = true := plc_trans h2 (plc_iff.2 e3)
  obtain rfl := apart_one k.apart h1 hn hpl
  have hz : ccl d n' = 0 := by
    have := ccl_neg (a := n') (b := d)
    have := ccl_neg (a := d) (b := n')
    omega
  rw [e1, asc_one h e2 (k.sub n' hn) hz]

theorem bk_new {L : List Cl} (h : Asc L) {n : Cl} (hn : n ∈ newL L) : fnd n.row n.col L = some n := fnd_new h (newL_spec L) hn
theorem na_self (p : List UInt8 × List UInt8) : naP p p = true := by
  cases h : naP p p with
  | true => rfl
  | false =>
    have h1 := naP_iff.1 h
    have h2 := (pz_zero (r := p.1) (c := p.2) (r' := p.1) (c' := p.2)).2 ⟨rfl, rfl⟩
    omega
theorem na_no {c : Cl} {p : List UInt8 × List UInt8} (h : naP (plP c) p = false) : ¬ (c.row = p.1 ∧ c.col = p.2) := fun hp => by
  have e : plP c = p := Prod.ext hp.1 hp.2
  rw [e, na_self] at h
  cases h
theorem frm_none {L : List Cl} {p : List UInt8 × List UInt8} (h : (L.filter fun c => naP (plP c) p) = []) : fnd p.1 p.2 L = none :=
  fnd_none fun c hc => na_no (by
    have := List.filter_eq_nil_iff.1 h c hc
    simpa using this)
theorem frm_first {L : List Cl} (hA : Asc L) {p : List UInt8 × List UInt8} {c0 : Cl} {l : List Cl} (h : (L.filter fun c => naP (plP c) p) = c0 :: l) : fnd p.1 p.2 L = if c0.row = p.1 ∧ c0.col = p.2 then some c0 else none := by
  obtain ⟨a, b, rfl, ha, h0, _⟩ := List.filter_eq_cons_iff.1 h
  have ha' : ∀ d ∈ a, ¬ (d.row = p.1 ∧ d.col = p.2) := fun d hd => na_no (by have := ha d hd; simpa using this)
  by_cases hp : c0.row = p.1 ∧ c0.col = p.2
  · rw [if_pos hp]
    exact fnd_at ha' hp
  · rw [if_neg hp]
    refine fnd_none fun d hd hq => ?_
    rcases List.mem_append.1 hd with hd | hd
    · exact ha' d hd hq
    · rcases List.mem_cons.1 hd with rfl | hd
      · exact hp hq
      · have h1 := (List.pairwise_append.1 hA).2.1
        have h2 := (List.pairwise_cons.1 h1).1 d hd
        have h3 := pz_le (a := c0) (b := d) (by omega)
        rw [hq.1, hq.2] at h3
        have h4 : ¬ ccl (pz c0.row c0.col) (pz p.1 p.2) < 0 := fun hx => by
          have := naP_iff (l := plP c0) (p := p) |>.2 hx
          rw [this] at h0
          cases h0
        exact hp (pz_zero.1 (by omega))
theorem na_ge {c : Cl} {row col : List UInt8} (h : naP (plP c) (row, col) = true) : ls c.row row = false ∧ (c.row = row → ls c.col col = false) := by
  have h1 : ¬ cc c.row c.col 0 row col 0 < 0 := fun hx => by
    have := naP_iff (l := plP c) (p := (row, col)) |>.2 hx
    rw [this] at h
    cases h
  unfold cc or3 ct at h1
  constructor
  · cases hl : ls c.row row with
    | false => rfl
    | true => rw [hl] at h1; simp at h1
  · intro e
    cases hl : ls c.col col with
    | false => rfl
    | true =>
      exfalso
      apply h1
      have hs : ls row row = false := by
        cases hr : ls row row with
        | false => rfl
        | true =>
          rw [e, hr] at h1
          simp at h1
      rw [e, hs, hl]
      simp
/-- A list of one small cell. -/
theorem ofL_one (x : Sp) : ofL [x] = [spC x] := rfl

end Go.Proofs.YtmpnofbhbglfpaaGreatDoor
