/-
  The program's files and the document's: the same, step by step.
-/
import Derived.Test.YtbnenpfphbdmpaaXDoc3
namespace Go.Proofs.Ytbnenpfphbdmpaa
open Go.RowKit

theorem srt_ext : ∀ {A B : List Fl}, Srt A → Srt B → (∀ x, x ∈ A ↔ x ∈ B) → A = B
  | [], [], _, _, _ => rfl
  | [], b :: B, _, _, h => by have := (h b).2 (by simp); cases this
  | a :: A, [], _, _, h => by have := (h a).1 (by simp); cases this
  | a :: A, b :: B, hA, hB, h => by
    obtain ⟨a1, a2⟩ := List.pairwise_cons.1 hA
    obtain ⟨b1, b2⟩ := List.pairwise_cons.1 hB
    have e : a = b := by
      rcases List.mem_cons.1 ((h a).1 (by simp)) with e | e
      · exact e
      · rcases List.mem_cons.1 ((h b).2 (by simp)) with e' | e'
        · exact e'.symm
        · exact absurd (lt_tr (b1 a e) (a1 b e')) (lt_irr _)
    subst e
    rw [srt_ext a2 b2 fun x => ?_]
    have hx := h x
    rw [List.mem_cons, List.mem_cons] at hx
    constructor
    · intro k
      rcases hx.1 (Or.inr k) with e | e
      · subst e; exact absurd (a1 x k) (lt_irr _)
      · exact e
    · intro k
      rcases hx.2 (Or.inr k) with e | e
      · subst e; exact absurd (b1 x k) (lt_irr _)
      · exact e
theorem find_Pu (s : List UInt8) (L : List Fl) : (Pu L).find? (fun f => f.1 == s) = (lk s L).map pu := by
  unfold Pu lk
  rw [List.find?_map]
  rfl
theorem isP_Pu (s : List UInt8) (L : List Fl) : isP s (Pu L) = (lk s L).isSome := by
  unfold isP
  rw [find_Pu]
  cases lk s L <;> rfl
theorem ofP_Pu (s : List UInt8) (L : List Fl) : (ofP s (Pu L)).2.1 = by_ (lk s L) ∧ ((ofP s (Pu L)).2.2 : Int) = sy (lk s L) ∧ (ofP s (Pu L)).2.2 = syN (lk s L) := by
  unfold ofP
  rw [find_Pu]
  cases lk s L <;> exact ⟨rfl, rfl, rfl⟩
theorem reP_Pu (s : List UInt8) (L : List Fl) : reP s (Pu L) = fc (lk s L) := by
  unfold reP
  rw [isP_Pu]
  cases lk s L <;> rfl
theorem okN_eq (s : List UInt8) : decide (1 ≤ s.length ∧ s.length ≤ 64) = okN s := by
  unfold okN
  exact Bool.decide_and (p := 0 < s.length) (q := s.length ≤ 64)
/-- Append. -/
theorem tie_app {L : List Fl} {f' : Fl} {s t : List UInt8} (h1 : f'.name = s) (h2 : f'.bytes = by_ (lk s L) ++ t) (h3 : f'.syn = syN (lk s L)) : wthP (s, (ofP s (Pu L)).2.1 ++ t, (ofP s (Pu L)).2.2) (Pu L) = Pu (wth f' L) := by
  obtain ⟨o1, _, o3⟩ := ofP_Pu s L
  rw [Pu_wth, o1, o3, ← h2, ← h3, ← h1]
  rfl
/-- Sync. -/
theorem tie_syn {L : List Fl} {s : List UInt8} (h : isP s (Pu L) = true) : wthP (s, (ofP s (Pu L)).2.1, (ofP s (Pu L)).2.1.length) (Pu L) = Pu (synL s L) := by
  obtain ⟨o1, _, _⟩ := ofP_Pu s L
  rw [isP_Pu] at h
  cases e : lk s L with
  | none => rw [e] at h; cases h
  | some f =>
    have hs : synL s L = wth { f with syn := f.bytes.length } L := by unfold synL; rw [e]
    rw [hs, Pu_wth, o1, e]
    have hn := (lk_some e).2
    rw [← hn]
    rfl
/-- Rename, to another name. -/
theorem tie_ren {L : List Fl} (hS : Srt L) {s t : List UInt8} {f : Fl} (e : lk s L = some f) : wthP (t, (ofP s (Pu L)).2.1, (ofP s (Pu L)).2.2) (wtoP s (Pu L)) = Pu (wth { f with name := t } (wto s (wto t L))) := by
  obtain ⟨o1, _, o3⟩ := ofP_Pu s L
  rw [o1, o3, e, ← Pu_wto]
  have h1 : wth { f with name := t } (wto s (wto t L)) = wth { f with name := t } (wto s L) := by
    refine srt_ext (wth_srt (wto_srt (wto_srt hS))) (wth_srt (wto_srt hS)) fun x => ?_
    rw [wth_mem (wto_srt (wto_srt hS)), wth_mem (wto_srt hS), wto_mem, wto_mem, wto_mem]
    constructor
    · rintro (h | ⟨⟨⟨a, _⟩, c⟩, d⟩)
      · exact Or.inl h
      · exact Or.inr ⟨⟨a, c⟩, d⟩
    · rintro (h | ⟨⟨a, c⟩, d⟩)
      · exact Or.inl h
      · exact Or.inr ⟨⟨⟨a, d⟩, c⟩, d⟩
  rw [h1, Pu_wth]
  rfl
/-- Rename, to the same name. -/
theorem tie_ren_same {L : List Fl} (hS : Srt L) {s : List UInt8} {f : Fl} (e : lk s L = some f) : wthP (s, (ofP s (Pu L)).2.1, (ofP s (Pu L)).2.2) (wtoP s (Pu L)) = Pu L := by
  obtain ⟨o1, _, o3⟩ := ofP_Pu s L
  obtain ⟨hm, hn⟩ := lk_some e
  rw [o1, o3, e, ← Pu_wto]
  have h1 : wth f (wto s L) = L := by
    refine srt_ext (wth_srt (wto_srt hS)) hS fun x => ?_
    rw [wth_mem (wto_srt hS), wto_mem]
    constructor
    · rintro (h | ⟨⟨a, _⟩, _⟩)
      · subst h; exact hm
      · exact a
    · intro hx
      by_cases h : x.name = s
      · exact Or.inl (srt_inj hS hx hm (by rw [h, hn]))
      · exact Or.inr ⟨⟨hx, h⟩, by rw [hn]; exact h⟩
  have h2 : Pu (wth f (wto s L)) = Pu L := by rw [h1]
  rw [Pu_wth] at h2
  rw [← h2, ← hn]
  rfl
/-- A loss of power. -/
theorem tie_crash {L L' : List Fl} {ks : List Int} (h : Cr ks L.length L L') : crP ks (Pu L) = Pu L' := by
  apply List.ext_getElem
  · rw [crP_len]
    simp [Pu, h.len]
  · intro j h1 h2
    have hj : j < L.length := by rw [crP_len] at h1; simpa [Pu] using h1
    obtain ⟨v', hv⟩ := h.old j hj hj
    simp only [crP, List.getElem_mapIdx, Pu, List.getElem_map]
    rw [hv]
    rfl
/-- The document's files stand where the disk does not reach. -/
theorem FArg.kp {w w' : World} {d m fr N : Nat} {L : List Fl} (h : Dk w d m L fr N) (hk : Kp w w' (Ft d m L)) {q : Option Addr} {cap : Nat} {P : List F3} (hP : FArg w q cap P) : FArg w' q cap P :=
  ⟨by
    rcases hP.or_ with h1 | ⟨b, off, h1, h2, h3⟩
    · exact Or.inl h1
    · obtain ⟨cur, hc⟩ := id h2
      have hb := hk.block b h2.lt (h.other hc ⟨by decide, by decide, by decide⟩)
      exact Or.inr ⟨b, off, h1, h2.block hb, fun i hi => (h3 i hi).block hb⟩, hP.le⟩

end Go.Proofs.Ytbnenpfphbdmpaa
