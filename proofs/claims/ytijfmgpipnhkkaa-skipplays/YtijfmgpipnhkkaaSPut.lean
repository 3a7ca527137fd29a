/-
  The contracts of part (no walk under way) and of Put.
-/
import Derived.Test.YtijfmgpipnhkkaaSFst
namespace Go.Proofs.Ytijfmgpipnhkkaa
open Go.RowKit Go.BigFrame Go.Sort
attribute [local go_sem] size_bstr toList_bstr ls_def

theorem Ls.setW {w : World} {l hd : Nat} {T : List Tw} {v : Value} {xs : List Value} (h : Ls w l hd T v xs) : Ls (w.setCell ⟨l, 13, none⟩ (.slice none 0 0)) l hd T (.slice none 0 0) [] := by
  have hne : ∀ t ∈ hdT hd :: T, t.b ≠ l := fun t ht e => by
    obtain ⟨A, B, e2⟩ := List.append_of_mem ht
    have := h.ch.at_ A t B e2
    unfold TwAt at this
    rw [e, h.blk] at this
    cases this
  exact ⟨h.blk.setW _, h.ch.kept fun t ht => heap_set_other _ (hne t ht), h.asc, h.hgt, h.may, Or.inl ⟨rfl, rfl⟩⟩
theorem own_zero {w : World} {B : Nat} {e : TypeId} {sz : Nat} {v : Value} (h : w.ownsRow B e sz v 0 []) : ∃ p cap, v = .slice p 0 cap := by
  rcases h.2 with ⟨rfl, _⟩ | ⟨g, cap, cur, rfl, _⟩
  · exact ⟨none, 0, rfl⟩
  · exact ⟨_, _, rfl⟩

set_option maxHeartbeats 2000000 in
set_option maxRecDepth 100000 in
theorem part_none (l hd : Nat) (T : List Tw) (v : Value) (w : World) (h : Ls w l hd T v []) :
    Calls Try.prog 20 #[.pointer (some ⟨l, 0, none⟩)] w fun e w' => (∃ u, e = .returned u) ∧ Ls w' l hd T (.slice none 0 0) [] ∧ Kp w w' (fun i => i = l) := by
  have hwk := h.blk.walks
  have hfr := h.blk.free 13
  obtain ⟨p, cap, rfl⟩ := h.row.len
  simp only [List.length_nil] at hwk
  go_enter Try.func20, Try.ntmps20
  go_wp2
  go_loop [9] (fun s9 => s9 = .int .i64 0) (fun _ => 0)
  case atStart => rfl
  case round =>
    subst hrel
    go_wp2
    go_end0
    exact ⟨⟨_, rfl⟩, h.setW, (Kp.refl _ _).setCell _ (Or.inl rfl)⟩

/-- What a Put makes of the towers. -/
def PutT (c : Cl) (h n0 : Nat) (T T' : List Tw) : Prop :=
  (∃ A t B, T = A ++ t :: B ∧ T' = A ++ ⟨t.b, c, t.h⟩ :: B ∧ ccl t.c c = 0 ∧ (∀ x ∈ A, ccl x.c c < 0) ∧ (∀ x ∈ B, 0 < ccl x.c c)) ∨
  (∃ A B b, T = A ++ B ∧ T' = A ++ ⟨b, c, h⟩ :: B ∧ n0 ≤ b ∧ (∀ x ∈ A, ccl x.c c < 0) ∧ (∀ x ∈ B, 0 < ccl x.c c))
theorem PutT.cells {c : Cl} {h n0 : Nat} {T T' : List Tw} (k : PutT c h n0 T T') : T'.map (fun t => t.c) = putC c (T.map (fun t => t.c)) := by
  rcases k with ⟨A, t, B, rfl, rfl, h0, hA, hB⟩ | ⟨A, B, b, rfl, rfl, _, hA, hB⟩
  · simp only [List.map_append, List.map_cons]
    rw [putC_old (fun x hx => by obtain ⟨y, hy, rfl⟩ := List.mem_map.1 hx; exact hA y hy) h0 (fun x hx => by obtain ⟨y, hy, rfl⟩ := List.mem_map.1 hx; exact hB y hy)]
  · simp only [List.map_append, List.map_cons]
    rw [putC_new (fun x hx => by obtain ⟨y, hy, rfl⟩ := List.mem_map.1 hx; exact hA y hy) (fun x hx => by obtain ⟨y, hy, rfl⟩ := List.mem_map.1 hx; exact hB y hy)]
theorem PutT.foot {c : Cl} {h n0 : Nat} {T T' : List Tw} (k : PutT c h n0 T T') {l hd i : Nat} {v : Value} (hi : Ow l hd T' (.slice none 0 0) i) : Ow l hd T v i ∨ n0 ≤ i := by
  rcases hi with rfl | rfl | ⟨t, ht, rfl⟩ | hi
  · exact Or.inl (Or.inl rfl)
  · exact Or.inl (Or.inr (Or.inl rfl))
  · rcases k with ⟨A, u, B, rfl, rfl, _⟩ | ⟨A, B, b, rfl, rfl, hb, _⟩
    · rcases List.mem_append.1 ht with ht | ht
      · exact Or.inl (Or.inr (Or.inr (Or.inl ⟨t, by simp [ht], rfl⟩)))
      · rcases List.mem_cons.1 ht with rfl | ht
        · exact Or.inl (Or.inr (Or.inr (Or.inl ⟨u, by simp, rfl⟩)))
        · exact Or.inl (Or.inr (Or.inr (Or.inl ⟨t, by simp [ht], rfl⟩)))
    · rcases List.mem_append.1 ht with ht | ht
      · exact Or.inl (Or.inr (Or.inr (Or.inl ⟨t, by simp [ht], rfl⟩)))
      · rcases List.mem_cons.1 ht with rfl | ht
        · exact Or.inr hb
        · exact Or.inl (Or.inr (Or.inr (Or.inl ⟨t, by simp [ht], rfl⟩)))
  · cases hi
theorem PutT.length {c : Cl} {h n0 : Nat} {T T' : List Tw} (k : PutT c h n0 T T') : T'.length ≤ T.length + 1 := by
  rcases k with ⟨A, t, B, rfl, rfl, _⟩ | ⟨A, B, b, rfl, rfl, _⟩ <;> simp <;> omega

end Go.Proofs.Ytijfmgpipnhkkaa
