/-
  Files by their names: a list in the order of names; one found, put, taken out; how many bytes there are.
-/
import Derived.Test.YtnfnlfdplnekgaaDoorAid
import Derived.Sort.KeysCollected
namespace Go.Proofs.YtnfnlfdplnekgaaDoor.Ds

/-- A file: its name, its bytes, how many first ones are synced; the block in which it lies, and the slice of its bytes. -/
structure Fl where
  name : List UInt8
  bytes : List UInt8
  syn : Nat
  g : Nat
  v : Value

/-- In the order of names, no name twice. -/
def Srt (L : List Fl) : Prop := L.Pairwise (fun a b => a.name < b.name)
def lk (s : List UInt8) (L : List Fl) : Option Fl := L.find? (fun f => f.name == s)
def wth (f : Fl) : List Fl → List Fl
  | [] => [f]
  | x :: r => if x.name < f.name then x :: wth f r else if x.name = f.name then f :: r else f :: x :: r
def wto (s : List UInt8) (L : List Fl) : List Fl := L.filter (fun f => f.name != s)
/-- How many bytes all have. -/
def tot (L : List Fl) : Nat := (L.map (fun f => f.bytes.length)).sum
def nms (L : List Fl) : List (List UInt8) := L.map (·.name)

theorem lt_irr (a : List UInt8) : ¬ a < a := List.lt_irrefl a
theorem lt_tr {a b c : List UInt8} (h : a < b) (k : b < c) : a < c := List.lt_trans h k
theorem lt_tri (a b : List UInt8) : a < b ∨ a = b ∨ b < a := by
  by_cases h1 : a < b
  · exact Or.inl h1
  · by_cases h2 : b < a
    · exact Or.inr (Or.inr h2)
    · exact Or.inr (Or.inl (List.le_antisymm (List.not_lt.1 h2) (List.not_lt.1 h1)))
theorem lt_ne {a b : List UInt8} (h : a < b) : a ≠ b := fun e => lt_irr b (e ▸ h)

theorem wth_mem {f x : Fl} : ∀ {L : List Fl}, Srt L → (x ∈ wth f L ↔ x = f ∨ (x ∈ L ∧ x.name ≠ f.name))
  | [], _ => by simp [wth]
  | y :: r, h => by
    obtain ⟨h1, h2⟩ := List.pairwise_cons.1 h
    unfold wth
    split
    · rename_i hy
      rw [List.mem_cons, List.mem_cons, wth_mem h2]
      constructor
      · rintro (rfl | rfl | ⟨a, b⟩)
        · exact Or.inr ⟨Or.inl rfl, lt_ne hy⟩
        · exact Or.inl rfl
        · exact Or.inr ⟨Or.inr a, b⟩
      · rintro (rfl | ⟨rfl | a, b⟩)
        · exact Or.inr (Or.inl rfl)
        · exact Or.inl rfl
        · exact Or.inr (Or.inr ⟨a, b⟩)
    · rename_i hy
      split
      · rename_i he
        rw [List.mem_cons, List.mem_cons]
        constructor
        · rintro (rfl | a)
          · exact Or.inl rfl
          · exact Or.inr ⟨Or.inr a, fun e => lt_irr y.name (by have := h1 x a; rw [e, ← he] at this; exact this)⟩
        · rintro (rfl | ⟨rfl | a, b⟩)
          · exact Or.inl rfl
          · exact absurd he b
          · exact Or.inr a
      · rename_i he
        rw [List.mem_cons, List.mem_cons]
        constructor
        · rintro (rfl | rfl | a)
          · exact Or.inl rfl
          · exact Or.inr ⟨Or.inl rfl, he⟩
          · refine Or.inr ⟨Or.inr a, fun e => ?_⟩
            have h3 := h1 x a
            rw [e] at h3
            exact hy h3
        · rintro (rfl | ⟨rfl | a, b⟩)
          · exact Or.inl rfl
          · exact Or.inr (Or.inl rfl)
          · exact Or.inr (Or.inr a)
theorem wth_srt {f : Fl} : ∀ {L : List Fl}, Srt L → Srt (wth f L)
  | [], _ => by simp [wth, Srt]
  | y :: r, h => by
    obtain ⟨h1, h2⟩ := List.pairwise_cons.1 h
    unfold wth
    split
    · rename_i hy
      refine List.pairwise_cons.2 ⟨fun x hx => ?_, wth_srt h2⟩
      rcases (wth_mem h2).1 hx with rfl | ⟨a, _⟩
      · exact hy
      · exact h1 x a
    · rename_i hy
      split
      · rename_i he
        exact List.pairwise_cons.2 ⟨fun x hx => he ▸ h1 x hx, h2⟩
      · rename_i he
        have hlt : f.name < y.name := by
          rcases lt_tri f.name y.name with a | a | a
          · exact a
          · exact absurd a.symm he
          · exact absurd a hy
        refine List.pairwise_cons.2 ⟨fun x hx => ?_, h⟩
        rcases List.mem_cons.1 hx with rfl | hx
        · exact hlt
        · exact lt_tr hlt (h1 x hx)
theorem wto_mem {s : List UInt8} {x : Fl} {L : List Fl} : x ∈ wto s L ↔ x ∈ L ∧ x.name ≠ s := by simp [wto]
theorem wto_srt {s : List UInt8} {L : List Fl} (h : Srt L) : Srt (wto s L) := List.Pairwise.filter _ h

theorem lk_some {s : List UInt8} {L : List Fl} {f : Fl} (h : lk s L = some f) : f ∈ L ∧ f.name = s :=
  ⟨List.mem_of_find?_eq_some h, by simpa using List.find?_some h⟩
theorem lk_none {s : List UInt8} {L : List Fl} (h : lk s L = none) : ∀ f ∈ L, f.name ≠ s := fun f hf => by
  have := List.find?_eq_none.1 h f hf
  simpa using this
theorem srt_inj {L : List Fl} (h : Srt L) {a b : Fl} (ha : a ∈ L) (hb : b ∈ L) (e : a.name = b.name) : a = b := by
  induction L with
  | nil => simp at ha
  | cons y r ih =>
    obtain ⟨h1, h2⟩ := List.pairwise_cons.1 h
    rcases List.mem_cons.1 ha with rfl | ha' <;> rcases List.mem_cons.1 hb with rfl | hb'
    · rfl
    · exact absurd e (lt_ne (h1 b hb'))
    · exact absurd e.symm (lt_ne (h1 a ha'))
    · exact ih h2 ha' hb'
theorem lk_mem {L : List Fl} (h : Srt L) {f : Fl} (hf : f ∈ L) : lk f.name L = some f := by
  cases e : lk f.name L with
  | none => exact absurd rfl (lk_none e f hf)
  | some x =>
    obtain ⟨a, b⟩ := lk_some e
    rw [srt_inj h a hf b]
theorem lk_eq_none {L : List Fl} {s : List UInt8} (h : ∀ f ∈ L, f.name ≠ s) : lk s L = none := List.find?_eq_none.2 fun f hf => by simpa using h f hf
theorem lk_wth_same {L : List Fl} (h : Srt L) (f : Fl) : lk f.name (wth f L) = some f := lk_mem (wth_srt h) ((wth_mem h).2 (Or.inl rfl))
theorem lk_wth_other {L : List Fl} (h : Srt L) {f : Fl} {s : List UInt8} (hs : s ≠ f.name) : lk s (wth f L) = lk s L := by
  cases e : lk s L with
  | none =>
    refine lk_eq_none fun x hx => ?_
    rcases (wth_mem h).1 hx with rfl | ⟨a, _⟩
    · exact fun e => hs e.symm
    · exact lk_none e x a
  | some x =>
    obtain ⟨a, rfl⟩ := lk_some e
    exact lk_mem (wth_srt h) ((wth_mem h).2 (Or.inr ⟨a, hs⟩))
theorem lk_wto_same (L : List Fl) (s : List UInt8) : lk s (wto s L) = none := lk_eq_none fun _ hx => (wto_mem.1 hx).2
theorem lk_wto_other {L : List Fl} (h : Srt L) {t s : List UInt8} (hs : s ≠ t) : lk s (wto t L) = lk s L := by
  cases e : lk s L with
  | none => exact lk_eq_none fun x hx => lk_none e x (wto_mem.1 hx).1
  | some x =>
    obtain ⟨a, rfl⟩ := lk_some e
    exact lk_mem (wto_srt h) (wto_mem.2 ⟨a, hs⟩)
theorem wto_none {s : List UInt8} {L : List Fl} (h : lk s L = none) : wto s L = L := List.filter_eq_self.2 fun x hx => by simpa using lk_none h x hx

theorem tot_cons (x : Fl) (L : List Fl) : tot (x :: L) = x.bytes.length + tot L := by simp [tot]
theorem tot_mem {L : List Fl} {f : Fl} (h : f ∈ L) : f.bytes.length ≤ tot L := by
  induction L with
  | nil => simp at h
  | cons y r ih =>
    rw [tot_cons]
    rcases List.mem_cons.1 h with rfl | h
    · omega
    · have := ih h; omega
theorem tot_wth_new {f : Fl} : ∀ {L : List Fl}, Srt L → lk f.name L = none → tot (wth f L) = tot L + f.bytes.length
  | [], _, _ => by simp [wth, tot]
  | y :: r, h, hn => by
    obtain ⟨h1, h2⟩ := List.pairwise_cons.1 h
    have hne := lk_none hn y (by simp)
    unfold wth
    split
    · rw [tot_cons, tot_cons, tot_wth_new h2 (lk_eq_none fun x hx => lk_none hn x (by simp [hx]))]; omega
    · first | (rw [if_neg hne, tot_cons]; omega) | (rw [tot_cons]; omega)
theorem tot_wth_old {f o : Fl} : ∀ {L : List Fl}, Srt L → lk f.name L = some o → tot (wth f L) + o.bytes.length = tot L + f.bytes.length
  | [], _, h => by simp [lk] at h
  | y :: r, h, hs => by
    obtain ⟨h1, h2⟩ := List.pairwise_cons.1 h
    obtain ⟨a, b⟩ := lk_some hs
    unfold wth
    split
    · rename_i hy
      have hr : o ∈ r := by
        rcases List.mem_cons.1 a with rfl | a
        · exact absurd b (lt_ne hy)
        · exact a
      have := tot_wth_old (f := f) (o := o) h2 (b ▸ lk_mem h2 hr)
      rw [tot_cons, tot_cons]; omega
    · rename_i hy
      have hyf : y.name = f.name := by
        rcases List.mem_cons.1 a with rfl | a
        · exact b
        · have := h1 o a
          rw [b] at this
          exact absurd this hy
      rw [if_pos hyf, tot_cons, tot_cons]
      have : o = y := srt_inj h a (by simp) (by rw [b, hyf])
      subst this
      omega
theorem tot_wto {o : Fl} {s : List UInt8} : ∀ {L : List Fl}, Srt L → lk s L = some o → tot (wto s L) + o.bytes.length = tot L
  | [], _, h => by simp [lk] at h
  | y :: r, h, hs => by
    obtain ⟨h1, h2⟩ := List.pairwise_cons.1 h
    obtain ⟨a, b⟩ := lk_some hs
    rcases List.mem_cons.1 a with rfl | a
    · have e : wto s (o :: r) = r := by
        show List.filter _ (o :: r) = r
        rw [List.filter_cons_of_neg (by simpa using b)]
        exact List.filter_eq_self.2 fun x hx => by
          have := lt_ne (h1 x hx)
          rw [b] at this
          simpa using fun e => this e.symm
      rw [e, tot_cons]; omega
    · have hy : y.name ≠ s := by have := lt_ne (h1 o a); rw [b] at this; exact this
      have e : wto s (y :: r) = y :: wto s r := by
        show List.filter _ (y :: r) = y :: List.filter _ r
        rw [List.filter_cons_of_pos (by simpa using hy)]
      have := tot_wto (o := o) h2 (b ▸ lk_mem h2 a)
      rw [e, tot_cons, tot_cons]; omega
theorem len_wth (f : Fl) : ∀ L : List Fl, (wth f L).length ≤ L.length + 1
  | [] => by simp [wth]
  | y :: r => by
    have := len_wth f r
    unfold wth
    split
    · simp only [List.length_cons]; omega
    · split <;> simp only [List.length_cons] <;> omega
theorem len_wth_old {f o : Fl} : ∀ {L : List Fl}, Srt L → lk f.name L = some o → (wth f L).length = L.length
  | [], _, h => by simp [lk] at h
  | y :: r, h, hs => by
    obtain ⟨h1, h2⟩ := List.pairwise_cons.1 h
    obtain ⟨a, b⟩ := lk_some hs
    unfold wth
    split
    · rename_i hy
      have hr : o ∈ r := by
        rcases List.mem_cons.1 a with rfl | a
        · exact absurd b (lt_ne hy)
        · exact a
      have := len_wth_old (f := f) (o := o) h2 (b ▸ lk_mem h2 hr)
      simp only [List.length_cons, this]
    · rename_i hy
      have hyf : y.name = f.name := by
        rcases List.mem_cons.1 a with rfl | a
        · exact b
        · have := h1 o a
          rw [b] at this
          exact absurd this hy
      rw [if_pos hyf]
      simp
theorem wth_wth {f g : Fl} (e : g.name = f.name) : ∀ L : List Fl, wth f (wth g L) = wth f L
  | [] => by simp [wth, e, lt_irr]
  | y :: r => by
    have ih := wth_wth e r
    by_cases h1 : y.name < f.name
    · simp [wth, e, h1, ih]
    · by_cases h2 : y.name = f.name
      · simp [wth, e, h2, lt_irr]
      · simp [wth, e, h1, h2, lt_irr]
theorem len_wto (s : List UInt8) (L : List Fl) : (wto s L).length ≤ L.length := List.length_filter_le _ _

end Go.Proofs.YtnfnlfdplnekgaaDoor.Ds
