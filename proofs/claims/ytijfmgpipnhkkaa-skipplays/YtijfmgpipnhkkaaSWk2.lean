/-
  A step of a walk that has its cells by itself, and of one that has told all.
-/
import Derived.Test.YtijfmgpipnhkkaaSWk
namespace Go.Proofs.Ytijfmgpipnhkkaa
open Go.RowKit Go.BigFrame Go.Sort
attribute [local go_sem] size_bstr toList_bstr ls_def

set_option maxHeartbeats 4000000 in
set_option maxRecDepth 100000 in
/-- One step, where nothing is left. -/
theorem next_end (l hd k : Nat) (T : List Tw) (F : Nat → Prop) (R : List Cl) (w : World) (v : Value) (xs : List Value) (rest : Value) (h : St l hd k T F R w v xs [] rest []) :
    Calls Try.prog 47 #[.pointer (some ⟨k, 0, none⟩)] w fun e w' => e = .returned (.tuple #[clV zC, .bool false]) ∧ St l hd k T F [] w' v xs [] rest [] ∧ Kp w w' F := by
  have hblk := h.blk
  rw [nxt_nil, pt_none] at hblk
  obtain ⟨q, cap, e1, _, _, _⟩ := h.row
  rw [e1] at hblk
  simp only [List.length_nil] at hblk
  have hR : R = [] := by rw [h.all]; rfl
  have h' : St l hd k T F [] w v xs [] rest [] := hR ▸ h
  have hW0 : Below w.heap.size w (w.alloc (.cells #[.string ⟨#[]⟩, .string ⟨#[]⟩, .int .u64 0, .bool false, .string ⟨#[]⟩] 34)) := (Below.refl _ _).alloc (Nat.le_refl _) _
  have hr0 : (w.alloc (.cells #[.string ⟨#[]⟩, .string ⟨#[]⟩, .int .u64 0, .bool false, .string ⟨#[]⟩] 34)).heap[w.heap.size]? = some (.cells #[.string ⟨#[]⟩, .string ⟨#[]⟩, .int .u64 0, .bool false, .string ⟨#[]⟩] 34 (0, 0)) := heap_alloc_new _ _
  generalize hw0 : w.alloc (.cells #[.string ⟨#[]⟩, .string ⟨#[]⟩, .int .u64 0, .bool false, .string ⟨#[]⟩] 34) = w0 at *
  have hkl := blk_lt hblk
  have hb0 := (hW0.block k hkl).trans hblk
  obtain ⟨k0, k1, k2, k3⟩ := walk_cells hb0
  have hS0 := h'.kept hW0.size fun i hi => hW0.block i (h'.lt i hi)
  have HH : Hid _ := h'
  have HS0 : Hid _ := hS0
  obtain ⟨r0, r1, r2, r3, r4, g0, g1, g2, g3, g4⟩ := zero_cells hr0
  clear h h' hS0 hR e1 hblk
  go_enter Try.func47, Try.ntmps47
  go_wp2
  generalize hW : ((((w0.setCell ⟨w.heap.size, 0, none⟩ _).setCell ⟨w.heap.size, 1, none⟩ _).setCell ⟨w.heap.size, 2, none⟩ _).setCell ⟨w.heap.size, 3, none⟩ _).setCell ⟨w.heap.size, 4, none⟩ _ = W'
  obtain ⟨x0, x1, x2, x3, x4⟩ := set5_reads r0 r1 r2 r3 r4 hW
  have hF : ∀ i, F i → i ≠ w.heap.size := fun i hi e => by have := HH.out.lt i hi; omega
  have hK2 : Kp w w0 F := Kp.of_below F hW0
  have hK3 : Kp w W' F := by
    rw [← hW]
    exact ((((hK2.setCell _ (Or.inr (Nat.le_refl _))).setCell _ (Or.inr (Nat.le_refl _))).setCell _ (Or.inr (Nat.le_refl _))).setCell _ (Or.inr (Nat.le_refl _))).setCell _ (Or.inr (Nat.le_refl _))
  have hK4 : Kp w0 W' (fun i => i = w.heap.size) := by
    rw [← hW]
    exact (((((Kp.refl w0 (fun i => i = w.heap.size)).setCell _ (Or.inl rfl)).setCell _ (Or.inl rfl)).setCell _ (Or.inl rfl)).setCell _ (Or.inl rfl)).setCell _ (Or.inl rfl)
  have hS3 : St l hd k T F [] W' v xs [] rest [] := HS0.out.kept hK4.size fun i hi => hK4.block i (HS0.out.lt i hi) (hF i hi)
  refine bodyPost_ret (v := .tuple #[clV zC, .bool false]) (by simp [results, Try.results47, go_sem, x0, x1, x2, x3, x4]; rfl) rfl ⟨rfl, hS3, hK3⟩

set_option maxHeartbeats 4000000 in
set_option maxRecDepth 100000 in
/-- One step, where the walk has its cells by itself. -/
theorem next_rest (l hd k : Nat) (T : List Tw) (F : Nat → Prop) (R : List Cl) (w : World) (v : Value) (xs : List Value) (c : Cl) (rest : Value) (rs : List Cl) (h : St l hd k T F R w v xs [] rest (c :: rs)) :
    Calls Try.prog 47 #[.pointer (some ⟨k, 0, none⟩)] w fun e w' => e = .returned (.tuple #[clV c, .bool true]) ∧ (∃ rest', St l hd k T F rs w' v xs [] rest' rs) ∧ Kp w w' F := by
  have hblk := h.blk
  rw [nxt_nil, pt_none] at hblk
  obtain ⟨q, cap, e1, hlc, hcm, hrow⟩ := id h.row
  obtain ⟨g, off, rfl, hR, curg, hcurg⟩ := hrow (by simp)
  rw [e1] at hblk
  simp only [List.length_cons] at hblk hlc
  have hFg : F g := h.foot g (Or.inr (Or.inr (by rw [e1]; rfl)))
  have hgk : g ≠ k := fun e => h.row.ne h.blk (by simp) (by rw [e1, e]; rfl)
  have hW0 : Below w.heap.size w (w.alloc (.cells #[.string ⟨#[]⟩, .string ⟨#[]⟩, .int .u64 0, .bool false, .string ⟨#[]⟩] 34)) := (Below.refl _ _).alloc (Nat.le_refl _) _
  have hr0 : (w.alloc (.cells #[.string ⟨#[]⟩, .string ⟨#[]⟩, .int .u64 0, .bool false, .string ⟨#[]⟩] 34)).heap[w.heap.size]? = some (.cells #[.string ⟨#[]⟩, .string ⟨#[]⟩, .int .u64 0, .bool false, .string ⟨#[]⟩] 34 (0, 0)) := heap_alloc_new _ _
  generalize hw0 : w.alloc (.cells #[.string ⟨#[]⟩, .string ⟨#[]⟩, .int .u64 0, .bool false, .string ⟨#[]⟩] 34) = w0 at *
  have hkl := blk_lt hblk
  have hgl := h.lt g hFg
  have hb0 := (hW0.block k hkl).trans hblk
  have hR0 := hR.step hW0 hgl
  obtain ⟨k0, k1, k2, k3⟩ := walk_cells hb0
  obtain ⟨d0, d1, d2, d3, d4⟩ := hR0 0 (by simp)
  simp only [Nat.zero_mul, Nat.add_zero, List.getElem_cons_zero] at d0 d1 d2 d3 d4
  have hS0 := h.kept hW0.size fun i hi => hW0.block i (h.lt i hi)
  have HH : Hid _ := h
  have HS0 : Hid _ := hS0
  have HLC : Hid _ := hlc
  have hi0 : (0 : Int) < ((rs.length + 1 : Nat) : Int) := by omega
  have hi1 : (1 : Int) ≤ ((rs.length + 1 : Nat) : Int) := by omega
  have hi2 : ((rs.length + 1 : Nat) : Int) ≤ (cap : Int) := by omega
  clear hS0 h hblk hR hrow hR0 hlc hcurg
  go_enter Try.func47, Try.ntmps47
  go_upto_region 7 with fail
  have hW1 : Below w0.heap.size w0 (w0.alloc (.cells #[.string (bstr c.row), .string (bstr c.col), .int .u64 c.ver, .bool c.gone, .string (bstr c.val)] 34)) := (Below.refl _ _).alloc (Nat.le_refl _) _
  have hc1 := CellAt.new w0 34 c.row c.col c.ver c.gone c.val
  obtain ⟨w1, hw1⟩ : ∃ w1, w1 = w0.alloc (.cells #[.string (bstr c.row), .string (bstr c.col), .int .u64 c.ver, .bool c.gone, .string (bstr c.val)] 34) := ⟨_, rfl⟩
  rw [← hw1] at hW1 hc1 ⊢
  clear hw1 hw0 k0 k1 k2 k3 d0 d1 d2 d3 d4
  have hb1 := (hW1.block k (blk_lt hb0)).trans hb0
  have hr1 := (hW1.block _ (blk_lt hr0)).trans hr0
  obtain ⟨k0, k1, k2, k3⟩ := walk_cells hb1
  go_upto_region 8 with fail
  obtain ⟨Z, hZ⟩ : ∃ Z, Z = Value.slice (if cap = 1 then some ⟨g, off, none⟩ else some ⟨g, off + 5, none⟩) rs.length (cap - 1) := ⟨_, rfl⟩
  rw [← hZ]
  have hb2 := (walk_set hb1 Z).2
  have hne : w.heap.size ≠ k := by omega
  have hr2 : (w1.setCell ⟨k, 1, none⟩ Z).heap[w.heap.size]? = _ := (heap_set_other _ hne).trans hr1
  have hc2 : CellAt (w1.setCell ⟨k, 1, none⟩ Z) w0.heap.size c.row c.col c.ver c.gone c.val := by
    have hb : ∀ o, (w1.setCell ⟨k, 1, none⟩ Z).cell? ⟨w0.heap.size, o, none⟩ = w1.cell? ⟨w0.heap.size, o, none⟩ := fun o => by
      have := heap_set_other (w := w1) (b := k) (o := 1) (i := w0.heap.size) Z (by have := hW0.size; omega)
      simp only [World.cell?, this]
    exact ⟨by rw [hb]; exact hc1.c0, by rw [hb]; exact hc1.c1, by rw [hb]; exact hc1.c2, by rw [hb]; exact hc1.c3, by rw [hb]; exact hc1.c4⟩
  have hK2 : Kp w (w1.setCell ⟨k, 1, none⟩ Z) F := ((Kp.of_below F hW0).trans (Kp.of_below (fun _ => False) hW1) (fun _ h => h.elim)).setCell _ (Or.inl (HH.out.foot k (Or.inr (Or.inl rfl))))
  have hS2 : St l hd k T F rs (w1.setCell ⟨k, 1, none⟩ Z) v xs [] Z rs := by
    have h1 := HS0.out.kept hW1.size fun i hi => hW1.block i (HS0.out.lt i hi)
    have hko := walk_ne h1.blk h1.ls
    have hZs : ∀ i, sblk Z = some i → i = g := fun i hi => by
      rw [hZ] at hi
      split at hi <;> (cases hi; rfl)
    refine ⟨h1.ls.kept fun i hi => heap_set_other _ (fun e => hko (e ▸ hi)), by rw [nxt_nil, pt_none]; exact hb2, h1.suf, ?_, rfl, ?_, ?_, ?_, ?_⟩
    · have hlc := HLC.out
      refine ⟨_, _, hZ, by omega, by omega, fun hn => ?_⟩
      have hp : 0 < rs.length := List.length_pos_iff.2 hn
      rw [if_neg (by omega)]
      obtain ⟨q2, cap2, e2, _, _, h3⟩ := h1.row
      obtain ⟨g2, off2, e3, hR2, cur2, hcur2⟩ := h3 (by simp)
      rw [e1, e3] at e2
      cases e2
      have hd := hR2.drop 1
      simp only [Nat.one_mul, List.drop_one, List.tail_cons] at hd
      have hsg := heap_set_other (w := w1) (b := k) (o := 1) (i := g) Z hgk
      refine ⟨g, off + 5, rfl, hd.same fun o => ?_, cur2, hsg.trans hcur2⟩
      simp only [World.cell?, hsg]
    · rcases h1.way with ⟨_, _, hw⟩ | hw
      · cases hw
      · exact Or.inr hw
    · intro x hx
      refine h1.may x ?_
      rw [h1.all]
      simp [hx]
    · intro i hi
      rcases hi with hi | hi | hi
      · exact h1.foot i (Or.inl hi)
      · exact h1.foot i (Or.inr (Or.inl hi))
      · rw [hZs i hi]; exact hFg
    · intro i hi
      have := h1.lt i hi
      show i < (w1.heap.modify _ _).size
      rw [Array.size_modify]
      exact this
  obtain ⟨w2, hw2⟩ : ∃ w2, w2 = w1.setCell ⟨k, 1, none⟩ Z := ⟨_, rfl⟩
  rw [← hw2] at hb2 hr2 hc2 hK2 hS2 ⊢
  clear hw2 k0 k1 k2 k3 hb1 hr1 hc1 hW1 hZ
  obtain ⟨e0, e1, e2, e3, e4⟩ := id hc2
  obtain ⟨r0, r1, r2, r3, r4, g0, g1, g2, g3, g4⟩ := zero_cells hr2
  go_wp2
  generalize hW : ((((w2.setCell ⟨w.heap.size, 0, none⟩ _).setCell ⟨w.heap.size, 1, none⟩ _).setCell ⟨w.heap.size, 2, none⟩ _).setCell ⟨w.heap.size, 3, none⟩ _).setCell ⟨w.heap.size, 4, none⟩ _ = W'
  obtain ⟨x0, x1, x2, x3, x4⟩ := set5_reads r0 r1 r2 r3 r4 hW
  have hF : ∀ i, F i → i ≠ w.heap.size := fun i hi e => by have := HH.out.lt i hi; omega
  have hK3 : Kp w W' F := by
    rw [← hW]
    exact ((((hK2.setCell _ (Or.inr (Nat.le_refl _))).setCell _ (Or.inr (Nat.le_refl _))).setCell _ (Or.inr (Nat.le_refl _))).setCell _ (Or.inr (Nat.le_refl _))).setCell _ (Or.inr (Nat.le_refl _))
  have hK4 : Kp w2 W' (fun i => i = w.heap.size) := by
    rw [← hW]
    exact (((((Kp.refl w2 (fun i => i = w.heap.size)).setCell _ (Or.inl rfl)).setCell _ (Or.inl rfl)).setCell _ (Or.inl rfl)).setCell _ (Or.inl rfl)).setCell _ (Or.inl rfl)
  have hS3 : St l hd k T F rs W' v xs [] Z rs := hS2.kept hK4.size fun i hi => hK4.block i (hS2.lt i hi) (hF i hi)
  refine bodyPost_ret (v := .tuple #[clV c, .bool true]) (by simp [results, Try.results47, go_sem, x0, x1, x2, x3, x4]) rfl ⟨rfl, ⟨Z, hS3⟩, hK3⟩

/-- One step of a walk. -/
theorem next_any (l hd k : Nat) (T : List Tw) (F : Nat → Prop) (R : List Cl) (w : World) (h : Stt l hd k T F R w) :
    Calls Try.prog 47 #[.pointer (some ⟨k, 0, none⟩)] w fun e w' => Kp w w' F ∧ ((R = [] ∧ e = .returned (.tuple #[clV zC, .bool false]) ∧ Stt l hd k T F [] w') ∨ ∃ c R', R = c :: R' ∧ mayCl c = true ∧ e = .returned (.tuple #[clV c, .bool true]) ∧ Stt l hd k T F R' w') := by
  obtain ⟨v, xs, B, rest, rs, h⟩ := h
  have hR := h.all
  cases B with
  | cons u B =>
    refine (next_at l hd k T F R w v xs u B rest rs h).mono ?_
    rintro e w' ⟨rfl, h1, h2⟩
    exact ⟨h2, Or.inr ⟨u.c, _, by rw [hR]; rfl, h.may _ (by rw [hR]; simp), rfl, ⟨v, xs, B, rest, rs, h1⟩⟩⟩
  | nil =>
    cases rs with
    | nil =>
      refine (next_end l hd k T F R w v xs rest h).mono ?_
      rintro e w' ⟨rfl, h1, h2⟩
      exact ⟨h2, Or.inl ⟨by rw [hR]; rfl, rfl, ⟨v, xs, [], rest, [], h1⟩⟩⟩
    | cons c rs =>
      refine (next_rest l hd k T F R w v xs c rest rs h).mono ?_
      rintro e w' ⟨rfl, ⟨rest', h1⟩, h2⟩
      exact ⟨h2, Or.inr ⟨c, rs, by rw [hR]; rfl, h.may _ (by rw [hR]; simp), rfl, ⟨v, xs, [], rest', rs, h1⟩⟩⟩

end Go.Proofs.Ytijfmgpipnhkkaa
