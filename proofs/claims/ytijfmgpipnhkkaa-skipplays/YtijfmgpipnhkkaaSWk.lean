/-
  A walk under way: what it has yet to tell; one step of it.
-/
import Derived.Test.YtijfmgpipnhkkaaSPut2
namespace Go.Proofs.Ytijfmgpipnhkkaa
open Go.RowKit Go.BigFrame Go.Sort
attribute [local go_sem] size_bstr toList_bstr ls_def

/-- The block of a slice. -/
def sblk : Value → Option Nat
  | .slice (some a) _ _ => some a.block
  | _ => none
/-- A slice of cells, somewhere in a row. -/
def Rs (w : World) (v : Value) (rs : List Cl) : Prop := ∃ q cap, v = .slice q rs.length cap ∧ rs.length ≤ cap ∧ cap ≤ maxLen ∧ (rs ≠ [] → ∃ g off, q = some ⟨g, off, none⟩ ∧ CRow w g off rs ∧ ∃ cur, w.heap[g]? = some (.cells cur 34 (0, 0)))
/-- A walk k of a list, with the cells R yet to tell, within the blocks F. -/
structure St (l hd k : Nat) (T : List Tw) (F : Nat → Prop) (R : List Cl) (w : World) (v : Value) (xs : List Value) (B : List Tw) (rest : Value) (rs : List Cl) : Prop where
  ls : Ls w l hd T v xs
  blk : w.heap[k]? = some (.cells #[pt (nxt 0 B), rest] 74 (0, 0))
  suf : ∃ A, T = A ++ B
  row : Rs w rest rs
  all : R = B.map (fun t => t.c) ++ rs
  way : xs = [pt (some k)] ∧ rest = .slice none 0 0 ∧ rs = [] ∨ xs = [] ∧ B = []
  may : ∀ c ∈ R, mayCl c = true
  foot : ∀ i, Ow l hd T v i ∨ i = k ∨ sblk rest = some i → F i
  lt : ∀ i, F i → i < w.heap.size
def Stt (l hd k : Nat) (T : List Tw) (F : Nat → Prop) (R : List Cl) (w : World) : Prop := ∃ v xs B rest rs, St l hd k T F R w v xs B rest rs
theorem Rs.kept {w w' : World} {v : Value} {rs : List Cl} (h : Rs w v rs) (hk : ∀ i, sblk v = some i → w'.heap[i]? = w.heap[i]?) : Rs w' v rs := by
  obtain ⟨q, cap, e, h1, h2, h3⟩ := h
  refine ⟨q, cap, e, h1, h2, fun hn => ?_⟩
  obtain ⟨g, off, e2, hr, cur, hc⟩ := h3 hn
  have hb := hk g (by rw [e, e2]; rfl)
  refine ⟨g, off, e2, hr.same fun o => ?_, cur, hb.trans hc⟩
  simp only [World.cell?, hb]
theorem St.kept {l hd k : Nat} {T : List Tw} {F : Nat → Prop} {R : List Cl} {w w' : World} {v : Value} {xs : List Value} {B : List Tw} {rest : Value} {rs : List Cl} (h : St l hd k T F R w v xs B rest rs) (hs : w.heap.size ≤ w'.heap.size) (hk : ∀ i, F i → w'.heap[i]? = w.heap[i]?) : St l hd k T F R w' v xs B rest rs :=
  ⟨h.ls.kept fun i hi => hk i (h.foot i (Or.inl hi)), (hk k (h.foot k (Or.inr (Or.inl rfl)))).trans h.blk, h.suf, h.row.kept fun i hi => hk i (h.foot i (Or.inr (Or.inr hi))), h.all, h.way, h.may, h.foot, fun i hi => Nat.lt_of_lt_of_le (h.lt i hi) hs⟩
theorem Stt.kept {l hd k : Nat} {T : List Tw} {F : Nat → Prop} {R : List Cl} {w w' : World} (h : Stt l hd k T F R w) (hs : w.heap.size ≤ w'.heap.size) (hk : ∀ i, F i → w'.heap[i]? = w.heap[i]?) : Stt l hd k T F R w' := by
  obtain ⟨v, xs, B, rest, rs, h⟩ := h
  exact ⟨v, xs, B, rest, rs, h.kept hs hk⟩
theorem Stt.below {l hd k : Nat} {T : List Tw} {F : Nat → Prop} {R : List Cl} {w w' : World} (h : Stt l hd k T F R w) (hb : Below w.heap.size w w') : Stt l hd k T F R w' := by
  have h2 := h
  obtain ⟨v, xs, B, rest, rs, h1⟩ := h
  exact h2.kept hb.size fun i hi => hb.block i (h1.lt i hi)
theorem walk_set {w : World} {k : Nat} {a b : Value} {t : TypeId} (h : w.heap[k]? = some (.cells #[a, b] t (0, 0))) (u : Value) : (w.setCell ⟨k, 0, none⟩ u).heap[k]? = some (.cells #[u, b] t (0, 0)) ∧ (w.setCell ⟨k, 1, none⟩ u).heap[k]? = some (.cells #[a, u] t (0, 0)) := by
  constructor
  · rw [heap_set_same h]; rfl
  · rw [heap_set_same h]; rfl
theorem walk_cells {w : World} {k : Nat} {a b : Value} {t : TypeId} (h : w.heap[k]? = some (.cells #[a, b] t (0, 0))) : w.cell? ⟨k, 0, none⟩ = some a ∧ w.cell? ⟨k, 1, none⟩ = some b ∧ w.frozen? ⟨k, 0, none⟩ = false ∧ w.frozen? ⟨k, 1, none⟩ = false := by
  refine ⟨?_, ?_, ?_, ?_⟩ <;> simp [World.cell?, World.frozen?, h]
theorem walk_ne {w : World} {k : Nat} {a b : Value} (h : w.heap[k]? = some (.cells #[a, b] 74 (0, 0))) {l hd : Nat} {T : List Tw} {v : Value} {xs : List Value} (hL : Ls w l hd T v xs) : ¬ Ow l hd T v k := hL.other h (by decide)
theorem Rs.ne {w : World} {k : Nat} {a b : Value} (h : w.heap[k]? = some (.cells #[a, b] 74 (0, 0))) {v : Value} {rs : List Cl} (hr : Rs w v rs) (hn : rs ≠ []) : sblk v ≠ some k := fun e => by
  obtain ⟨q, cap, e1, _, _, h3⟩ := hr
  obtain ⟨g, off, e2, hR, cur, hc⟩ := h3 hn
  rw [e1, e2] at e
  cases e
  rw [h] at hc
  cases hc

theorem zero_cells {w : World} {n : Nat} {t : TypeId} (h : w.heap[n]? = some (.cells #[.string ⟨#[]⟩, .string ⟨#[]⟩, .int .u64 0, .bool false, .string ⟨#[]⟩] t (0, 0))) : w.cell? ⟨n, 0, none⟩ = some (.string ⟨#[]⟩) ∧ w.cell? ⟨n, 1, none⟩ = some (.string ⟨#[]⟩) ∧ w.cell? ⟨n, 2, none⟩ = some (.int .u64 0) ∧ w.cell? ⟨n, 3, none⟩ = some (.bool false) ∧ w.cell? ⟨n, 4, none⟩ = some (.string ⟨#[]⟩) ∧
    w.frozen? ⟨n, 0, none⟩ = false ∧ w.frozen? ⟨n, 1, none⟩ = false ∧ w.frozen? ⟨n, 2, none⟩ = false ∧ w.frozen? ⟨n, 3, none⟩ = false ∧ w.frozen? ⟨n, 4, none⟩ = false := by
  refine ⟨?_, ?_, ?_, ?_, ?_, ?_, ?_, ?_, ?_, ?_⟩ <;> simp [World.cell?, World.frozen?, h]

set_option maxHeartbeats 4000000 in
set_option maxRecDepth 100000 in
/-- One step, where a tower is at hand. -/
theorem next_at (l hd k : Nat) (T : List Tw) (F : Nat → Prop) (R : List Cl) (w : World) (v : Value) (xs : List Value) (u : Tw) (B : List Tw) (rest : Value) (rs : List Cl) (h : St l hd k T F R w v xs (u :: B) rest rs) :
    Calls Try.prog 47 #[.pointer (some ⟨k, 0, none⟩)] w fun e w' => e = .returned (.tuple #[clV u.c, .bool true]) ∧ St l hd k T F (B.map (fun t => t.c) ++ rs) w' v xs B rest rs ∧ Kp w w' F := by
  obtain ⟨A, hA⟩ := h.suf
  have hu0 : 0 < u.h := (h.ls.hgt u (by rw [hA]; simp)).1
  have hU := h.ls.ch.at_ (hdT hd :: A) u B (by rw [hA]; rfl)
  have hblk := h.blk
  rw [nxt_cons_yes hu0, pt_some] at hblk
  obtain ⟨q, hq⟩ : ∃ q, pt (nxt 0 B) = Value.pointer q := by cases nxt 0 B <;> exact ⟨_, rfl⟩
  have hlk : lnk u B 0 = nxt 0 B := by simp [lnk, hu0]
  have hW0 : Below w.heap.size w (w.alloc (.cells #[.string ⟨#[]⟩, .string ⟨#[]⟩, .int .u64 0, .bool false, .string ⟨#[]⟩] 34)) := (Below.refl _ _).alloc (Nat.le_refl _) _
  have hr0 : (w.alloc (.cells #[.string ⟨#[]⟩, .string ⟨#[]⟩, .int .u64 0, .bool false, .string ⟨#[]⟩] 34)).heap[w.heap.size]? = some (.cells #[.string ⟨#[]⟩, .string ⟨#[]⟩, .int .u64 0, .bool false, .string ⟨#[]⟩] 34 (0, 0)) := heap_alloc_new _ _
  generalize hw0 : w.alloc (.cells #[.string ⟨#[]⟩, .string ⟨#[]⟩, .int .u64 0, .bool false, .string ⟨#[]⟩] 34) = w0 at *
  have hkl := blk_lt hblk
  have hb0 := (hW0.block k hkl).trans hblk
  have hU0 : TwAt w0 u.b u.c (lnk u B) := (hW0.block u.b hU.lt).trans hU
  obtain ⟨k0, k1, k2, k3⟩ := walk_cells hb0
  obtain ⟨d0, d1, d2, d3, d4⟩ := hU0.cells
  have hS0 := h.kept hW0.size fun i hi => hW0.block i (h.lt i hi)
  have HH : Hid _ := h
  have HS0 : Hid _ := hS0
  have HLK : Hid _ := hlk
  have HQ : Hid _ := hq
  clear hA hS0 h hlk hq hblk hU
  go_enter Try.func47, Try.ntmps47
  go_upto_region 3 with fail
  have hW1 : Below w0.heap.size w0 (w0.alloc (.cells #[.string (bstr u.c.row), .string (bstr u.c.col), .int .u64 u.c.ver, .bool u.c.gone, .string (bstr u.c.val)] 34)) := (Below.refl _ _).alloc (Nat.le_refl _) _
  have hc1 := CellAt.new w0 34 u.c.row u.c.col u.c.ver u.c.gone u.c.val
  obtain ⟨w1, hw1⟩ : ∃ w1, w1 = w0.alloc (.cells #[.string (bstr u.c.row), .string (bstr u.c.col), .int .u64 u.c.ver, .bool u.c.gone, .string (bstr u.c.val)] 34) := ⟨_, rfl⟩
  rw [← hw1] at hW1 hc1 ⊢
  clear hw1 hw0 k0 k1 k2 k3 d0 d1 d2 d3 d4
  have hb1 := (hW1.block k (blk_lt hb0)).trans hb0
  have hU1 : TwAt w1 u.b u.c (lnk u B) := (hW1.block u.b hU0.lt).trans hU0
  have hr1 := (hW1.block _ (blk_lt hr0)).trans hr0
  obtain ⟨k0, k1, k2, k3⟩ := walk_cells hb1
  have hn := hU1.next (n := 0) (by omega)
  rw [HLK.out, HQ.out] at hn
  simp only [Nat.add_zero] at hn
  go_upto_region 4 with fail
  have hb2 := (walk_set hb1 (.pointer q)).1
  have hne : w.heap.size ≠ k := by omega
  have hr2 : (w1.setCell ⟨k, 0, none⟩ (.pointer q)).heap[w.heap.size]? = _ := (heap_set_other _ hne).trans hr1
  have hc2 : CellAt (w1.setCell ⟨k, 0, none⟩ (.pointer q)) w0.heap.size u.c.row u.c.col u.c.ver u.c.gone u.c.val := by
    have hb : ∀ o, (w1.setCell ⟨k, 0, none⟩ (.pointer q)).cell? ⟨w0.heap.size, o, none⟩ = w1.cell? ⟨w0.heap.size, o, none⟩ := fun o => by
      have := heap_set_other (w := w1) (b := k) (o := 0) (i := w0.heap.size) (.pointer q) (by have := hW0.size; omega)
      simp only [World.cell?, this]
    exact ⟨by rw [hb]; exact hc1.c0, by rw [hb]; exact hc1.c1, by rw [hb]; exact hc1.c2, by rw [hb]; exact hc1.c3, by rw [hb]; exact hc1.c4⟩
  have hK2 : Kp w (w1.setCell ⟨k, 0, none⟩ (.pointer q)) F := ((Kp.of_below F hW0).trans (Kp.of_below (fun _ => False) hW1) (fun _ h => h.elim)).setCell _ (Or.inl (HH.out.foot k (Or.inr (Or.inl rfl))))
  have hS2 : St l hd k T F (B.map (fun t => t.c) ++ rs) (w1.setCell ⟨k, 0, none⟩ (.pointer q)) v xs B rest rs := by
    have h1 := HS0.out.kept hW1.size fun i hi => hW1.block i (HS0.out.lt i hi)
    have hko := walk_ne h1.blk h1.ls
    refine ⟨h1.ls.kept fun i hi => heap_set_other _ (fun e => hko (e ▸ hi)), by rw [HQ.out]; exact hb2, ?_, ?_, rfl, ?_, ?_, h1.foot, ?_⟩
    · obtain ⟨A, e⟩ := h1.suf
      exact ⟨A ++ [u], by rw [e]; simp⟩
    · by_cases hn : rs = []
      · obtain ⟨q', cap, e1, e2, e3, e4⟩ := h1.row
        exact ⟨q', cap, e1, e2, e3, fun h => absurd hn h⟩
      · exact h1.row.kept fun i hi => heap_set_other _ (fun e => h1.row.ne h1.blk hn (e ▸ hi))
    · rcases h1.way with hw | ⟨_, hw⟩
      · exact Or.inl hw
      · cases hw
    · intro c hc
      refine h1.may c ?_
      rw [h1.all]
      simp only [List.map_cons, List.cons_append]
      exact List.mem_cons_of_mem _ hc
    · intro i hi
      have := h1.lt i hi
      show i < (w1.heap.modify _ _).size
      rw [Array.size_modify]
      exact this
  obtain ⟨w2, hw2⟩ : ∃ w2, w2 = w1.setCell ⟨k, 0, none⟩ (.pointer q) := ⟨_, rfl⟩
  rw [← hw2] at hb2 hr2 hc2 hK2 hS2 ⊢
  clear hw2 k0 k1 k2 k3 hn hU1 hb1 hr1 hc1 hW1
  obtain ⟨e0, e1, e2, e3, e4⟩ := id hc2
  obtain ⟨r0, r1, r2, r3, r4, g0, g1, g2, g3, g4⟩ := zero_cells hr2
  go_wp2
  generalize hW : ((((w2.setCell ⟨w.heap.size, 0, none⟩ _).setCell ⟨w.heap.size, 1, none⟩ _).setCell ⟨w.heap.size, 2, none⟩ _).setCell ⟨w.heap.size, 3, none⟩ _).setCell ⟨w.heap.size, 4, none⟩ _ = W'
  obtain ⟨x0, x1, x2, x3, x4⟩ := set5_reads r0 r1 r2 r3 r4 hW
  have hF : ∀ i, F i → i ≠ w.heap.size := fun i hi e => by have := HH.out.lt i hi; omega
  have hK3 : Kp w W' F := by
    rw [← hW]
    exact ((((hK2.setCell _ (Or.inr (Nat.le_refl _))).setCell _ (Or.inr (Nat.le_refl _))).setCell _ (Or.inr (Nat.le_refl _))).setCell _ (Or.inr (Nat.le_refl _))).setCell _ (Or.inr (Nat.le_refl _))
  have hS3 : St l hd k T F (B.map (fun t => t.c) ++ rs) W' v xs B rest rs := by
    rw [← hW]
    refine hS2.kept ?_ fun i hi => ?_
    · have : Kp w2 (((((w2.setCell ⟨w.heap.size, 0, none⟩ (.string (bstr u.c.row))).setCell ⟨w.heap.size, 1, none⟩ (.string (bstr u.c.col))).setCell ⟨w.heap.size, 2, none⟩ (.int .u64 u.c.ver)).setCell ⟨w.heap.size, 3, none⟩ (.bool u.c.gone)).setCell ⟨w.heap.size, 4, none⟩ (.string (bstr u.c.val))) (fun i => i = w.heap.size) := (((((Kp.refl w2 (fun i => i = w.heap.size)).setCell _ (Or.inl rfl)).setCell _ (Or.inl rfl)).setCell _ (Or.inl rfl)).setCell _ (Or.inl rfl)).setCell _ (Or.inl rfl)
      exact this.size
    · have hi' := hF i hi
      rw [heap_set_other _ hi', heap_set_other _ hi', heap_set_other _ hi', heap_set_other _ hi', heap_set_other _ hi']
  refine bodyPost_ret (v := .tuple #[clV u.c, .bool true]) (by simp [results, Try.results47, go_sem, x0, x1, x2, x3, x4]) rfl ⟨rfl, hS3, hK3⟩

end Go.Proofs.Ytijfmgpipnhkkaa
