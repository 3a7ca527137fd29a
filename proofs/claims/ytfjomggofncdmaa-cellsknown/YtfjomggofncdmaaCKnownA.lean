/-
  What the calls of the law CellsKnown answer.
-/
import Derived.Test.YtfjomggofncdmaaCKnownM
import Derived.Test.YtfjomggofncdmaaCDecode
import Derived.Test.YtfjomggofncdmaaCAlive
import Derived.Test.YtfjomggofncdmaaMade
import Derived.Test.YtfjomggofncdmaaCBad
import Derived.Deep.Cut
import Derived.Deep.RegionHeld3
namespace Go.Proofs.Ytfjomggofncdmaa
open Go.RowKit Go.BigFrame Go.Sort
attribute [local go_sem] size_bstr toList_bstr ls_def

theorem at_lit (r : List UInt8) (v : Int) (z : Bool) (W : World) : Calls Try.prog 4 #[.string (bstr r), .int .u64 v, .bool z] W fun e w' => e = .returned (.agg #[.string (bstr r), .string (bstr [120]), .int .u64 v, .bool z, .string (bstr [])]) ∧ RowKit.Below W.heap.size W w' := at_any r v z W
theorem Dec_no (s : List UInt8) (h : decR s = none) (hs : s.length ≤ 100) (W : World) : Calls Try.prog 6 #[.string (bstr s)] W fun e w' => e = .returned (.tuple #[.slice none 0 0, .int .i64 4]) ∧ RowKit.Below W.heap.size W w' := by
  refine (Decode_any s W (by omega)).mono ?_
  rintro e w' ⟨_, h2, hb⟩
  exact ⟨h2 h, hb⟩
theorem Dec_zero (W : World) : Calls Try.prog 6 #[.string (bstr [0])] W fun e w' => (∃ p c, e = .returned (.tuple #[.slice p 0 c, .int .i64 0])) ∧ RowKit.Below W.heap.size W w' := by
  refine (Decode_any [0] W (by simp)).mono ?_
  rintro e w' ⟨h1, _, hb⟩
  obtain ⟨v, rfl, ho⟩ := h1 [] dec_lit3
  obtain ⟨p, cap, hv, _⟩ := own_cslice ho
  subst hv
  exact ⟨⟨p, cap, rfl⟩, hb⟩
theorem Enc_nil (W : World) : Calls Try.prog 5 #[.slice none 0 0] W fun e w' => e = .returned (.tuple #[.string (bstr [0]), .int .i64 0]) ∧ RowKit.Below W.heap.size W w' := by
  have := Encode_any none 0 0 0 [] W (fun h => absurd h (by simp)) (by simp)
  rw [enc_lit0.1, enc_lit0.2] at this
  exact this

/-- Five cells next to one another are written. -/
abbrev set5 (W : World) (g o : Nat) (c : Cl) : World := ((((W.setCell ⟨g, o, none⟩ (.string (bstr c.row))).setCell ⟨g, o + 1, none⟩ (.string (bstr c.col))).setCell ⟨g, o + 2, none⟩ (.int .u64 c.ver)).setCell ⟨g, o + 3, none⟩ (.bool c.gone)).setCell ⟨g, o + 4, none⟩ (.string (bstr c.val))
theorem set5_other (W : World) (g o k : Nat) (c : Cl) (h : k < o ∨ o + 5 ≤ k) : (set5 W g o c).cell? ⟨g, k, none⟩ = W.cell? ⟨g, k, none⟩ := by
  unfold set5
  rw [World.cell?_setCell_other _ _ _ _ (by intro e; simp only [Addr.mk.injEq] at e; omega), World.cell?_setCell_other _ _ _ _ (by intro e; simp only [Addr.mk.injEq] at e; omega), World.cell?_setCell_other _ _ _ _ (by intro e; simp only [Addr.mk.injEq] at e; omega), World.cell?_setCell_other _ _ _ _ (by intro e; simp only [Addr.mk.injEq] at e; omega), World.cell?_setCell_other _ _ _ _ (by intro e; simp only [Addr.mk.injEq] at e; omega)]
theorem Live.set5 {W : World} {g m : Nat} (h : Live W g m) (o : Nat) (c : Cl) : Live (set5 W g o c) g m := ((((h.set o _).set (o + 1) _).set (o + 2) _).set (o + 3) _).set (o + 4) _
theorem at5_set5 {W : World} {g m o : Nat} (h : Live W g m) (ho : o + 5 ≤ m) (c : Cl) : At5 (set5 W g o c) g o c := by
  have ex : ∀ (W' : World), Live W' g m → ∀ k, k < m → ∀ v, (W'.setCell ⟨g, k, none⟩ v).cell? ⟨g, k, none⟩ = some v := fun W' hL k hk v => by
    obtain ⟨u, hu⟩ := hL.1 k hk
    exact World.cell?_setCell_same' W' _ _ (by rw [hu]; rfl)
  have ne : ∀ (W' : World) (j k : Nat) (v : Value), j ≠ k → (W'.setCell ⟨g, j, none⟩ v).cell? ⟨g, k, none⟩ = W'.cell? ⟨g, k, none⟩ := fun W' j k v hjk => World.cell?_setCell_other _ _ _ _ (by intro e; simp only [Addr.mk.injEq] at e; omega)
  refine ⟨?_, ?_, ?_, ?_, ?_⟩
  · rw [ne _ _ _ _ (by omega), ne _ _ _ _ (by omega), ne _ _ _ _ (by omega), ne _ _ _ _ (by omega)]
    exact ex _ h _ (by omega) _
  · rw [ne _ _ _ _ (by omega), ne _ _ _ _ (by omega), ne _ _ _ _ (by omega)]
    exact ex _ (h.set _ _) _ (by omega) _
  · rw [ne _ _ _ _ (by omega), ne _ _ _ _ (by omega)]
    exact ex _ ((h.set _ _).set _ _) _ (by omega) _
  · rw [ne _ _ _ _ (by omega)]
    exact ex _ (((h.set _ _).set _ _).set _ _) _ (by omega) _
  · exact ex _ ((((h.set _ _).set _ _).set _ _).set _ _) _ (by omega) _
theorem CRow.grow {W : World} {g m i : Nat} {c : Cl} (h : CRow W g 0 (List.replicate i c)) (hL : Live W g m) (hm : i * 5 + 5 ≤ m) : CRow (set5 W g (i * 5) c) g 0 (List.replicate (i + 1) c) := by
  intro k hk
  rw [List.length_replicate] at hk
  rw [List.getElem_replicate, Nat.zero_add]
  by_cases hki : k < i
  · have := h k (by rw [List.length_replicate]; exact hki)
    rw [List.getElem_replicate, Nat.zero_add] at this
    exact ⟨by rw [set5_other _ _ _ _ _ (by omega)]; exact this.c0, by rw [set5_other _ _ _ _ _ (by omega)]; exact this.c1, by rw [set5_other _ _ _ _ _ (by omega)]; exact this.c2, by rw [set5_other _ _ _ _ _ (by omega)]; exact this.c3, by rw [set5_other _ _ _ _ _ (by omega)]; exact this.c4⟩
  · have : k = i := by omega
    subst this
    exact at5_set5 hL hm c
theorem Live.below {W W' : World} {g m B : Nat} (h : Live W g m) (hb : RowKit.Below B W W') (hB : g < B) : Live W' g m := by
  obtain ⟨cb, fb⟩ := bcell hb
  exact ⟨fun o ho => by rw [cb _ _ hB]; exact h.1 o ho, fun o => by rw [fb _ _ hB]; exact h.2 o⟩
theorem frz {W : World} {g : Nat} {cur : Array Value} {t : TypeId} (h : W.heap[g]? = some (.cells cur t (0, 0))) (o : Nat) : W.frozen? ⟨g, o, none⟩ = false := by simp [World.frozen?, h]
theorem Live.new (W : World) (zc : Array Value) (t : TypeId) (m : Nat) (h : zc.size = m) : Live (W.alloc (.cells zc t)) W.heap.size m := by
  refine ⟨fun o ho => ⟨zc[o]'(by omega), ?_⟩, fun o => frz (heap_alloc_new W _) o⟩
  rw [World.cell?_alloc_at zc t W.heap.size o rfl, Array.getElem?_eq_getElem (by omega)]
theorem below_set5' {B : Nat} {w W : World} {g o : Nat} {c : Cl} (h : RowKit.Below B w W) (hg : B ≤ g) : RowKit.Below B w (set5 W g o c) :=
  ((((h.setCell (p := ⟨g, o, none⟩) hg _).setCell (p := ⟨g, o + 1, none⟩) hg _).setCell (p := ⟨g, o + 2, none⟩) hg _).setCell (p := ⟨g, o + 3, none⟩) hg _).setCell (p := ⟨g, o + 4, none⟩) hg _
theorem CRow.rep {W : World} {g n : Nat} {c : Cl} (h : CRow W g 0 (List.replicate n c)) (m : Nat) (hm : m ≤ n) : CRow W g 0 (List.replicate m c) := by
  have := h.take m
  rwa [List.take_replicate, Nat.min_eq_left hm] at this
theorem Enc_wide (n : Nat) (E : Int) (cap : Nat) (c : Cl) (g : Nat) (W : World) (hR : CRow W g 0 (List.replicate n c)) (hg : g < W.heap.size) (hn : n ≤ 1000) (he : encE (List.replicate n c) = E) :
    Calls Try.prog 5 #[.slice (some ⟨g, 0, none⟩) n cap] W fun e w' => ∃ B, e = .returned (.tuple #[.string (bstr B), .int .i64 E]) ∧ RowKit.Below W.heap.size W w' := by
  have := Encode_any (some ⟨g, 0, none⟩) g 0 cap (List.replicate n c) W (fun _ => ⟨rfl, hR, hg⟩) (by rw [List.length_replicate]; omega)
  rw [List.length_replicate, he] at this
  exact this.mono fun e w' h => ⟨_, h.1, h.2⟩
theorem CRow.one {W : World} {b off : Nat} {cs : List Cl} (h : CRow W b off cs) (j : Nat) (hj : j < cs.length) : CRow W b (off + j * 5) [cs[j]] := by
  intro i hi
  have h0 : i = 0 := by simp at hi; omega
  subst h0
  exact h j hj
theorem Enc_one (c : Cl) (hok : okC c = false) (n o cap : Nat) (W : World) (hR : CRow W n o [c]) (hn : n < W.heap.size) :
    Calls Try.prog 5 #[.slice (some ⟨n, o, none⟩) 1 cap] W fun e w' => ∃ B, e = .returned (.tuple #[.string (bstr B), .int .i64 2]) ∧ RowKit.Below W.heap.size W w' := by
  have := Encode_any (some ⟨n, o, none⟩) n o cap [c] W (fun _ => ⟨rfl, hR, hn⟩) (by simp)
  rw [enc_bad hok] at this
  exact this.mono fun e w' h => ⟨_, h.1, h.2⟩
abbrev cA : Cl := ⟨[97], [120], 1, false, []⟩
abbrev cA2 : Cl := ⟨[97], [120], 2, true, []⟩
abbrev cB : Cl := ⟨[98], [120], 1, false, []⟩
abbrev cC : Cl := ⟨[99], [120], 1, false, []⟩
theorem fits_small {cs : List Cl} (h : cs.all (fun c => decide (c.row.length ≤ 100) && decide (c.col.length ≤ 100) && decide (c.val.length ≤ 100)) = true) : ∀ c ∈ cs, Fits c := by
  intro c hc
  rw [List.all_eq_true] at h
  have := h c hc
  simp only [Bool.and_eq_true, decide_eq_true_eq] at this
  exact ⟨by omega, by omega, by omega⟩
theorem Alive_lit (V W : World) (hC : RowKit.Below V.heap.size V W) : Calls Try.prog 9 #[.slice (some ⟨W.heap.size, 0, none⟩) 3 3] (W.alloc (.cells #[.string (bstr [97]), .string (bstr [120]), .int .u64 1, .bool false, .string (bstr []), .string (bstr [97]), .string (bstr [120]), .int .u64 2, .bool true, .string (bstr []), .string (bstr [98]), .string (bstr [120]), .int .u64 1, .bool false, .string (bstr [])] 24)) fun e w' => ∃ c g, e = .returned (.slice (some ⟨g, 0, none⟩) 1 c) ∧ CRow w' g 0 [cB] ∧ g < w'.heap.size ∧ RowKit.Below V.heap.size V w' := by
  refine (Alive_any (some ⟨W.heap.size, 0, none⟩) W.heap.size 0 3 [cA, cA2, cB] _ ⟨fun _ => ⟨rfl, CRow.lit W [cA, cA2, cB] 24, by simp⟩, fun h => by cases h⟩ (fits_small (by decide)) (by decide)).mono ?_
  rw [show aliveL [cA, cA2, cB] = [cB] from by kernel_rfl]
  rintro e w' ⟨p, c, g, rfl, _, h1, _, hb⟩
  obtain ⟨rfl, hR, hg⟩ := h1 (by decide)
  exact ⟨c, g, rfl, hR, hg, below2 (hC.alloc hC.size _) hb⟩
theorem Within_lit (V W : World) (n : Nat) (hC : RowKit.Below V.heap.size V W) (hl : CRow V n 0 [cA, cB, cC]) (lo hi : List UInt8) (cs : List Cl) (hw : withinL lo hi [cA, cB, cC] = cs) : Calls Try.prog 10 #[.slice (some ⟨n, 0, none⟩) 3 3, rngV lo hi] W fun e w' => ∃ p c g, e = .returned (.slice p cs.length c) ∧ (0 < cs.length → p = some ⟨g, 0, none⟩ ∧ CRow w' g 0 cs ∧ g < w'.heap.size) ∧ RowKit.Below V.heap.size V w' := by
  have hnV : n < V.heap.size := (hl 0 (by decide)).lt
  refine (Within_any (some ⟨n, 0, none⟩) n 0 3 [cA, cB, cC] lo hi W (fun _ => ⟨rfl, hl.step hC hnV, Nat.lt_of_lt_of_le hnV hC.size⟩) (fits_small (by decide)) (by decide)).mono ?_
  rw [hw]
  rintro e w' ⟨v, rfl, ho, hb⟩
  obtain ⟨p, cap, g, rfl, _, _, hr, _⟩ := own_get ho
  exact ⟨p, cap, g, rfl, hr, below2 hC hb⟩
theorem Within1 (V W : World) (n : Nat) (hC : RowKit.Below V.heap.size V W) (hl : CRow V n 0 [cA, cB, cC]) : Calls Try.prog 10 #[.slice (some ⟨n, 0, none⟩) 3 3, rngV [98] [99]] W fun e w' => ∃ c g, e = .returned (.slice (some ⟨g, 0, none⟩) 1 c) ∧ CRow w' g 0 [cB] ∧ RowKit.Below V.heap.size V w' := by
  refine (Within_lit V W n hC hl [98] [99] [cB] (by kernel_rfl)).mono ?_
  rintro e w' ⟨p, c, g, rfl, h1, hb⟩
  obtain ⟨rfl, hR, _⟩ := h1 (by decide)
  exact ⟨c, g, rfl, hR, hb⟩
theorem Within2 (V W : World) (n : Nat) (hC : RowKit.Below V.heap.size V W) (hl : CRow V n 0 [cA, cB, cC]) : Calls Try.prog 10 #[.slice (some ⟨n, 0, none⟩) 3 3, rngV [98] []] W fun e w' => ∃ c g, e = .returned (.slice (some ⟨g, 0, none⟩) 2 c) ∧ CRow w' g 0 [cB, cC] ∧ RowKit.Below V.heap.size V w' := by
  refine (Within_lit V W n hC hl [98] [] [cB, cC] (by kernel_rfl)).mono ?_
  rintro e w' ⟨p, c, g, rfl, h1, hb⟩
  obtain ⟨rfl, hR, _⟩ := h1 (by decide)
  exact ⟨c, g, rfl, hR, hb⟩
theorem Within3 (V W : World) (n : Nat) (hC : RowKit.Below V.heap.size V W) (hl : CRow V n 0 [cA, cB, cC]) : Calls Try.prog 10 #[.slice (some ⟨n, 0, none⟩) 3 3, rngV [99] [98]] W fun e w' => ∃ p c, e = .returned (.slice p 0 c) ∧ RowKit.Below V.heap.size V w' := by
  refine (Within_lit V W n hC hl [99] [98] [] (by kernel_rfl)).mono ?_
  rintro e w' ⟨p, c, g, rfl, _, hb⟩
  exact ⟨p, c, rfl, hb⟩
theorem same1 (V W : World) (n g c : Nat) (hC : RowKit.Below V.heap.size V W) (hl : CRow V n 0 [cA, cB, cC]) (hg : CRow W g 0 [cB]) : Calls Try.prog 8 #[.slice (some ⟨g, 0, none⟩) 1 c, .slice (some ⟨n, 5, none⟩) 1 2] W fun e w' => e = .returned (.bool true) ∧ RowKit.Below V.heap.size V w' := by
  have hnV : n < V.heap.size := (hl 0 (by decide)).lt
  refine (same_any (some ⟨g, 0, none⟩) (some ⟨n, 5, none⟩) g 0 c n 5 2 [cB] W (fun _ => ⟨rfl, hg⟩) (fun _ => ⟨rfl, (hl.step hC hnV).one 1 (by decide)⟩) (by decide)).mono ?_
  rintro e w' ⟨rfl, hb⟩
  exact ⟨rfl, below2 hC hb⟩
theorem same2 (V W : World) (n g c : Nat) (hC : RowKit.Below V.heap.size V W) (hl : CRow V n 0 [cA, cB, cC]) (hg : CRow W g 0 [cB, cC]) : Calls Try.prog 8 #[.slice (some ⟨g, 0, none⟩) 2 c, .slice (some ⟨n, 5, none⟩) 2 2] W fun e w' => e = .returned (.bool true) ∧ RowKit.Below V.heap.size V w' := by
  have hnV : n < V.heap.size := (hl 0 (by decide)).lt
  refine (same_any (some ⟨g, 0, none⟩) (some ⟨n, 5, none⟩) g 0 c n 5 2 [cB, cC] W (fun _ => ⟨rfl, hg⟩) (fun _ => ⟨rfl, (hl.step hC hnV).drop 1⟩) (by decide)).mono ?_
  rintro e w' ⟨rfl, hb⟩
  exact ⟨rfl, below2 hC hb⟩
theorem at_V (r : List UInt8) (v : Int) (z : Bool) (V W : World) (hC : RowKit.Below V.heap.size V W) : Calls Try.prog 4 #[.string (bstr r), .int .u64 v, .bool z] W fun e w' => e = .returned (.agg #[.string (bstr r), .string (bstr [120]), .int .u64 v, .bool z, .string (bstr [])]) ∧ RowKit.Below V.heap.size V w' := by
  refine (at_any r v z W).mono ?_
  rintro e w' ⟨rfl, hb⟩
  exact ⟨rfl, below2 hC hb⟩
theorem works_V (V W : World) (hC : RowKit.Below V.heap.size V W) : Calls Try.prog 7 #[] W fun e w' => e = .returned (.bool true) ∧ RowKit.Below V.heap.size V w' := by
  refine (works_any W).mono ?_
  rintro e w' ⟨rfl, hb⟩
  exact ⟨rfl, below2 hC hb⟩
theorem make20 : ∃ zc : Array Value, zc.size = 100 ∧ ∀ W : World, (Instr.makeSlice 26 (.int .i64 20) (.int .i64 20)).run Try.prog W = .ok (.slice (some ⟨W.heap.size, 0, none⟩) 20 20) (W.alloc (.cells zc 24)) := by
  obtain ⟨i0, hi0, hz0, hz1, hz2⟩ := info_parts Try.infoCell
  have h := fun W : World => run_make (P := Try.prog) (w := W) 26 24 i0 _ Try.underlying26 hi0 hz0 .i64 .i64 20 20 (by omega) (by omega) (by rw [hz2]; omega) (by omega)
  rw [hz1] at h
  exact ⟨_, by unfold madeCells; simp, h⟩

end Go.Proofs.Ytfjomggofncdmaa
