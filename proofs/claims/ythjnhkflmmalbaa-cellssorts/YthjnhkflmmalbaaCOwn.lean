/-
  A list in memory of its own; what is done to it by its owner; the document's cells of a range.
-/
import Derived.Test.YthjnhkflmmalbaaCWks
import Derived.Laws.AppendOwnNone
namespace Go.Proofs.Ythjnhkflmmalbaa
open Go.RowKit Go.BigFrame Go.Sort
attribute [local go_sem] size_bstr toList_bstr ls_def

set_option maxHeartbeats 2000000 in
set_option maxRecDepth 100000 in
theorem Own_any (q : Option Addr) (b off cap : Nat) (cs : List Cl) (w : World) (hq : 0 < cs.length → q = some ⟨b, off, none⟩ ∧ CRow w b off cs ∧ b < w.heap.size) (hn : cs.length * 64 ≤ 140737488351232) (hnil : q = none → cs = [] ∧ cap = 0) :
    Calls Try.prog 8 #[.slice q cs.length cap] w fun e w' => ∃ v, e = .returned v ∧ w'.ownsRow w.heap.size 34 5 v cs.length (ccells cs) ∧ RowKit.Below w.heap.size w w' := by
  obtain ⟨i0, hi, hz0, hz1, hz2⟩ := info_parts Try.infoCell
  have hown0 : w.ownsRow w.heap.size 34 5 (.slice none 0 0) 0 [] := ⟨rfl, .inl ⟨rfl, rfl⟩⟩
  cases q with
  | none =>
    obtain ⟨rfl, rfl⟩ := hnil rfl
    have hown1 := hown0
    go_enter Try.func8, Try.ntmps8
    go_wp2_with (at_builtin; refine wpList_append_own_none rfl _ _ 22 rfl w.heap.size 34 i0 5 Try.underlying22 hi _ _ _ rfl hown0 rfl ?_)
    go_ret
    exact ⟨_, rfl, hown1, RowKit.Below.refl _ _⟩
  | some a =>
    have hnews : ∀ j u, (ccells cs)[j]? = some u → w.cell? (a.add j) = some u := by
      intro j u hj
      have h0 : 0 < cs.length := by
        by_cases h : 0 < cs.length
        · exact h
        · have : cs = [] := List.eq_nil_of_length_eq_zero (by omega)
          subst this
          simp [ccells] at hj
      obtain ⟨e, hR, _⟩ := hq h0
      cases e
      exact hR.cells j u hj
    go_enter Try.func8, Try.ntmps8
    go_wp2_with (at_builtin; refine wpList_append_own _ rfl _ _ 22 rfl w.heap.size 34 i0 (.agg #[.string ⟨#[]⟩, .string ⟨#[]⟩, .int .u64 0, .bool false, .string ⟨#[]⟩]) 5 64 Try.underlying22 hi hz0 hz1 hz2 rfl (by decide) _ _ _ rfl hown0 a cs.length cap (ccells cs) rfl (ccells_length cs) hnews (ccells_one cs) (by unfold maxLen; omega) (by omega) (Nat.le_refl _) ?_)
    intro v' w1 hown1 hgrow _
    have hb1 : RowKit.Below w.heap.size w w1 := (RowKit.Below.refl _ _).grown hgrow (Nat.le_refl _) (fun k hk => by cases hk)
    go_wp2
    go_ret
    exact ⟨v', rfl, hown1, hb1⟩

/-- What a call owns, as an argument of the next one. -/
theorem own_get {w : World} {B e : Nat} {v : Value} {cs : List Cl} (h : w.ownsRow B e 5 v cs.length (ccells cs)) :
    ∃ p cap g, v = .slice p cs.length cap ∧ cap ≤ maxLen ∧ B ≤ g ∧ (0 < cs.length → p = some ⟨g, 0, none⟩ ∧ CRow w g 0 cs ∧ g < w.heap.size) ∧ (0 < cs.length → ∀ o, w.frozen? ⟨g, o, none⟩ = false) := by
  obtain ⟨p, cap, hv, hm, _, hr⟩ := own_cslice h
  by_cases h0 : 0 < cs.length
  · obtain ⟨g, hp, hB, hg, hR, hf⟩ := hr h0
    exact ⟨p, cap, g, hv, hm, hB, fun _ => ⟨hp, hR, hg⟩, fun _ => hf⟩
  · exact ⟨p, cap, B, hv, hm, Nat.le_refl _, fun h => absurd h h0, fun h => absurd h h0⟩
theorem hq_step {w w' : World} {q : Option Addr} {b off B : Nat} {cs : List Cl} (h : 0 < cs.length → q = some ⟨b, off, none⟩ ∧ CRow w b off cs ∧ b < w.heap.size) (hb : RowKit.Below B w w') (hB : 0 < cs.length → b < B) : 0 < cs.length → q = some ⟨b, off, none⟩ ∧ CRow w' b off cs ∧ b < w'.heap.size :=
  fun h0 => ⟨(h h0).1, (h h0).2.1.step hb (hB h0), Nat.lt_of_lt_of_le (h h0).2.2 hb.size⟩
theorem hq_two {w : World} {q : Option Addr} {b off : Nat} {cs : List Cl} (h : 0 < cs.length → q = some ⟨b, off, none⟩ ∧ CRow w b off cs ∧ b < w.heap.size) : 0 < cs.length → q = some ⟨b, off, none⟩ ∧ CRow w b off cs := fun h0 => ⟨(h h0).1, (h h0).2.1⟩
/-- The first m cells of a block are there, and may be written. -/
def Live (W : World) (g m : Nat) : Prop := (∀ o, o < m → ∃ u, W.cell? ⟨g, o, none⟩ = some u) ∧ ∀ o, W.frozen? ⟨g, o, none⟩ = false
theorem Live.set {W : World} {g m : Nat} (h : Live W g m) (k : Nat) (v : Value) : Live (W.setCell ⟨g, k, none⟩ v) g m := by
  refine ⟨fun o ho => ?_, fun o => by simpa using h.2 o⟩
  obtain ⟨u, hu⟩ := h.1 o ho
  by_cases e : o = k
  · subst e
    exact ⟨v, World.cell?_setCell_same' W _ _ (by rw [hu]; rfl)⟩
  · exact ⟨u, by rw [World.cell?_setCell_other _ _ _ _ (by intro e'; simp only [Addr.mk.injEq] at e'; omega)]; exact hu⟩
theorem CRow.live {W : World} {g : Nat} {cs : List Cl} (h : CRow W g 0 cs) (hf : ∀ o, W.frozen? ⟨g, o, none⟩ = false) : Live W g (cs.length * 5) := by
  refine ⟨fun o ho => ?_, hf⟩
  have hl : o < (ccells cs).length := by rw [ccells_length]; exact ho
  have := h.cells o _ (List.getElem?_eq_getElem hl)
  rw [Addr.add_lit, Nat.zero_add] at this
  exact ⟨_, this⟩

set_option maxHeartbeats 2000000 in
set_option maxRecDepth 100000 in
/-- spoil: it turns that row alone. -/
theorem spoil_any (p : Option Addr) (g cap : Nat) (cs : List Cl) (w : World) (hp : 0 < cs.length → p = some ⟨g, 0, none⟩ ∧ CRow w g 0 cs ∧ ∀ o, w.frozen? ⟨g, o, none⟩ = false) (hn : cs.length * 64 ≤ 140737488351232) :
    Calls Try.prog 16 #[.slice p cs.length cap] w fun e w' => e = .returned (.tuple #[]) ∧ RowKit.Below g w w' := by
  go_enter Try.func16, Try.ntmps16
  go_wp2
  go_loopw [2] (fun s2 wr => ∃ i : Nat, s2 = .int .i64 (i : Int) ∧ i ≤ cs.length ∧ (0 < cs.length → Live wr g (cs.length * 5)) ∧ RowKit.Below g w wr) (fun s2 _ => cs.length - (intOf s2).toNat)
  case atStart => exact ⟨0, rfl, by omega, fun h => (hp h).2.1.live (hp h).2.2, RowKit.Below.refl _ _⟩
  case round =>
    obtain ⟨i, rfl, hil, hL, hbel⟩ := hrel
    by_cases hlt : i < cs.length
    · obtain ⟨rfl, _, _⟩ := hp (by omega)
      have hl := hL (by omega)
      obtain ⟨u0, k0⟩ := hl.1 (i * 5) (by omega)
      obtain ⟨u1, k1⟩ := hl.1 (i * 5 + 1) (by omega)
      obtain ⟨u2, k2⟩ := hl.1 (i * 5 + 2) (by omega)
      obtain ⟨u3, k3⟩ := hl.1 (i * 5 + 3) (by omega)
      obtain ⟨u4, k4⟩ := hl.1 (i * 5 + 4) (by omega)
      have f0 := hl.2 (i * 5)
      have f1 := hl.2 (i * 5 + 1)
      have f2 := hl.2 (i * 5 + 2)
      have f3 := hl.2 (i * 5 + 3)
      have f4 := hl.2 (i * 5 + 4)
      have hiz : (i : Int) < (cs.length : Int) := by omega
      have hl2 : Hid (Live _ g (cs.length * 5)) := ((((hl.set (i * 5) (.string ⟨#[120]⟩)).set (i * 5 + 1) (.string ⟨#[]⟩)).set (i * 5 + 2) (.int .u64 77)).set (i * 5 + 3) (.bool false)).set (i * 5 + 4) (.string ⟨#[]⟩)
      have hb2 : RowKit.Below g w _ := ((((hbel.setCell (p := ⟨g, i * 5, none⟩) (Nat.le_refl _) (.string ⟨#[120]⟩)).setCell (p := ⟨g, i * 5 + 1, none⟩) (Nat.le_refl _) (.string ⟨#[]⟩)).setCell (p := ⟨g, i * 5 + 2, none⟩) (Nat.le_refl _) (.int .u64 77)).setCell (p := ⟨g, i * 5 + 3, none⟩) (Nat.le_refl _) (.bool false)).setCell (p := ⟨g, i * 5 + 4, none⟩) (Nat.le_refl _) (.string ⟨#[]⟩)
      clear hl hL
      go_wp2
      go_roundw
      case rel => exact ⟨i + 1, by go_num, by omega, fun _ => hl2.out, hb2⟩
      case measure => simp [intOf]; omega
    · have hie : i = cs.length := by omega
      subst hie
      go_wp2
      go_end0
      exact ⟨rfl, hbel⟩

set_option maxHeartbeats 4000000 in
set_option maxRecDepth 100000 in
theorem RWithin_any (q : Option Addr) (b off cap : Nat) (cs : List Cl) (lo hi : List UInt8) (w : World) (hq : 0 < cs.length → q = some ⟨b, off, none⟩ ∧ CRow w b off cs ∧ b < w.heap.size) (hn : cs.length * 64 ≤ 140737488351232) :
    Calls Try.prog 19 #[.slice q cs.length cap, rngV lo hi] w fun e w' => ∃ v, e = .returned v ∧ w'.ownsRow w.heap.size 34 5 v (withinL lo hi cs).length (ccells (withinL lo hi cs)) ∧ RowKit.Below w.heap.size w w' := by
  obtain ⟨i0, hi0, hz0, hz1, hz2⟩ := info_parts Try.infoCell
  have hB0 : RowKit.Below w.heap.size w (w.alloc (.cells #[.string (bstr lo), .string (bstr hi)] 29)) := (RowKit.Below.refl _ _).alloc (Nat.le_refl _) _
  have ra0 := RngAt.new w 29 lo hi
  go_enter Try.func19, Try.ntmps19
  go_wp2
  generalize hW0 : w.alloc (.cells #[.string (bstr lo), .string (bstr hi)] 29) = w0 at *
  have hn0 : w.heap.size < w0.heap.size := ra0.lt
  clear hW0
  go_loopw [5, 6] (fun s5 s6 wr => ∃ i : Nat, s6 = .int .i64 (i : Int) ∧ i ≤ cs.length ∧ wr.ownsRow w0.heap.size 34 5 s5 (withinL lo hi (cs.take i)).length (ccells (withinL lo hi (cs.take i))) ∧ RowKit.Below w0.heap.size w0 wr) (fun _ s6 _ => cs.length - (intOf s6).toNat)
  case atStart => exact ⟨0, rfl, by omega, ⟨rfl, .inl ⟨rfl, rfl⟩⟩, RowKit.Below.refl _ _⟩
  case round =>
    obtain ⟨i, rfl, hil, hown, hbel⟩ := hrel
    have ra := ra0.step hbel
    by_cases hlt : i < cs.length
    · obtain ⟨rfl, hR, hbl⟩ := hq (by omega)
      have hAt := ((hR.step hB0 hbl).step hbel (by omega)) i hlt
      have hlen := within_len lo hi cs i
      have hiz : (i : Int) < (cs.length : Int) := by omega
      obtain ⟨s5v, hs5⟩ : ∃ v, u5 = v := ⟨_, rfl⟩
      subst hs5
      cases hl : ls cs[i].row lo with
      | true =>
        have hm : hasB lo hi cs[i].row = false := by simp [hasB, hl]
        have HM : Hid _ := within_no hlt hm
        clear hm
        generalize cs[i] = c at *
        obtain ⟨r, k, v, z, x⟩ := c
        obtain ⟨c0, c1, c2, c3, c4⟩ := hAt
        simp only at c0 c1 c2 c3 c4 hl
        obtain ⟨p0, p1⟩ := id ra
        go_wp2_with fail
        go_quiet (fail)
        have hbq := below_drewN hbel nq
        have hownq : (wr.drewN nq).ownsRow w0.heap.size 34 5 u5 (withinL lo hi (cs.take i)).length (ccells (withinL lo hi (cs.take i))) := hown
        clear hown hbel p0 p1 ra c0 c1 c2 c3 c4
        go_wp2
        go_roundw
        case rel => exact ⟨i + 1, by go_num, by omega, by rw [HM.out]; exact hownq, hbq⟩
        case measure => simp [intOf]; omega
      | false =>
        by_cases hh : hi = []
        · have hm : hasB lo hi cs[i].row = true := by simp [hasB, hl, hh]
          subst hh
          have HM : Hid _ := within_yes hlt hm
          clear hm
          generalize cs[i] = c at *
          obtain ⟨r, k, v, z, x⟩ := c
          obtain ⟨c0, c1, c2, c3, c4⟩ := hAt
          simp only at c0 c1 c2 c3 c4 hl
          obtain ⟨p0, p1⟩ := id ra
          go_wp2_with fail
          go_quiet (fail)
          have hbq := below_drewN hbel nq
          have hownq : (wr.drewN nq).ownsRow w0.heap.size 34 5 u5 (withinL lo [] (cs.take i)).length (ccells (withinL lo [] (cs.take i))) := hown
          replace c0 : (wr.drewN nq).cell? ⟨b, off + i * 5, none⟩ = _ := c0
          replace c1 : (wr.drewN nq).cell? ⟨b, off + i * 5 + 1, none⟩ = _ := c1
          replace c2 : (wr.drewN nq).cell? ⟨b, off + i * 5 + 2, none⟩ = _ := c2
          replace c3 : (wr.drewN nq).cell? ⟨b, off + i * 5 + 3, none⟩ = _ := c3
          replace c4 : (wr.drewN nq).cell? ⟨b, off + i * 5 + 4, none⟩ = _ := c4
          clear hown hbel p0 p1 ra
          generalize wr.drewN nq = wq at *
          go_wp2_with (at_builtin; refine wpList_append_own _ rfl _ _ 22 rfl w0.heap.size 34 i0 (.agg #[.string ⟨#[]⟩, .string ⟨#[]⟩, .int .u64 0, .bool false, .string ⟨#[]⟩]) 5 64 Try.underlying22 hi0 hz0 hz1 hz2 rfl (by decide) _ _ _ rfl (hownq.alloc _) ⟨wq.heap.size, 0, none⟩ 1 1 (encC ⟨r, k, v, z, x⟩) rfl rfl (cell_news wq ⟨r, k, v, z, x⟩ 34) (encC_one _) ?c3 ?c4 ?c5 ?_)
          case c3 => unfold maxLen; omega
          case c4 => omega
          case c5 => have := hbq.size; simp; omega
          intro v' w3 hown3 hgrow _
          have hbw3 : RowKit.Below w0.heap.size w0 w3 := (hbq.alloc hbq.size _).grown hgrow (by have := hbq.size; simp; omega) (fun k hk => (hownq.lt k hk).1)
          have hown4 : w3.ownsRow w0.heap.size 34 5 v' (withinL lo [] (cs.take (i + 1))).length (ccells (withinL lo [] (cs.take (i + 1)))) := by
            rw [HM.out, List.length_append, ccells_append]
            exact hown3
          clear hownq hown3 hgrow c0 c1 c2 c3 c4
          go_wp2
          go_roundw
          case rel => exact ⟨i + 1, by go_num, by omega, hown4, hbw3⟩
          case measure => simp [intOf]; omega
        · have hh1 : (hi == ([] : List UInt8)) = false := by simpa using hh
          cases hu : ls cs[i].row hi with
          | true =>
            have hm : hasB lo hi cs[i].row = true := by simp [hasB, hl, hu]
            have HM : Hid _ := within_yes hlt hm
            clear hm
            generalize cs[i] = c at *
            obtain ⟨r, k, v, z, x⟩ := c
            obtain ⟨c0, c1, c2, c3, c4⟩ := hAt
            simp only at c0 c1 c2 c3 c4 hl hu
            obtain ⟨p0, p1⟩ := id ra
            go_wp2_with fail
            go_quiet (fail)
            have hbq := below_drewN hbel nq
            have hownq : (wr.drewN nq).ownsRow w0.heap.size 34 5 u5 (withinL lo hi (cs.take i)).length (ccells (withinL lo hi (cs.take i))) := hown
            replace c0 : (wr.drewN nq).cell? ⟨b, off + i * 5, none⟩ = _ := c0
            replace c1 : (wr.drewN nq).cell? ⟨b, off + i * 5 + 1, none⟩ = _ := c1
            replace c2 : (wr.drewN nq).cell? ⟨b, off + i * 5 + 2, none⟩ = _ := c2
            replace c3 : (wr.drewN nq).cell? ⟨b, off + i * 5 + 3, none⟩ = _ := c3
            replace c4 : (wr.drewN nq).cell? ⟨b, off + i * 5 + 4, none⟩ = _ := c4
            clear hown hbel p0 p1 ra
            generalize wr.drewN nq = wq at *
            go_wp2_with (at_builtin; refine wpList_append_own _ rfl _ _ 22 rfl w0.heap.size 34 i0 (.agg #[.string ⟨#[]⟩, .string ⟨#[]⟩, .int .u64 0, .bool false, .string ⟨#[]⟩]) 5 64 Try.underlying22 hi0 hz0 hz1 hz2 rfl (by decide) _ _ _ rfl (hownq.alloc _) ⟨wq.heap.size, 0, none⟩ 1 1 (encC ⟨r, k, v, z, x⟩) rfl rfl (cell_news wq ⟨r, k, v, z, x⟩ 34) (encC_one _) ?c3 ?c4 ?c5 ?_)
            case c3 => unfold maxLen; omega
            case c4 => omega
            case c5 => have := hbq.size; simp; omega
            intro v' w3 hown3 hgrow _
            have hbw3 : RowKit.Below w0.heap.size w0 w3 := (hbq.alloc hbq.size _).grown hgrow (by have := hbq.size; simp; omega) (fun k hk => (hownq.lt k hk).1)
            have hown4 : w3.ownsRow w0.heap.size 34 5 v' (withinL lo hi (cs.take (i + 1))).length (ccells (withinL lo hi (cs.take (i + 1)))) := by
              rw [HM.out, List.length_append, ccells_append]
              exact hown3
            clear hownq hown3 hgrow c0 c1 c2 c3 c4
            go_wp2
            go_roundw
            case rel => exact ⟨i + 1, by go_num, by omega, hown4, hbw3⟩
            case measure => simp [intOf]; omega

          | false =>
            have hm : hasB lo hi cs[i].row = false := by simp [hasB, hu, hh]
            have HM : Hid _ := within_no hlt hm
            clear hm
            generalize cs[i] = c at *
            obtain ⟨r, k, v, z, x⟩ := c
            obtain ⟨c0, c1, c2, c3, c4⟩ := hAt
            simp only at c0 c1 c2 c3 c4 hl hu
            obtain ⟨p0, p1⟩ := id ra
            go_wp2_with fail
            go_quiet (fail)
            have hbq := below_drewN hbel nq
            have hownq : (wr.drewN nq).ownsRow w0.heap.size 34 5 u5 (withinL lo hi (cs.take i)).length (ccells (withinL lo hi (cs.take i))) := hown
            clear hown hbel p0 p1 ra c0 c1 c2 c3 c4
            go_wp2
            go_roundw
            case rel => exact ⟨i + 1, by go_num, by omega, by rw [HM.out]; exact hownq, hbq⟩
            case measure => simp [intOf]; omega

    · have hie : i = cs.length := by omega
      subst hie
      rw [List.take_length] at hown
      go_wp2
      go_ret
      exact ⟨_, rfl, own_mono hown (by omega), below2 hB0 hbel⟩

end Go.Proofs.Ythjnhkflmmalbaa
