/-
  The contracts of the document's Scan and of its comparison of two lists.
-/
import Derived.Test.YtmimmbcchbmnbaaDoorScan
import Derived.Test.YtmimmbcchbmnbaaDoorSRef
namespace Go.Proofs.YtmimmbcchbmnbaaDoor
open Go.RowKit
attribute [local go_sem] size_bstr getElem_bstr toList_bstr append_bstr

set_option maxHeartbeats 2000000 in
set_option maxRecDepth 100000 in
theorem RScan_any (s : List UInt8) (w : World) (hs : s.length ≤ 35184372088832) :
    Calls Tryd.prog 17 #[.string (bstr s)] w fun e w' => ∃ v, e = .returned (.tuple #[v, .int .i64 (tot (scn s.length s) : Int)]) ∧ w'.ownsRow w.heap.size 9 1 v (scn s.length s).length (strCells (scn s.length s)) ∧ Below w.heap.size w w' := by
  obtain ⟨i0, hi, hz0, hz1, hz2⟩ := info_parts Tryd.infoStr
  go_enter Tryd.func17, Tryd.ntmps17
  go_wp2
  go_loopw [4, 5] (fun vo vg wr => ∃ (bs : List (List UInt8)) (g : Nat), vg = .int .i64 (g : Int) ∧ Hid (Went s bs g) ∧ g ≤ s.length ∧ 8 * bs.length ≤ g ∧ wr.ownsRow w.heap.size 9 1 vo bs.length (strCells bs) ∧ Below w.heap.size w wr) (fun _ vg _ => s.length - (intOf vg).toNat)
  case atStart => exact ⟨[], 0, rfl, Went.start s, by omega, by simp, ⟨rfl, .inl ⟨rfl, rfl⟩⟩, Below.refl _ _⟩
  case round =>
    obtain ⟨bs, g, rfl, HW, hgl, hgb, hown, hbel⟩ := hrel
    have hwent0 : Went s bs g := HW.out
    have hsl := fun W : World => run_from (P := Tryd.prog) 9 s g hgl W Tryd.underlying9
    have hdl : (s.drop g).length = s.length - g := List.length_drop
    cases ho : opn (s.drop g) with
    | none =>
      have HL : Hid _ := hwent0.last ho
      have HO : Hid _ := ho
      clear ho hwent0
      generalize s.drop g = d at *
      go_wp2_with fail
      refine (ROpen_none d _ (by omega) HO.out).mono ?_
      rintro e w1 ⟨rfl, hb1⟩
      have hown1 := own_below hown hb1
      clear hown
      go_wp2
      go_ret2
      obtain ⟨hl1, hl2⟩ := HL.out
      refine ⟨u4, ?_, ?_, hbel.trans (hb1.mono hbel.size)⟩
      · rw [hl1, hl2]
        rfl
      · rw [hl1]
        exact hown1
    | some b =>
      have HN : Hid _ := hwent0.next ho
      have hbl := (opn_some ho).1
      have hol := opn_length ho
      have HO : Hid _ := ho
      clear ho hwent0
      rw [hdl] at hol
      generalize s.drop g = d at *
      go_wp2_with fail
      refine (ROpen_some d b _ (by omega) HO.out).mono ?_
      rintro e w2 ⟨rfl, hb12⟩
      have hown2 := own_below hown hb12
      have hbw : Below w.heap.size w w2 := hbel.trans (hb12.mono hbel.size)
      clear hown
      go_wp2_with (at_builtin; refine wpList_append_own _ rfl _ _ 33 rfl w.heap.size 9 i0 (.string ⟨#[]⟩) 1 16 Tryd.underlying33 hi hz0 hz1 hz2 rfl (by decide) _ _ _ rfl (hown2.alloc _) ⟨w2.heap.size, 0, none⟩ 1 1 [.string (bstr b)] rfl rfl ?c1 ?c2 ?c3 ?c4 ?c5 ?_)
      case c1 =>
        intro j u hj
        match j, hj with
        | 0, hj => simp at hj; subst hj; simp [Addr.add]
      case c2 => intro u hu; simp at hu; subst hu; rfl
      case c3 => unfold maxLen; omega
      case c4 => omega
      case c5 => have := hbw.size; simp; omega
      intro v' w3 hown3 hgrow _
      have hbw3 : Below w.heap.size w w3 := (hbw.alloc hbw.size _).grown hgrow (by have := hbw.size; simp; omega) (fun k hk => (hown2.lt k hk).1)
      go_wp2
      go_roundw
      case rel =>
        refine ⟨bs ++ [b], g + (8 + b.length), by go_num, HN.out, by omega, by rw [List.length_append, List.length_singleton]; omega, ?_, hbw3⟩
        rw [strCells_snoc, List.length_append, List.length_singleton]
        exact hown3
      case measure => simp [intOf]; omega

/-- A list of strings that a slice shows. -/
def ShowsS (w : World) (v : Value) (bs : List (List UInt8)) : Prop := ∃ (p : Option Addr) (cap : Nat), v = .slice p bs.length cap ∧ (bs = [] ∨ ∃ g, p = some ⟨g, 0, none⟩ ∧ StrsAt w g 0 bs)
theorem shows_of_owns {w : World} {B : Nat} {v : Value} {bs : List (List UInt8)} (h : w.ownsRow B 9 1 v bs.length (strCells bs)) : ShowsS w v bs := by
  rcases h.2 with ⟨hv, h0⟩ | ⟨g, cap, cur, hv, hbg, hg, hnc, hcm, hcs, htake⟩
  · have : bs = [] := List.eq_nil_of_length_eq_zero (by omega)
    subst this
    exact ⟨none, 0, hv, .inl rfl⟩
  · refine ⟨some ⟨g, 0, none⟩, cap, hv, .inr ⟨g, rfl, ?_⟩⟩
    intro j hj
    have := h.cells (g := g) (by rw [hv]; rfl) j (.string (bstr bs[j])) (by unfold strCells; rw [List.getElem?_map, List.getElem?_eq_getElem hj]; rfl)
    rw [Nat.zero_add]
    by_cases h0 : j = 0
    · subst h0
      simpa [Addr.add] using this
    · simpa [Addr.add, h0] using this

set_option maxHeartbeats 2000000 in
set_option maxRecDepth 100000 in
theorem Same_any (bs : List (List UInt8)) (u v : Value) (w : World) (hl : bs.length ≤ 35184372088832) (hu : ShowsS w u bs) (hv : ShowsS w v bs) :
    Calls Tryd.prog 18 #[u, v] w fun e w' => e = .returned (.bool true) ∧ Below w.heap.size w w' := by
  obtain ⟨p, c, rfl, hu⟩ := hu
  obtain ⟨q, d, rfl, hv⟩ := hv
  rcases hu with h0 | ⟨g, rfl, hg⟩
  · subst h0
    go_enter Tryd.func18, Tryd.ntmps18
    go_wp2
    go_loopw [5] (fun vi wr => vi = .int .i64 0 ∧ wr = w) (fun vi _ => (intOf vi).toNat)
    case atStart => exact ⟨rfl, rfl⟩
    case round =>
      obtain ⟨rfl, rfl⟩ := hrel
      go_wp2
      go_ret
      exact ⟨rfl, Below.refl _ _⟩
  · rcases hv with h0 | ⟨g2, rfl, hg2⟩
    · subst h0
      go_enter Tryd.func18, Tryd.ntmps18
      go_wp2
      go_loopw [5] (fun vi wr => vi = .int .i64 0 ∧ wr = w) (fun vi _ => (intOf vi).toNat)
      case atStart => exact ⟨rfl, rfl⟩
      case round =>
        obtain ⟨rfl, rfl⟩ := hrel
        go_wp2
        go_ret
        exact ⟨rfl, Below.refl _ _⟩
    · have HG : Hid _ := hg
      have HG2 : Hid _ := hg2
      clear hg hg2
      go_enter Tryd.func18, Tryd.ntmps18
      go_wp2
      go_loopw [5] (fun vi wr => ∃ i : Nat, vi = .int .i64 i ∧ i ≤ bs.length ∧ Hid (StrsAt wr g 0 bs) ∧ Hid (StrsAt wr g2 0 bs) ∧ Below w.heap.size w wr) (fun vi _ => bs.length - (intOf vi).toNat)
      case atStart => exact ⟨0, rfl, by omega, HG, HG2, Below.refl _ _⟩
      case round =>
        obtain ⟨i, rfl, hi, HG, HG2, hbel⟩ := hrel
        by_cases h : i < bs.length
        · have c1 : wr.cell? ⟨g, i, none⟩ = some (.string (bstr bs[i])) := by
            have := HG.out i h
            rw [Nat.zero_add] at this
            exact this
          have c2 : wr.cell? ⟨g2, i, none⟩ = some (.string (bstr bs[i])) := by
            have := HG2.out i h
            rw [Nat.zero_add] at this
            exact this
          go_wp2
          go_quiet (fail)
          go_wp2
          go_roundw
          case rel => exact ⟨i + 1, by go_num, by omega, HG, HG2, below_drewN hbel _⟩
          case measure => simp [intOf]; omega
        · go_wp2
          go_ret
          exact ⟨rfl, hbel⟩

end Go.Proofs.YtmimmbcchbmnbaaDoor
