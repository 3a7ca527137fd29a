/-
  Lists of lists in memory; the laws' short and rows.
-/
import Derived.Test.YtnpjbdbhjbccbaaMNw
namespace Go.Proofs.Ytnpjbdbhjbccbaa
open Go.RowKit Go.BigFrame Go.Sort
attribute [local go_sem] size_bstr toList_bstr ls_def

theorem Try.infoSl : (Try.prog.info? 29).map (fun i => (i.zero, i.size, i.bytes)) = some (some (.slice none 0 0), 1, 24) := by kernel_rfl
theorem Try.infoFn : (Try.prog.info? 25).map (fun i => (i.zero, i.size, i.bytes)) = some (some .nilFunc, 1, 8) := by kernel_rfl
/-- A list of cells among others. -/
structure IS where
  q : Option Addr
  b : Nat
  off : Nat
  cap : Nat
  cs : List Cl
def IS.v (x : IS) : Value := .slice x.q x.cs.length x.cap
def IS.cut (x : IS) : IS := ⟨x.q, x.b, x.off, x.cap, x.cs.take 100⟩
/-- A list of lists, as an argument. -/
structure OArg (w : World) (q : Option Addr) (ob off : Nat) (xs : List IS) : Prop where
  at_ : 0 < xs.length → q = some ⟨ob, off, none⟩ ∧ ob < w.heap.size ∧ ∀ (k : Nat) (x : IS), xs[k]? = some x → w.cell? ⟨ob, off + k, none⟩ = some x.v
  arg : ∀ x ∈ xs, Arg w x.q x.b x.off x.cap x.cs
  cap : ∀ x ∈ xs, x.cs.length ≤ x.cap
theorem OArg.next {w w' : World} {q : Option Addr} {ob off : Nat} {xs : List IS} (h : OArg w q ob off xs) (hb : Below w.heap.size w w') : OArg w' q ob off xs :=
  ⟨fun h0 => by
    obtain ⟨a, b, c⟩ := h.at_ h0
    exact ⟨a, Nat.lt_of_lt_of_le b hb.size, fun k x hx => by rw [hb.cell (p := ⟨ob, off + k, none⟩) b]; exact c k x hx⟩, fun x hx => (h.arg x hx).next hb, h.cap⟩
/-- One-cell values that a call owns, as cells. -/
theorem own_ones {w : World} {B e : Nat} {v : Value} {n : Nat} {us : List Value} (h : w.ownsRow B e 1 v n us) (hn : n = us.length) : ∃ q cap g, v = .slice q us.length cap ∧ B ≤ g ∧ (0 < us.length → q = some ⟨g, 0, none⟩ ∧ g < w.heap.size ∧ ∀ (k : Nat) (u : Value), us[k]? = some u → w.cell? ⟨g, 0 + k, none⟩ = some u) := by
  subst hn
  rcases h.2 with ⟨rfl, h0⟩ | ⟨g, cap, cur, rfl, hbg, hg, hnc, hcm, hcs, htk⟩
  · exact ⟨none, 0, B, by rw [h0], Nat.le_refl _, fun h1 => by omega⟩
  · refine ⟨_, cap, g, rfl, hbg, fun _ => ⟨rfl, blk_lt hg, fun k u hu => ?_⟩⟩
    have := h.cells (g := g) rfl k u hu
    rw [Addr.add_lit] at this
    exact this
theorem cut_take {xs : List IS} {i : Nat} {x : IS} (h : xs[i]? = some x) : ((xs.take (i + 1)).map IS.cut) = (xs.take i).map IS.cut ++ [x.cut] := by
  rw [List.take_add_one, h, List.map_append]
  rfl

/-- What short answers. -/
def ShortQ (ys : List IS) (w : World) (e : Ending) (w' : World) : Prop := ∃ q' ob' cap', e = .returned (.slice q' ys.length cap') ∧ OArg w' q' ob' 0 ys ∧ Below w.heap.size w w'
set_option maxHeartbeats 4000000 in
set_option maxRecDepth 100000 in
theorem short_any (q : Option Addr) (ob off cap : Nat) (xs : List IS) (w : World) (hA : OArg w q ob off xs) :
    Calls Try.prog 9 #[.slice q xs.length cap] w (ShortQ ((xs.take 8).map IS.cut) w) := by
  obtain ⟨i0, hi0, hz0, hz1, hz2⟩ := info_parts Try.infoSl
  go_enter Try.func9, Try.ntmps9
  go_wp2
  go_loopw [3, 4] (fun s3 s4 wr => ∃ i : Nat, s4 = .int .i64 (i : Int) ∧ i ≤ xs.length ∧ i ≤ 8 ∧ wr.ownsRow w.heap.size 29 1 s3 i (((xs.take i).map IS.cut).map IS.v) ∧ Below w.heap.size w wr) (fun _ s4 _ => 8 - (intOf s4).toNat)
  case atStart => exact ⟨0, rfl, by omega, by omega, ⟨rfl, .inl ⟨rfl, rfl⟩⟩, Below.refl _ _⟩
  case round =>
    obtain ⟨i, rfl, hil, hi8, hown, hbel⟩ := hrel
    by_cases hlt : i < xs.length ∧ i < 8
    · obtain ⟨h1, h2⟩ := hlt
      obtain ⟨rfl, hob, hcell⟩ := hA.at_ (by omega)
      obtain ⟨x, hx⟩ : ∃ x, xs[i]? = some x := ⟨_, List.getElem?_eq_getElem h1⟩
      have c0 : wr.cell? ⟨ob, off + i, none⟩ = some (.slice x.q x.cs.length x.cap) := by rw [hbel.cell (p := ⟨ob, off + i, none⟩) hob]; exact hcell i x hx
      have hxc := hA.cap x (List.mem_of_getElem? hx)
      obtain ⟨m, hm⟩ : ∃ m, m = (x.cs.take 100).length := ⟨_, rfl⟩
      have hmi : (min (x.cs.length : Int) 100) = (m : Int) := by rw [List.length_take] at hm; omega
      have hmc : m ≤ x.cap := by rw [List.length_take] at hm; omega
      have hmz : (m : Int) ≤ (x.cap : Int) := by omega
      have hhd := fun W => mhead_run (P := Try.prog) (t := 29) (q := x.q) (len := x.cs.length) (cap := x.cap) (n := m) (s := 5) Try.underlying29 (fun W => Try.sizeOf39 W) hmc W
      have HC : Hid _ := cut_take hx
      have HM : Hid (x.cut.v = .slice x.q m x.cap) := by show Value.slice x.q (x.cs.take 100).length x.cap = _; rw [← hm]
      obtain ⟨qv, capv, rfl⟩ : ∃ qv capv, u3 = Value.slice qv i capv := by
        rcases hown.2 with ⟨e, e0⟩ | ⟨g, cap, cur, e, _⟩
        · exact ⟨none, 0, by rw [e, e0]⟩
        · exact ⟨_, _, e⟩
      have hnews : ∀ j u, [Value.slice x.q m x.cap][j]? = some u → (wr.alloc (.cells #[.slice x.q m x.cap] 29)).drew.cell? ((⟨wr.heap.size, 0, none⟩ : Addr).add j) = some u := by
        intro j u hj
        rw [Addr.add_lit]
        match j, hj with
        | 0, hj =>
          cases hj
          exact (mcells (heap_alloc_new wr _)).1 0
      have hiz : (i : Int) < (xs.length : Int) := by omega
      have hiz8 : (i : Int) < 8 := by omega
      have hobr : ob < wr.heap.size := Nat.lt_of_lt_of_le hob hbel.size
      clear hm hx hcell
      go_wp2_with fail
      go_region_law (refine step_app_own (by rfl) _ _ 22 (by rfl) w.heap.size 29 i0 (.slice none 0 0) 1 24 Try.underlying22 hi0 hz0 hz1 hz2 rfl (by decide) (.slice qv i capv) i _ (by rfl) (hown.alloc _).drew ⟨wr.heap.size, 0, none⟩ 1 1 [.slice x.q m x.cap] (by omega) (by rfl) rfl hnews (by intro u hu; simp at hu; subst hu; rfl) (by unfold maxLen; omega) (by omega) (by simp; have := hbel.size; omega) ?_; intro v4 w4 hown4 hgr4 hv4; obtain ⟨q4, cap4, rfl⟩ := own_succ hown4)
      all_goals (
        have hbw4 : Below w.heap.size w w4 := (hbel.alloc hbel.size _).drew.grown hgr4 (by simp; have := hbel.size; omega) (fun k hk => (hown.lt k hk).1)
        have hown5 : w4.ownsRow w.heap.size 29 1 (.slice q4 (i + 1) cap4) (i + 1) (((xs.take (i + 1)).map IS.cut).map IS.v) := by
          rw [HC.out, List.map_append, List.map_cons, List.map_nil, HM.out]
          exact hown4
        clear hown hown4 hgr4 hnews hv4 c0
        go_wp2
        go_roundw
        case rel => exact ⟨i + 1, by go_num, by omega, by omega, hown5, hbw4⟩
        case measure => simp [intOf]; omega)
    · have hie : (xs.take i) = xs.take 8 := by
        by_cases h : i < xs.length
        · have : i = 8 := by omega
          rw [this]
        · rw [List.take_of_length_le (by omega), List.take_of_length_le (by omega)]
      rw [hie] at hown
      have hil8 : i = ((xs.take 8).map IS.cut).length := by
        rw [List.length_map, ← hie, List.length_take]
        omega
      obtain ⟨qv, capv, g, rfl, hB, hr⟩ := own_ones hown (by rw [List.length_map]; exact hil8)
      have hA' : OArg wr qv g 0 ((xs.take 8).map IS.cut) := by
        refine ⟨fun h0 => ?_, fun y hy => ?_, fun y hy => ?_⟩
        · obtain ⟨e1, e2, e3⟩ := hr (by rw [List.length_map]; exact h0)
          exact ⟨e1, e2, fun k y hy => e3 k y.v (by rw [List.getElem?_map, hy]; rfl)⟩
        · obtain ⟨x, hx, rfl⟩ := List.mem_map.1 hy
          exact ((hA.arg x (List.mem_of_mem_take hx)).next hbel).take 100
        · obtain ⟨x, hx, rfl⟩ := List.mem_map.1 hy
          have := hA.cap x (List.mem_of_mem_take hx)
          show (x.cs.take 100).length ≤ x.cap
          rw [List.length_take]
          omega
      have HA : Hid _ := hA'
      obtain ⟨N, hN⟩ : ∃ N, N = (((xs.take 8).map IS.cut).map IS.v).length := ⟨_, rfl⟩
      have HN : Hid (N = ((xs.take 8).map IS.cut).length) := by show N = _; rw [hN, List.length_map]
      rw [← hN]
      clear hA' hil8 hie hr hown hN
      generalize ((xs.take 8).map IS.cut) = ys at *
      by_cases hx1 : (i : Int) < (xs.length : Int)
      · have hx2 : ¬ (i : Int) < 8 := by omega
        go_wp2
        go_ret
        exact ⟨qv, g, capv, by rw [← HN.out]; rfl, HA.out, hbel⟩
      · go_wp2
        go_ret
        exact ⟨qv, g, capv, by rw [← HN.out]; rfl, HA.out, hbel⟩

end Go.Proofs.Ytnpjbdbhjbccbaa
