/-
  The contract of cells.Alive: slices.IndexFunc and slices.DeleteFunc over a row of cells.
-/
import Derived.Test.YtnpjbdbhjbccbaaCRef2
namespace Go.Proofs.Ytnpjbdbhjbccbaa
open Go.RowKit Go.BigFrame Go.Sort
attribute [local go_sem] size_bstr toList_bstr ls_def

set_option maxHeartbeats 1000000 in
theorem alive1_any (a : Cl) (w : World) : Calls Try.prog 51 #[clV a] w fun e w' => e = .returned (.bool a.gone) ∧ RowKit.Below w.heap.size w w' := by
  obtain ⟨r, k, v, z, x⟩ := a
  have hB : RowKit.Below w.heap.size w (w.alloc (.cells #[.string (bstr r), .string (bstr k), .int .u64 v, .bool z, .string (bstr x)] 39)) := (RowKit.Below.refl _ _).alloc (Nat.le_refl _) _
  go_enter Try.func51, Try.ntmps51
  go_wp2
  go_ret
  exact ⟨rfl, hB⟩

set_option maxHeartbeats 2000000 in
set_option maxRecDepth 100000 in
theorem IndexFunc_any (p : Option Addr) (g cap : Nat) (cs : List Cl) (w : World) (hA : Arg w p g 0 cap cs) (hn : cs.length ≤ 100000) :
    Calls Try.prog 67 #[.slice p cs.length cap, .func (.func 51) #[] #[]] w fun e w' => RowKit.Below w.heap.size w w' ∧
      (e = .returned (.int .i64 (-1)) ∧ (∀ i (h : i < cs.length), cs[i].gone = false) ∨ ∃ i, ∃ h : i < cs.length, e = .returned (.int .i64 (i : Int)) ∧ cs[i].gone = true ∧ ∀ j (hj : j < cs.length), j < i → cs[j].gone = false) := by
  go_enter Try.func67, Try.ntmps67
  go_wp2
  go_loopw [8] (fun s8 wr => ∃ i : Nat, s8 = .int .i64 (i : Int) ∧ i ≤ cs.length ∧ Hid (∀ j (hj : j < cs.length), j < i → cs[j].gone = false) ∧ RowKit.Below w.heap.size w wr) (fun s8 _ => cs.length - (intOf s8).toNat)
  case atStart => exact ⟨0, rfl, by omega, by show ∀ _ _, _; intro j _ h; omega, RowKit.Below.refl _ _⟩
  case round =>
    obtain ⟨i, rfl, hil, HJ, hbel⟩ := hrel
    by_cases hlt : i < cs.length
    · obtain ⟨rfl, hR, hg⟩ := hA.at_ (by omega)
      obtain ⟨c0, c1, c2, c3, c4⟩ := (hR i hlt).step hbel hg
      rw [Nat.zero_add] at c0 c1 c2 c3 c4
      have hcon := fun W => alive1_any cs[i] W
      cases hgo : cs[i].gone with
      | true =>
        have HG : Hid _ := hgo
        rw [hgo] at hcon
        have hv : clV cs[i] = .agg #[.string (bstr cs[i].row), .string (bstr cs[i].col), .int .u64 cs[i].ver, .bool cs[i].gone, .string (bstr cs[i].val)] := rfl
        rw [hgo] at c3 hv
        rw [hv] at hcon
        clear hgo hv
        go_wp2_with fail
        refine (hcon _).mono ?_
        rintro e w1 ⟨rfl, hb1⟩
        have hbe := below2 hbel hb1
        clear c0 c1 c2 c3 c4 hcon
        go_wp2
        go_ret
        exact ⟨hbe, .inr ⟨i, hlt, rfl, HG.out, HJ.out⟩⟩
      | false =>
        have HJ2 : Hid (∀ j (hj : j < cs.length), j < i + 1 → cs[j].gone = false) := by
          show ∀ _ _, _
          intro j hj h
          by_cases e : j = i
          · subst e; exact hgo
          · exact HJ.out j hj (by omega)
        rw [hgo] at hcon
        have hv : clV cs[i] = .agg #[.string (bstr cs[i].row), .string (bstr cs[i].col), .int .u64 cs[i].ver, .bool cs[i].gone, .string (bstr cs[i].val)] := rfl
        rw [hgo] at c3 hv
        rw [hv] at hcon
        clear hgo hv HJ
        go_wp2_with fail
        refine (hcon _).mono ?_
        rintro e w1 ⟨rfl, hb1⟩
        have hbe := below2 hbel hb1
        clear c0 c1 c2 c3 c4 hcon
        go_wp2
        go_roundw
        case rel => exact ⟨i + 1, by go_num, by omega, HJ2, hbe⟩
        case measure => simp [intOf]; omega
    · have hie : i = cs.length := by omega
      subst hie
      go_wp2
      go_ret
      exact ⟨hbel, .inl ⟨rfl, fun i h => HJ.out i h h⟩⟩

/-- Those of the first j that are alive. -/
def aliv (cs : List Cl) (j : Nat) : List Cl := (cs.take j).filter fun c => !c.gone
/-- In the midst of the deleting: i cells that are kept, from j on as it was. -/
structure Mix (W : World) (g i j : Nat) (cs : List Cl) : Prop where
  len : (aliv cs j).length = i
  le : i < j
  head : CRow W g 0 (aliv cs j)
  tail : ∀ t (ht : t < cs.length), j ≤ t → At5 W g (t * 5) cs[t]
  live : Live W g (cs.length * 5)
theorem Mix.step {W W' : World} {g i j : Nat} {cs : List Cl} (h : Mix W g i j cs) (hb : RowKit.Below W.heap.size W W') (hg : g < W.heap.size) : Mix W' g i j cs := by
  obtain ⟨cb, fb⟩ := bcell hb
  refine ⟨h.len, h.le, h.head.step hb hg, fun t ht hj => (h.tail t ht hj).step hb hg, fun o ho => ?_, fun o => ?_⟩
  · rw [cb _ _ hg]; exact h.live.1 o ho
  · rw [fb _ _ hg]; exact h.live.2 o
theorem Mix.skip {W : World} {g i j : Nat} {cs : List Cl} (h : Mix W g i j cs) (hj : j < cs.length) (hgo : cs[j].gone = true) : Mix W g i (j + 1) cs := by
  have e : aliv cs (j + 1) = aliv cs j := filter_no _ hj (by simp [hgo])
  exact ⟨by rw [e]; exact h.len, by have := h.le; omega, by rw [e]; exact h.head, fun t ht hjt => h.tail t ht (by omega), h.live⟩
theorem At5.set5 {W : World} {g o o' : Nat} {c : Cl} (h : At5 W g o c) (v0 v1 v2 v3 v4 : Value) (hd : o + 5 ≤ o' ∨ o' + 5 ≤ o) :
    At5 (((((W.setCell ⟨g, o', none⟩ v0).setCell ⟨g, o' + 1, none⟩ v1).setCell ⟨g, o' + 2, none⟩ v2).setCell ⟨g, o' + 3, none⟩ v3).setCell ⟨g, o' + 4, none⟩ v4) g o c := by
  have k : ∀ x u, o ≤ x → x < o + 5 → W.cell? ⟨g, x, none⟩ = some u → (((((W.setCell ⟨g, o', none⟩ v0).setCell ⟨g, o' + 1, none⟩ v1).setCell ⟨g, o' + 2, none⟩ v2).setCell ⟨g, o' + 3, none⟩ v3).setCell ⟨g, o' + 4, none⟩ v4).cell? ⟨g, x, none⟩ = some u := by
    intro x u h1 h2 hu
    rw [World.cell?_setCell_other _ _ _ _ (by intro e'; simp only [Addr.mk.injEq] at e'; omega), World.cell?_setCell_other _ _ _ _ (by intro e'; simp only [Addr.mk.injEq] at e'; omega), World.cell?_setCell_other _ _ _ _ (by intro e'; simp only [Addr.mk.injEq] at e'; omega), World.cell?_setCell_other _ _ _ _ (by intro e'; simp only [Addr.mk.injEq] at e'; omega), World.cell?_setCell_other _ _ _ _ (by intro e'; simp only [Addr.mk.injEq] at e'; omega)]
    exact hu
  exact ⟨k _ _ (by omega) (by omega) h.c0, k _ _ (by omega) (by omega) h.c1, k _ _ (by omega) (by omega) h.c2, k _ _ (by omega) (by omega) h.c3, k _ _ (by omega) (by omega) h.c4⟩
theorem at5_put {W : World} {g o m : Nat} {c : Cl} (h : Live W g m) (ho : o + 5 ≤ m) :
    At5 (((((W.setCell ⟨g, o, none⟩ (.string (bstr c.row))).setCell ⟨g, o + 1, none⟩ (.string (bstr c.col))).setCell ⟨g, o + 2, none⟩ (.int .u64 c.ver)).setCell ⟨g, o + 3, none⟩ (.bool c.gone)).setCell ⟨g, o + 4, none⟩ (.string (bstr c.val))) g o c := by
  obtain ⟨u0, k0⟩ := h.1 o (by omega)
  obtain ⟨u1, k1⟩ := h.1 (o + 1) (by omega)
  obtain ⟨u2, k2⟩ := h.1 (o + 2) (by omega)
  obtain ⟨u3, k3⟩ := h.1 (o + 3) (by omega)
  obtain ⟨u4, k4⟩ := h.1 (o + 4) (by omega)
  constructor <;> go_simp
theorem Mix.put {W : World} {g i j : Nat} {cs : List Cl} (h : Mix W g i j cs) (hj : j < cs.length) (hgo : cs[j].gone = false) :
    Mix (((((W.setCell ⟨g, i * 5, none⟩ (.string (bstr cs[j].row))).setCell ⟨g, i * 5 + 1, none⟩ (.string (bstr cs[j].col))).setCell ⟨g, i * 5 + 2, none⟩ (.int .u64 cs[j].ver)).setCell ⟨g, i * 5 + 3, none⟩ (.bool cs[j].gone)).setCell ⟨g, i * 5 + 4, none⟩ (.string (bstr cs[j].val))) g (i + 1) (j + 1) cs := by
  have e : aliv cs (j + 1) = aliv cs j ++ [cs[j]] := filter_yes _ hj (by simp [hgo])
  have hle := h.le
  refine ⟨by rw [e, List.length_append, h.len]; rfl, by omega, fun t ht => ?_, fun t ht hjt => (h.tail t ht (by omega)).set5 _ _ _ _ _ (by omega), ((((h.live.set _ _).set _ _).set _ _).set _ _).set _ _⟩
  by_cases hti : t < i
  · have hx := h.head t (by rw [h.len]; exact hti)
    have e2 : (aliv cs (j + 1))[t] = (aliv cs j)[t]'(by rw [h.len]; exact hti) := by
      have : ∀ (l : List Cl) (hl : l = aliv cs j ++ [cs[j]]) (h1 : t < l.length), l[t] = (aliv cs j)[t]'(by rw [h.len]; exact hti) := by
        rintro l rfl h1
        rw [List.getElem_append_left]
      exact this _ e ht
    rw [e2]
    exact hx.set5 _ _ _ _ _ (by omega)
  · have hti2 : t = i := by rw [e, List.length_append, h.len, List.length_singleton] at ht; omega
    subst hti2
    have e2 : (aliv cs (j + 1))[t] = cs[j] := by
      have : ∀ (l : List Cl) (hl : l = aliv cs j ++ [cs[j]]) (h1 : t < l.length), l[t] = cs[j] := by
        rintro l rfl h1
        rw [List.getElem_append_right (by rw [h.len]; omega)]
        simp [h.len]
      exact this _ e ht
    rw [e2, Nat.zero_add]
    exact at5_put h.live (by omega)
theorem below_setCells (g : Nat) : ∀ (vs : List Value) (o : Nat) (w : World), RowKit.Below g w (w.setCells g o vs)
  | [], _, _ => RowKit.Below.refl _ _
  | v :: vs, o, w => ((RowKit.Below.refl g w).setCell (p := ⟨g, o, none⟩) (Nat.le_refl _) v).trans (below_setCells g vs (o + 1) _)
theorem frozen_setCells (g : Nat) : ∀ (vs : List Value) (o : Nat) (w : World) (x : Addr), (w.setCells g o vs).frozen? x = w.frozen? x
  | [], _, _, _ => rfl
  | v :: vs, o, w, x => by
    rw [World.setCells, frozen_setCells g vs (o + 1)]
    simp
/-- 'clear(s)' over cells. -/
theorem clear_cells (w : World) (ty : TypeId) (g i n c : Nat) (hn : 0 < n) (hL : Live w g ((i + n) * 5)) :
    ∃ vs, (Builtin.clear_ #[29] ty #[.slice (some ⟨g, i * 5, none⟩) n c]).run Try.prog w = .ok (.tuple #[]) (w.setCells g (i * 5) vs) := by
  have hv : ∀ w, (zeroValue 39).run Try.prog w = .ok (.agg #[.string ⟨#[]⟩, .string ⟨#[]⟩, .int .u64 0, .bool false, .string ⟨#[]⟩]) w := Try.zeroValue39
  refine ⟨(Builtin.zeroCells (Value.agg #[.string ⟨#[]⟩, .string ⟨#[]⟩, .int .u64 0, .bool false, .string ⟨#[]⟩]).cells n).toList, ?_⟩
  have hlen : (Builtin.zeroCells (Value.agg #[.string ⟨#[]⟩, .string ⟨#[]⟩, .int .u64 0, .bool false, .string ⟨#[]⟩]).cells n).toList.length = n * 5 := by
    simp [Builtin.zeroCells, Value.cells]
  have hone : ∀ v ∈ (Builtin.zeroCells (Value.agg #[.string ⟨#[]⟩, .string ⟨#[]⟩, .int .u64 0, .bool false, .string ⟨#[]⟩]).cells n).toList, v.oneCell' = true := by
    intro v hv'
    simp only [Builtin.zeroCells, Value.cells, Array.toList_map, List.mem_map] at hv'
    obtain ⟨k, _, rfl⟩ := hv'
    have hk : k % 5 < 5 := Nat.mod_lt _ (by omega)
    show ((#[Value.string ⟨#[]⟩, .string ⟨#[]⟩, .int .u64 0, .bool false, .string ⟨#[]⟩] : Array Value)[k % 5]!).oneCell' = true
    generalize k % 5 = m at hk
    match m, hk with
    | 0, _ => rfl
    | 1, _ => rfl
    | 2, _ => rfl
    | 3, _ => rfl
    | 4, _ => rfl
  have hst := run_storeCells_cells (P := Try.prog) g (i * 5) _ 0 w (by
    intro j hj
    rw [hlen] at hj
    obtain ⟨u, hu⟩ := hL.1 (i * 5 + j) (by omega)
    rw [Nat.add_zero, hu]
    rfl) (by
    intro j hj
    rw [Nat.add_zero]
    exact hL.2 _) hone
  simp only [Nat.add_zero] at hst
  obtain ⟨m, rfl⟩ : ∃ m, n = m + 1 := ⟨n - 1, by omega⟩
  simp [Builtin.clear_, run_underlying Try.underlying29, hv, hst]

theorem alive_all {cs : List Cl} (h : ∀ i (h : i < cs.length), cs[i].gone = false) : (cs.filter fun c => !c.gone) = cs := by
  rw [List.filter_eq_self]
  intro c hc
  obtain ⟨i, hi, rfl⟩ := List.getElem_of_mem hc
  simp [h i hi]
theorem aliv_start {cs : List Cl} {i : Nat} (hi : i < cs.length) (hg : cs[i].gone = true) (hb : ∀ j (hj : j < cs.length), j < i → cs[j].gone = false) : aliv cs (i + 1) = cs.take i := by
  unfold aliv
  rw [filter_no _ hi (by simp [hg]), List.filter_eq_self]
  intro c hc
  obtain ⟨k, hk, rfl⟩ := List.getElem_of_mem hc
  rw [List.length_take] at hk
  rw [List.getElem_take]
  simp [hb k (by omega) (by omega)]
theorem Mix.start {W : World} {g i : Nat} {cs : List Cl} (hR : CRow W g 0 cs) (hf : ∀ o, W.frozen? ⟨g, o, none⟩ = false) (hi : i < cs.length) (hg : cs[i].gone = true) (hb : ∀ j (hj : j < cs.length), j < i → cs[j].gone = false) : Mix W g i (i + 1) cs := by
  have e := aliv_start hi hg hb
  refine ⟨by rw [e, List.length_take]; omega, by omega, by rw [e]; exact hR.take i, fun t ht _ => ?_, hR.live hf⟩
  have := hR t ht
  rw [Nat.zero_add] at this
  exact this

theorem below_set5b {w W : World} {g o : Nat} (p q r s t : Value) (hB : RowKit.Below g w W) : RowKit.Below g w (((((W.setCell ⟨g, o, none⟩ p).setCell ⟨g, o + 1, none⟩ q).setCell ⟨g, o + 2, none⟩ r).setCell ⟨g, o + 3, none⟩ s).setCell ⟨g, o + 4, none⟩ t) :=
  ((((hB.setCell (p := ⟨g, o, none⟩) (Nat.le_refl _) p).setCell (p := ⟨g, o + 1, none⟩) (Nat.le_refl _) q).setCell (p := ⟨g, o + 2, none⟩) (Nat.le_refl _) r).setCell (p := ⟨g, o + 3, none⟩) (Nat.le_refl _) s).setCell (p := ⟨g, o + 4, none⟩) (Nat.le_refl _) t

set_option maxHeartbeats 4000000 in
set_option maxRecDepth 100000 in
theorem DeleteFunc_any (p : Option Addr) (g cap : Nat) (cs : List Cl) (w : World) (hA : Arg w p g 0 cap cs) (hf : 0 < cs.length → ∀ o, w.frozen? ⟨g, o, none⟩ = false) (hcap : cs.length ≤ cap) (hn : cs.length ≤ 100000) :
    Calls Try.prog 50 #[.slice p cs.length cap, .func (.func 51) #[] #[]] w fun e w' =>
      e = .returned (.slice p (cs.filter fun c => !c.gone).length cap) ∧ (0 < cs.length → p = some ⟨g, 0, none⟩ ∧ CRow w' g 0 (cs.filter fun c => !c.gone) ∧ (∀ o, w'.frozen? ⟨g, o, none⟩ = false) ∧ g < w'.heap.size ∧ RowKit.Below g w w') ∧ (cs.length = 0 → RowKit.Below w.heap.size w w') := by
  go_enter Try.func50, Try.ntmps50
  go_wp2_with fail
  refine (IndexFunc_any p g cap cs w hA hn).mono ?_
  rintro e w1 ⟨hb1, ⟨rfl, hall⟩ | ⟨i, hi, rfl, hgi, hbi⟩⟩
  · have HE : Hid _ := alive_all hall
    clear hall
    go_wp2
    go_ret
    refine ⟨by rw [HE.out]; rfl, fun h0 => ?_, fun _ => hb1⟩
    obtain ⟨rfl, hR, hg⟩ := hA.at_ h0
    rw [HE.out]
    exact ⟨rfl, hR.step hb1 hg, fun o => by rw [hb1.frozen (p := ⟨g, o, none⟩) hg]; exact hf h0 o, Nat.lt_of_lt_of_le hg hb1.size, hb1.mono (Nat.le_of_lt hg)⟩
  · obtain ⟨rfl, hR, hg⟩ := hA.at_ (by omega)
    have hf1 : ∀ o, w1.frozen? ⟨g, o, none⟩ = false := fun o => by rw [hb1.frozen (p := ⟨g, o, none⟩) hg]; exact hf (by omega) o
    have hM := Mix.start (hR.step hb1 hg) hf1 hi hgi hbi
    have hg1 : g < w1.heap.size := Nat.lt_of_lt_of_le hg hb1.size
    have hb1' : RowKit.Below g w w1 := hb1.mono (Nat.le_of_lt hg)
    have him : ((i : Int) == -1) = false := by rw [beq_eq_false_iff_ne]; omega
    clear hgi hbi hf1 hR
    go_wp2
    go_loopw [5, 6] (fun s5 s6 wr => ∃ i j : Nat, s5 = .int .i64 (i : Int) ∧ s6 = .int .i64 (j : Int) ∧ j ≤ cs.length ∧ Hid (Mix wr g i j cs) ∧ g < wr.heap.size ∧ RowKit.Below g w wr) (fun _ s6 _ => cs.length - (intOf s6).toNat)
    case atStart => exact ⟨i, i + 1, by go_num, by go_num, by omega, hM, hg1, hb1'⟩
    case round =>
      clear hM hb1' hg1 him hi
      obtain ⟨i, j, rfl, rfl, hjl, HM, hgr, hbel⟩ := hrel
      have hij := HM.out.le
      by_cases hlt : j < cs.length
      · obtain ⟨c0, c1, c2, c3, c4⟩ := HM.out.tail j hlt (Nat.le_refl _)
        have hjz : (j : Int) < (cs.length : Int) := by omega
        have hiz : (i : Int) < (cs.length : Int) := by omega
        have hcon := fun W => alive1_any cs[j] W
        have hW1 : RowKit.Below wr.heap.size wr (wr.alloc (.cells #[.string (bstr cs[j].row), .string (bstr cs[j].col), .int .u64 cs[j].ver, .bool cs[j].gone, .string (bstr cs[j].val)] 39)) := (RowKit.Below.refl _ _).alloc (Nat.le_refl _) _
        have hAt := CellAt.new wr 39 cs[j].row cs[j].col cs[j].ver cs[j].gone cs[j].val
        have hgo : cs[j].gone = true ∨ cs[j].gone = false := by cases cs[j].gone <;> simp
        obtain ⟨z, hz⟩ : ∃ z, cs[j].gone = z := ⟨_, rfl⟩
        have HZ : Hid _ := hz
        have hv : clV cs[j] = .agg #[.string (bstr cs[j].row), .string (bstr cs[j].col), .int .u64 cs[j].ver, .bool z, .string (bstr cs[j].val)] := by rw [← hz]
        rw [hv, hz] at hcon
        rw [hz] at c3 hW1 hAt
        clear hgo hz hv
        go_wp2_with fail
        refine (hcon _).mono ?_
        rintro e w2 ⟨rfl, hb2⟩
        have hAt2 := hAt.step hb2
        have hb2' := below2 hW1 hb2
        have hM2 := HM.out.step hb2' hgr
        have hg2 : g < w2.heap.size := Nat.lt_of_lt_of_le hgr hb2'.size
        have hbe : RowKit.Below g w w2 := hbel.trans (hb2'.mono (Nat.le_of_lt hgr))
        clear c0 c1 c2 c3 c4 hcon hb2 hW1 hAt hb2' HM
        cases z with
        | true =>
          have HM3 : Hid _ := hM2.skip hlt HZ.out
          clear hAt2 hM2
          go_wp2
          go_roundw
          case rel => exact ⟨i, j + 1, rfl, by go_num, by omega, HM3, hg2, hbe⟩
          case measure => simp [intOf]; omega
        | false =>
          have hM3 := hM2.put hlt HZ.out
          rw [HZ.out] at hM3
          have HM3 : Hid _ := hM3
          have hbw : RowKit.Below g w _ := below_set5b (.string (bstr cs[j].row)) (.string (bstr cs[j].col)) (.int .u64 cs[j].ver) (.bool false) (.string (bstr cs[j].val)) hbe (o := i * 5)
          obtain ⟨e0, e1, e2, e3, e4⟩ := hAt2
          obtain ⟨u0, k0⟩ := hM2.live.1 (i * 5) (by omega)
          obtain ⟨u1, k1⟩ := hM2.live.1 (i * 5 + 1) (by omega)
          obtain ⟨u2, k2⟩ := hM2.live.1 (i * 5 + 2) (by omega)
          obtain ⟨u3, k3⟩ := hM2.live.1 (i * 5 + 3) (by omega)
          obtain ⟨u4, k4⟩ := hM2.live.1 (i * 5 + 4) (by omega)
          have f0 := hM2.live.2 (i * 5)
          have f1 := hM2.live.2 (i * 5 + 1)
          have f2 := hM2.live.2 (i * 5 + 2)
          have f3 := hM2.live.2 (i * 5 + 3)
          have f4 := hM2.live.2 (i * 5 + 4)
          clear hM2 hM3
          go_wp2
          go_roundw
          case rel => exact ⟨i + 1, j + 1, by go_num, by go_num, by omega, HM3, by simpa using hg2, hbw⟩
          case measure => simp [intOf]; omega
      · have hje : j = cs.length := by omega
        subst hje
        obtain ⟨hlen, hle, hhead, _, hlive⟩ := HM.out
        clear HM
        have hal : aliv cs cs.length = cs.filter fun c => !c.gone := by unfold aliv; rw [List.take_length]
        rw [hal] at hlen hhead
        obtain ⟨vs, hcl⟩ : ∃ vs, ∀ ty, (Builtin.clear_ #[29] ty #[.slice (some ⟨g, i * 5, none⟩) (cs.length - i) (cap - i)]).run Try.prog wr = .ok (.tuple #[]) (wr.setCells g (i * 5) vs) := by
          obtain ⟨vs, h⟩ := clear_cells wr 0 g i (cs.length - i) (cap - i) (by omega) (by rw [show i + (cs.length - i) = cs.length by omega]; exact hlive)
          exact ⟨vs, fun ty => h⟩
        have hbw : RowKit.Below g w (wr.setCells g (i * 5) vs) := hbel.trans (below_setCells g vs _ _)
        have hfz : ∀ o, (wr.setCells g (i * 5) vs).frozen? ⟨g, o, none⟩ = false := fun o => by rw [frozen_setCells]; exact hlive.2 o
        have hgz : g < (wr.setCells g (i * 5) vs).heap.size := Nat.lt_of_lt_of_le hgr (below_setCells g vs _ _).size
        have hrow : CRow (wr.setCells g (i * 5) vs) g 0 (cs.filter fun c => !c.gone) := by
          intro t ht
          have hx := hhead t ht
          have hti : t < i := by omega
          have k : ∀ x, x < i * 5 → (wr.setCells g (i * 5) vs).cell? ⟨g, x, none⟩ = wr.cell? ⟨g, x, none⟩ := fun x hx => World.cell?_setCells_out g vs _ _ ⟨g, x, none⟩ (fun _ _ => .inl hx)
          exact ⟨by rw [k _ (by omega)]; exact hx.c0, by rw [k _ (by omega)]; exact hx.c1, by rw [k _ (by omega)]; exact hx.c2, by rw [k _ (by omega)]; exact hx.c3, by rw [k _ (by omega)]; exact hx.c4⟩
        have HL : Hid _ := hlen
        have HR : Hid _ := hrow
        clear hlen hrow hhead hal hlive
        have hic : (i : Int) ≤ (cap : Int) := by omega
        have hil : (i : Int) ≤ (cs.length : Int) := by omega
        go_wp2
        go_ret
        refine ⟨by rw [HL.out]; rfl, fun _ => by first | exact ⟨HR.out, hfz, hgz, hbw⟩ | exact ⟨rfl, HR.out, hfz, hgz, hbw⟩, fun h => ?_⟩
        exfalso
        first | omega | (rw [h] at hij; simp at hij)

set_option maxHeartbeats 2000000 in
set_option maxRecDepth 100000 in
theorem Alive_any (q : Option Addr) (b off cap : Nat) (cs : List Cl) (w : World) (hA : Arg w q b off cap cs) (hf : ∀ c ∈ cs, Fits c) (hn : cs.length ≤ 100000) :
    Calls Try.prog 26 #[.slice q cs.length cap] w fun e w' => ∃ p c g, e = .returned (.slice p (aliveL cs).length c) ∧ w.heap.size ≤ g ∧ (0 < (aliveL cs).length → p = some ⟨g, 0, none⟩ ∧ CRow w' g 0 (aliveL cs) ∧ g < w'.heap.size) ∧ (0 < (aliveL cs).length → ∀ o, w'.frozen? ⟨g, o, none⟩ = false) ∧ RowKit.Below w.heap.size w w' := by
  have hsl : (newL cs).length ≤ 100000 := Nat.le_trans (ddl_length _ _) (Nat.le_trans (sort_len _) hn)
  have hcon := Newest_any q b off cap cs w hA.at_ hf (by omega)
  unfold aliveL
  generalize newL cs = ns at *
  go_enter Try.func26, Try.ntmps26
  go_wp2_with fail
  refine hcon.mono ?_
  rintro e w1 ⟨v1, rfl, hown1, hb1⟩
  obtain ⟨_, _, hv0, hcm, hcl, _⟩ := own_cslice hown1
  obtain ⟨p, c, g, hv1, hB, hAn, hfz⟩ := own_arg hown1
  obtain ⟨rfl, rfl⟩ : _ = p ∧ _ = c := by rw [hv0] at hv1; simpa using hv1
  subst hv0
  clear hown1 hcon hv1
  go_wp2_with fail
  refine (DeleteFunc_any _ g _ ns w1 hAn hfz hcl hsl).mono ?_
  rintro e w2 ⟨rfl, h1, h2⟩
  have hll : (ns.filter fun c => !c.gone).length ≤ ns.length := List.length_filter_le _ _
  have hw1 := hb1.size
  have hbe : RowKit.Below w.heap.size w w2 := by
    by_cases h0 : 0 < ns.length
    · exact hb1.trans ((h1 h0).2.2.2.2.mono (by omega))
    · exact below2 hb1 (h2 (by omega))
  have H1 : Hid _ := h1
  clear h1 h2 hAn hfz
  go_wp2
  go_ret
  exact ⟨_, _, g, rfl, by omega, fun h => ⟨(H1.out (by omega)).1, (H1.out (by omega)).2.1, (H1.out (by omega)).2.2.2.1⟩, fun h => (H1.out (by omega)).2.2.1, hbe⟩

end Go.Proofs.Ytnpjbdbhjbccbaa
