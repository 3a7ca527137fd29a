/-
  The contract of cells.order, and of cells.firsts.
-/
import Derived.Test.YtnpjbdbhjbccbaaCOrd
import Derived.Test.YtnpjbdbhjbccbaaCFresh
import Derived.Laws.MakeOwn
import Derived.Lib.QuietBelow
import Derived.BigQuiet
namespace Go.Proofs.Ytnpjbdbhjbccbaa
open Go.RowKit Go.BigFrame Go.Sort
attribute [local go_sem] size_bstr toList_bstr ls_def

theorem Try.infoI : (Try.prog.info? 3).map (fun i => (i.zero, i.size, i.bytes)) = some (some (.int .i64 0), 1, 8) := by kernel_rfl
/-- The cells of a new row of n numbers. -/
def zsI (n : Nat) : Array Value := madeCells (Value.int .i64 0).cells n
theorem zsI_get (n j : Nat) (h : j < n) : (zsI n)[j]? = some (.int .i64 0) := by
  unfold zsI madeCells
  have h1 : j % 1 = 0 := Nat.mod_one j
  simp [h, Value.cells, h1]
theorem makeI_run (k : IntKind) (n : Nat) (hn : n * 64 ≤ 140737488351232) (w : World) : (Instr.makeSlice 72 (.int k (n : Int)) (.int k (n : Int))).run Try.prog w = .ok (.slice (some ⟨w.heap.size, 0, none⟩) n n) (w.alloc (.cells (zsI n) 3)) := by
  obtain ⟨i0, hi, hz0, hz1, hz2⟩ := info_parts Try.infoI
  have := run_make (P := Try.prog) (w := w) 72 3 i0 (.int .i64 0) Try.underlying72 hi hz0 k k (n : Int) (n : Int) (by omega) (by omega) (by rw [hz2]; omega) (by omega)
  rw [Int.toNat_natCast, hz1, Nat.mul_one] at this
  exact this
/-- A row of n numbers, of which the first i are the indices. -/
def Fill (W : World) (g n i : Nat) : Prop := ∀ j, j < n → W.cell? ⟨g, j, none⟩ = some (.int .i64 (if j < i then (j : Int) else 0)) ∧ W.frozen? ⟨g, j, none⟩ = false

theorem Fill.start (w : World) (n : Nat) (t : TypeId) : Fill (w.alloc (.cells (zsI n) t)) w.heap.size n 0 := fun j hj => by
  refine ⟨?_, by simp⟩
  rw [World.cell?_alloc_at _ t w.heap.size j rfl, zsI_get n j hj]
  simp
theorem Fill.set {W : World} {g n i : Nat} (h : Fill W g n i) (hi : i < n) : Fill (W.setCell ⟨g, i, none⟩ (.int .i64 (i : Int))) g n (i + 1) := fun j hj => by
  obtain ⟨h1, h2⟩ := h j hj
  refine ⟨?_, by simpa using h2⟩
  by_cases e : j = i
  · subst e
    rw [World.cell?_setCell_same' W _ _ (by rw [h1]; rfl), if_pos (Nat.lt_succ_self _)]
  · rw [World.cell?_setCell_other _ _ _ _ (by intro e'; simp only [Addr.mk.injEq] at e'; omega), h1]
    by_cases hji : j < i
    · rw [if_pos hji, if_pos (by omega)]
    · rw [if_neg hji, if_neg (by omega)]
theorem Fill.full {W : World} {g n : Nat} (h : Fill W g n n) : IRow W g (List.range n) := fun i hi => by
  have hi' : i < n := by simpa using hi
  have := (h i hi').1
  rw [if_pos hi'] at this
  rw [this, List.getElem_range]

set_option maxHeartbeats 2000000 in
set_option maxRecDepth 100000 in
theorem corder_any (nf nl b off lcap : Nat) (cs : List Cl) (q : Option Addr) (w : World) (hsz : cs.length * 64 ≤ 140737488351232)
    (hf0 : w.cell? ⟨nf, 0, none⟩ = some (.func (.func 63) #[] #[.pointer (some ⟨nl, 0, none⟩)])) (hf1 : w.cell? ⟨nf, 1, none⟩ = some (.func (.func 64) #[] #[]))
    (hl : w.cell? ⟨nl, 0, none⟩ = some (.slice q cs.length lcap)) (hq : 0 < cs.length → q = some ⟨b, off, none⟩ ∧ CRow w b off cs ∧ b < w.heap.size) :
    Calls Try.prog 62 #[.int .i64 cs.length, .slice (some ⟨nf, 0, none⟩) 2 2] w fun e w' =>
      ∃ (g : Nat) (is : List Nat), e = .returned (.slice (some ⟨g, 0, none⟩) cs.length cs.length) ∧ is.length = cs.length ∧ is.Pairwise (LtI cs) ∧ (∀ i, i ∈ is ↔ i < cs.length) ∧ w.heap.size ≤ g ∧ g < w'.heap.size ∧ IRow w' g is ∧ RowKit.Below w.heap.size w w' := by
  have hmk := fun W => makeI_run .i64 cs.length hsz W
  have hB0 : RowKit.Below w.heap.size w (w.alloc (.cells #[.slice (some ⟨nf, 0, none⟩) 2 2] 78)) := (RowKit.Below.refl _ _).alloc (Nat.le_refl _) _
  have hby : (w.alloc (.cells #[.slice (some ⟨nf, 0, none⟩) 2 2] 78)).cell? ⟨w.heap.size, 0, none⟩ = some (.slice (some ⟨nf, 0, none⟩) 2 2) := by rw [World.cell?_alloc_at _ _ w.heap.size 0 rfl]; rfl
  have hs1 : (w.alloc (.cells #[.slice (some ⟨nf, 0, none⟩) 2 2] 78)).heap.size = w.heap.size + 1 := by simp
  have lnf : nf < w.heap.size := block_lt_of_cell hf0
  have lnl : nl < w.heap.size := block_lt_of_cell hl
  go_enter Try.func62, Try.ntmps62
  go_wp2
  have HH : Hid _ := And.intro hf0 (And.intro hf1 (And.intro hl hq))
  clear hmk hf0 hf1 hl hq
  generalize w.alloc (.cells #[.slice (some ⟨nf, 0, none⟩) 2 2] 78) = w1 at *
  have hF0 := Fill.start w1 cs.length 3
  have hB1 : RowKit.Below (w.heap.size + 1) w1 (w1.alloc (.cells (zsI cs.length) 3)) := (RowKit.Below.refl _ _).alloc (by omega) _
  have hs2 : w.heap.size + 1 < (w1.alloc (.cells (zsI cs.length) 3)).heap.size := by simp; omega
  rw [hs1] at hF0
  generalize w1.alloc (.cells (zsI cs.length) 3) = w2 at *
  go_loopw [11] (fun s11 wr => ∃ i : Nat, s11 = .int .i64 (i : Int) ∧ i ≤ cs.length ∧ Fill wr (w.heap.size + 1) cs.length i ∧ RowKit.Below (w.heap.size + 1) w2 wr) (fun s11 _ => cs.length - (intOf s11).toNat)
  case atStart => exact ⟨0, rfl, by omega, hF0, RowKit.Below.refl _ _⟩
  case round =>
    obtain ⟨i, rfl, hil, hF, hbr⟩ := hrel
    by_cases hlt : i < cs.length
    · obtain ⟨k0, k1⟩ := hF i hlt
      have hF2 := hF.set hlt
      have hb2 := hbr.setCell (p := ⟨w.heap.size + 1, i, none⟩) (Nat.le_refl _) (.int .i64 (i : Int))
      clear hF0 hF
      go_wp2
      go_roundw
      case rel => exact ⟨i + 1, by go_num, by omega, hF2, hb2⟩
      case measure => simp [intOf]; omega
    · have hie : i = cs.length := by omega
      subst hie
      have hbw := hB1.trans hbr
      have hww : RowKit.Below w.heap.size w wr := hB0.trans (hbw.mono (by omega))
      have hsr : w.heap.size + 1 < wr.heap.size := Nat.lt_of_lt_of_le hs2 hbr.size
      have hby2 : wr.cell? ⟨w.heap.size, 0, none⟩ = some (.slice (some ⟨nf, 0, none⟩) 2 2) := by rw [hbw.cell (p := ⟨w.heap.size, 0, none⟩) (Nat.lt_succ_self _)]; exact hby
      clear hby hB0 hB1 hF0 hbw hbr
      by_cases h0 : 0 < cs.length
      · obtain ⟨hf0, hf1, hl, hq⟩ := HH.out
        obtain ⟨rfl, hR, hbl⟩ := hq h0
        have hso := SortI_any (w.heap.size + 1) cs.length w.heap.size nf nl b off lcap cs wr h0 hF.full (fun o ho => (hF o ho).2) hsr (by omega) (by omega) (by omega) (by omega) (by omega) hby2 (by rw [hww.cell (p := ⟨nf, 0, none⟩) lnf]; exact hf0) (by rw [hww.cell (p := ⟨nf, 1, none⟩) lnf]; exact hf1) (by rw [hww.cell (p := ⟨nl, 0, none⟩) lnl]; exact hl) (hR.step hww hbl)
        clear hf0 hf1 hl hq hR hby2
        go_wp2_with fail
        refine hso.mono ?_
        clear hso
        rintro e w3 ⟨rfl, is, hi1, hi2, hi3, hi4, hb3⟩
        have HI : Hid _ := And.intro hi2 hi3
        clear hi2 hi3
        have hbe := hww.trans (hb3.mono (Nat.le_succ _))
        have hz := hb3.size
        go_wp2
        go_ret
        exact ⟨w.heap.size + 1, is, rfl, hi1, HI.out.1, HI.out.2, Nat.le_succ _, by omega, hi4, hbe⟩
      · have hz : cs.length = 0 := by omega
        have hcs : cs = [] := List.eq_nil_of_length_eq_zero hz
        clear HH hby2 hF
        subst hcs
        go_wp2_with fail
        refine (SortI_none _ _ _ _).mono ?_
        rintro e w3 ⟨rfl, rfl⟩
        go_wp2
        go_ret
        exact ⟨w.heap.size + 1, [], rfl, rfl, List.Pairwise.nil, by simp, Nat.le_succ _, hsr, fun i hi => by simp at hi, hww⟩

set_option maxHeartbeats 2000000 in
set_option maxRecDepth 100000 in
/-- cells.firsts: gone through in order, of those alike the first alone. -/
theorem firsts_any (F : Nat) (f : Cl → Cl → Bool) (q : Option Addr) (b off cap : Nat) (cs : List Cl) (w : World) (eF : ∀ args w, (callFunc F args).run Try.prog w = .ok (.enter F args) w) (hF : ∀ (x y : Cl) (W : World), Calls Try.prog F #[clV x, clV y] W fun e w' => e = .returned (.bool (f x y)) ∧ RowKit.Below W.heap.size W w')
    (hq : 0 < cs.length → q = some ⟨b, off, none⟩ ∧ CRow w b off cs ∧ b < w.heap.size) (hf : ∀ c ∈ cs, Fits c) (hn : cs.length * 64 ≤ 140737488351232) :
    Calls Try.prog 46 #[.slice q cs.length cap, .func (.func F) #[] #[]] w fun e w' => ∃ (is : List Nat) (v : Value), is.Pairwise (LtI cs) ∧ (∀ i, i ∈ is ↔ i < cs.length) ∧ e = .returned v ∧ w'.ownsRow w.heap.size 39 5 v (ddl f (pick cs is)).length (ccells (ddl f (pick cs is))) ∧ RowKit.Below w.heap.size w w' := by
  obtain ⟨i0, hi0, hz0, hz1, hz2⟩ := info_parts Try.infoCell
  have hB0 : RowKit.Below w.heap.size w ((w.alloc (.cells #[.slice q cs.length cap] 29)).alloc (.cells #[.func (.func 63) #[] #[.pointer (some ⟨w.heap.size, 0, none⟩)], .func (.func 64) #[] #[]] 74)) := ((RowKit.Below.refl _ _).alloc (Nat.le_refl _) _).alloc (by simp) _
  have hs0 : ((w.alloc (.cells #[.slice q cs.length cap] 29)).alloc (.cells #[.func (.func 63) #[] #[.pointer (some ⟨w.heap.size, 0, none⟩)], .func (.func 64) #[] #[]] 74)).heap.size = w.heap.size + 2 := by simp
  have hl0 : ((w.alloc (.cells #[.slice q cs.length cap] 29)).alloc (.cells #[.func (.func 63) #[] #[.pointer (some ⟨w.heap.size, 0, none⟩)], .func (.func 64) #[] #[]] 74)).cell? ⟨w.heap.size, 0, none⟩ = some (.slice q cs.length cap) := by go_simp
  have hf0 : ((w.alloc (.cells #[.slice q cs.length cap] 29)).alloc (.cells #[.func (.func 63) #[] #[.pointer (some ⟨w.heap.size, 0, none⟩)], .func (.func 64) #[] #[]] 74)).cell? ⟨w.heap.size + 1, 0, none⟩ = some (.func (.func 63) #[] #[.pointer (some ⟨w.heap.size, 0, none⟩)]) := by go_simp
  have hf1 : ((w.alloc (.cells #[.slice q cs.length cap] 29)).alloc (.cells #[.func (.func 63) #[] #[.pointer (some ⟨w.heap.size, 0, none⟩)], .func (.func 64) #[] #[]] 74)).cell? ⟨w.heap.size + 1, 1, none⟩ = some (.func (.func 64) #[] #[]) := by go_simp
  go_enter Try.func46, Try.ntmps46
  go_wp2_with fail
  generalize (w.alloc (.cells #[.slice q cs.length cap] 29)).alloc (.cells #[.func (.func 63) #[] #[.pointer (some ⟨w.heap.size, 0, none⟩)], .func (.func 64) #[] #[]] 74) = w0 at *
  have hq0 : 0 < cs.length → q = some ⟨b, off, none⟩ ∧ CRow w0 b off cs ∧ b < w0.heap.size := fun h => ⟨(hq h).1, (hq h).2.1.step hB0 (hq h).2.2, by have := (hq h).2.2; omega⟩
  refine (corder_any (w.heap.size + 1) w.heap.size b off cap cs q w0 hn hf0 hf1 hl0 hq0).mono ?_
  rintro e w1 ⟨g, is, rfl, hil, hip, hir, hg1, hg2, hI, hb1⟩
  have hl1 : w1.cell? ⟨w.heap.size, 0, none⟩ = some (.slice q cs.length cap) := by rw [hb1.cell (p := ⟨w.heap.size, 0, none⟩) (by show w.heap.size < w0.heap.size; omega)]; exact hl0
  have hq1 : 0 < cs.length → q = some ⟨b, off, none⟩ ∧ CRow w1 b off cs ∧ b < w1.heap.size := fun h => ⟨(hq0 h).1, (hq0 h).2.1.step hb1 (hq0 h).2.2, Nat.lt_of_lt_of_le (hq0 h).2.2 hb1.size⟩
  have hb01 := below2 hB0 hb1
  have hz1' : w.heap.size < w1.heap.size := by have := hb1.size; omega
  have HP : Hid _ := And.intro hip hir
  have HQ : Hid _ := hq1
  clear hip hq hq0 hl0 hf0 hf1 hB0 hb1 hq1
  go_wp2
  go_loopw [5, 15] (fun s5 s15 wr => ∃ i : Nat, s15 = .int .i64 (i : Int) ∧ i ≤ cs.length ∧ wr.ownsRow w1.heap.size 39 5 s5 (ddl f (pick cs (is.take i))).length (ccells (ddl f (pick cs (is.take i)))) ∧ RowKit.Below w1.heap.size w1 wr) (fun _ s15 _ => cs.length - (intOf s15).toNat)
  case atStart => exact ⟨0, rfl, by omega, ⟨rfl, .inl ⟨rfl, rfl⟩⟩, RowKit.Below.refl _ _⟩
  case round =>
    obtain ⟨i, rfl, hil2, hown, hbel⟩ := hrel
    by_cases hlt : i < cs.length
    · obtain ⟨rfl, hR, hbl⟩ := HQ.out (by omega)
      have hii : i < is.length := by omega
      have hat : is[i] < cs.length := (hir _).1 (List.getElem_mem hii)
      have hic := (hI.step hbel hg2) i hii
      have hAt := (hR.step hbel hbl) is[i] hat
      have hfi := hf cs[is[i]] (List.getElem_mem hat)
      have hlc : wr.cell? ⟨w.heap.size, 0, none⟩ = some (.slice (some ⟨b, off, none⟩) cs.length cap) := by rw [hbel.cell (p := ⟨w.heap.size, 0, none⟩) hz1']; exact hl1
      have hpk : pick cs (is.take (i + 1)) = pick cs (is.take i) ++ [cs[is[i]]] := by rw [List.take_succ_eq_append_getElem hii]; exact pick_snoc (List.getElem?_eq_getElem hat)
      have hdd : ddl f (pick cs (is.take (i + 1))) = stp f (ddl f (pick cs (is.take i))) cs[is[i]] := by rw [hpk, ddl_snoc]
      have hlen : (ddl f (pick cs (is.take i))).length ≤ i := Nat.le_trans (ddl_length _ _) (by unfold pick; exact Nat.le_trans (List.length_filterMap_le _ _) (by simp; omega))
      have HD : Hid _ := hdd
      have HFI : Hid _ := hfi
      clear hpk hdd hfi hR
      have hac : (is[i] : Int) < (cs.length : Int) := by omega
      generalize is[i] = at_ at *
      generalize cs[at_] = c at *
      generalize ddl f (pick cs (is.take i)) = acc at *
      obtain ⟨p, lcap, rfl, hlm, hlc2, hrow⟩ := own_cslice hown
      obtain ⟨c0, c1, c2, c3, c4⟩ := id hAt
      have hi0' : (0 : Int) ≤ (i : Int) := by omega
      have hiz : (i : Int) < (cs.length : Int) := by omega
      rcases List.eq_nil_or_concat acc with rfl | ⟨pre, y, hacc⟩
      · have hst : stp f [] c = [c] := stp_none
        have HE : Hid _ := HD.out.trans hst
        clear HD hst hrow
        obtain ⟨r, k, v, z, x⟩ := c
        simp only at c0 c1 c2 c3 c4
        simp only [List.length_nil] at *
        go_wp2_with fail
        go_quiet (fail)
        have hbq := below_drewN hbel nq
        have hownq : (wr.drewN nq).ownsRow w1.heap.size 39 5 (.slice p 0 lcap) 0 (ccells []) := hown
        replace c0 : (wr.drewN nq).cell? ⟨b, off + at_ * 5, none⟩ = _ := c0
        replace c1 : (wr.drewN nq).cell? ⟨b, off + at_ * 5 + 1, none⟩ = _ := c1
        replace c2 : (wr.drewN nq).cell? ⟨b, off + at_ * 5 + 2, none⟩ = _ := c2
        replace c3 : (wr.drewN nq).cell? ⟨b, off + at_ * 5 + 3, none⟩ = _ := c3
        replace c4 : (wr.drewN nq).cell? ⟨b, off + at_ * 5 + 4, none⟩ = _ := c4
        replace hlc : (wr.drewN nq).cell? ⟨w.heap.size, 0, none⟩ = _ := hlc
        clear hown hbel hic hAt
        generalize wr.drewN nq = wq at *
        go_wp2_with fail
        refine (fresh_any ⟨r, k, v, z, x⟩ _ HFI.out).mono ?_
        rintro e w2 ⟨rfl, hb2⟩
        have hown2 := own_cbelow hownq hb2
        have hbe : RowKit.Below w1.heap.size w1 w2 := below2 hbq hb2
        clear hb2 hownq c0 c1 c2 c3 c4
        go_wp2_with (at_builtin; refine wpList_append_own _ rfl _ _ 29 rfl w1.heap.size 39 i0 (.agg #[.string ⟨#[]⟩, .string ⟨#[]⟩, .int .u64 0, .bool false, .string ⟨#[]⟩]) 5 64 Try.underlying29 hi0 hz0 hz1 hz2 rfl (by decide) _ _ _ rfl (hown2.alloc _) ⟨w2.heap.size, 0, none⟩ 1 1 (encC ⟨r, k, v, z, x⟩) rfl rfl (cell_news w2 ⟨r, k, v, z, x⟩ 39) (encC_one _) ?c3 ?c4 ?c5 ?_)
        case c3 => unfold maxLen; omega
        case c4 => omega
        case c5 => have := hbe.size; simp; omega
        intro v' w3 hown3 hgrow _
        have hbw3 : RowKit.Below w1.heap.size w1 w3 := (hbe.alloc hbe.size _).grown hgrow (by have := hbe.size; simp; omega) (fun k hk => (hown2.lt k hk).1)
        have hown4 : w3.ownsRow w1.heap.size 39 5 v' (ddl f (pick cs (is.take (i + 1)))).length (ccells (ddl f (pick cs (is.take (i + 1))))) := by
          rw [HE.out]
          exact hown3
        clear hown2 hown3 hgrow
        go_wp2
        go_roundw
        case rel => exact ⟨i + 1, by go_num, by omega, hown4, hbw3⟩
        case measure => simp [intOf]; omega
      · rw [List.concat_eq_append] at hacc
        obtain ⟨m, hm⟩ : ∃ m, acc.length = m + 1 := ⟨pre.length, by rw [hacc]; simp⟩
        have hmi : acc[m]'(by omega) = y := by
          have : m = pre.length := by rw [hacc] at hm; simp at hm; omega
          subst this hacc
          simp
        obtain ⟨gl, rfl, hgl1, hgl2, hlrow, _⟩ := hrow (by omega)
        have hAy := hlrow m (by omega)
        rw [hmi, Nat.zero_add] at hAy
        have hgy : acc.getLast? = some y := by rw [hacc]; simp
        have hmz : (((m : Int) + 1) == 0) = false := by simp; omega
        have hmz2 : ((((m + 1 : Nat) : Int)) == 0) = false := by simp; omega
        have hmz3 : (m : Int) < (m : Int) + 1 := by omega
        rw [hm] at hown hlen hlc2
        rw [hm]
        obtain ⟨r, k, v, z, x⟩ := c
        obtain ⟨r', k', v', z', x'⟩ := y
        have hcon := hF ⟨r', k', v', z', x'⟩ ⟨r, k, v, z, x⟩
        obtain ⟨y0, y1, y2, y3, y4⟩ := hAy
        simp only at c0 c1 c2 c3 c4 y0 y1 y2 y3 y4
        cases hal : f ⟨r', k', v', z', x'⟩ ⟨r, k, v, z, x⟩ with
        | true =>
          have hst := stp_yes hgy hal
          have HE : Hid _ := HD.out.trans hst
          rw [hal] at hcon
          clear HD hst hal hgy hacc hmi
          have qc0 := fun d os => cell_regrown c0 d os
          have qc1 := fun d os => cell_regrown c1 d os
          have qc2 := fun d os => cell_regrown c2 d os
          have qc3 := fun d os => cell_regrown c3 d os
          have qc4 := fun d os => cell_regrown c4 d os
          have qy0 := fun d os => cell_regrown y0 d os
          have qy1 := fun d os => cell_regrown y1 d os
          have qy2 := fun d os => cell_regrown y2 d os
          have qy3 := fun d os => cell_regrown y3 d os
          have qy4 := fun d os => cell_regrown y4 d os
          have ql := fun d os => cell_regrown hlc d os
          go_wp2_with fail
          refine wp_region_quiet_below (by kernel_rfl) (by kernel_rfl) ?_
          repeat (go_big_quiet_step ((first | (exact Calls.regrown_of (hcon _)))))
          refine wpQuiet_nil ?_
          intro _ hw'
          obtain ⟨⟨dq, osq⟩, hw''⟩ := hw'
          subst hw''
          have hbg := below_regrown wr dq osq
          have hbq := below2 hbel hbg
          have hownq := own_cbelow hown hbg
          clear y0 y1 y2 y3 y4 qy0 qy1 qy2 qy3 qy4 hcon hown hbel hic hAt hrow hlrow
          clear c0 c1 c2 c3 c4 qc0 qc1 qc2 qc3 qc4 hlc ql
          generalize grow (redrawn wr dq) osq = wq at *
          go_wp2
          go_roundw
          case rel => exact ⟨i + 1, by go_num, by omega, by rw [HE.out, hm]; exact hownq, hbq⟩
          case measure => simp [intOf]; omega
        | false =>
          have hst := stp_no hgy hal
          have HE : Hid _ := HD.out.trans hst
          rw [hal] at hcon
          clear HD hst hal hgy hacc hmi
          have qc0 := fun d os => cell_regrown c0 d os
          have qc1 := fun d os => cell_regrown c1 d os
          have qc2 := fun d os => cell_regrown c2 d os
          have qc3 := fun d os => cell_regrown c3 d os
          have qc4 := fun d os => cell_regrown c4 d os
          have qy0 := fun d os => cell_regrown y0 d os
          have qy1 := fun d os => cell_regrown y1 d os
          have qy2 := fun d os => cell_regrown y2 d os
          have qy3 := fun d os => cell_regrown y3 d os
          have qy4 := fun d os => cell_regrown y4 d os
          have ql := fun d os => cell_regrown hlc d os
          go_wp2_with fail
          refine wp_region_quiet_below (by kernel_rfl) (by kernel_rfl) ?_
          repeat (go_big_quiet_step ((first | (exact Calls.regrown_of (hcon _)))))
          refine wpQuiet_nil ?_
          intro _ hw'
          obtain ⟨⟨dq, osq⟩, hw''⟩ := hw'
          subst hw''
          have hbg := below_regrown wr dq osq
          have hbq := below2 hbel hbg
          have hownq := own_cbelow hown hbg
          clear y0 y1 y2 y3 y4 qy0 qy1 qy2 qy3 qy4 hcon hown hbel hic hAt hrow hlrow
          replace c0 := qc0 dq osq
          replace c1 := qc1 dq osq
          replace c2 := qc2 dq osq
          replace c3 := qc3 dq osq
          replace c4 := qc4 dq osq
          replace hlc := ql dq osq
          clear qc0 qc1 qc2 qc3 qc4 ql hbg
          generalize grow (redrawn wr dq) osq = wq at *
          go_wp2_with fail
          refine (fresh_any ⟨r, k, v, z, x⟩ _ HFI.out).mono ?_
          rintro e w2 ⟨rfl, hb2⟩
          have hown2 := own_cbelow hownq hb2
          have hbe : RowKit.Below w1.heap.size w1 w2 := below2 hbq hb2
          clear hb2 hownq c0 c1 c2 c3 c4
          go_wp2_with (at_builtin; refine wpList_append_own _ rfl _ _ 29 rfl w1.heap.size 39 i0 (.agg #[.string ⟨#[]⟩, .string ⟨#[]⟩, .int .u64 0, .bool false, .string ⟨#[]⟩]) 5 64 Try.underlying29 hi0 hz0 hz1 hz2 rfl (by decide) _ _ _ rfl (hown2.alloc _) ⟨w2.heap.size, 0, none⟩ 1 1 (encC ⟨r, k, v, z, x⟩) rfl rfl (cell_news w2 ⟨r, k, v, z, x⟩ 39) (encC_one _) ?c3 ?c4 ?c5 ?_)
          case c3 => unfold maxLen; omega
          case c4 => omega
          case c5 => have := hbe.size; simp; omega
          intro v'' w3 hown3 hgrow _
          have hbw3 : RowKit.Below w1.heap.size w1 w3 := (hbe.alloc hbe.size _).grown hgrow (by have := hbe.size; simp; omega) (fun k hk => (hown2.lt k hk).1)
          have hown4 : w3.ownsRow w1.heap.size 39 5 v'' (ddl f (pick cs (is.take (i + 1)))).length (ccells (ddl f (pick cs (is.take (i + 1))))) := by
            rw [HE.out, List.length_append, ccells_append, hm]
            exact hown3
          clear hown2 hown3 hgrow
          go_wp2
          go_roundw
          case rel => exact ⟨i + 1, by go_num, by omega, hown4, hbw3⟩
          case measure => simp [intOf]; omega
    · have hie : i = cs.length := by omega
      subst hie
      have ht : is.take cs.length = is := by rw [← hil]; exact List.take_length
      rw [ht] at hown
      go_wp2
      go_ret
      exact ⟨is, _, HP.out.1, HP.out.2, rfl, own_mono hown (by omega), below2 hb01 hbel⟩

end Go.Proofs.Ytnpjbdbhjbccbaa
