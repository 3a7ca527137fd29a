/-
  The contract of block.Find.
-/
import Derived.Test.YtbllbcbjjocphabEFndM
namespace Go.Proofs.Ytbllbcbjjocphab
open Go.RowKit Go.BigFrame Go.Sort
attribute [local go_sem] size_bstr toList_bstr ls_def

/-- No cell ahead of a place in the list is behind what is sought. -/
def Bef (L : List Cl) (row col : List UInt8) (n : Nat) : Prop := ∀ j (hj : j < L.length), j < n → ¬ 0 < ccl L[j] (sgt row col)
/-- 'l[n:]'. -/
theorem etail_run {P : Program} {t : TypeId} {q : Option Addr} {len cap n s : Nat} (ht : P.underlying t = some (.slice (P.elem t))) (hz : ∀ w, (Go.sizeOf (P.elem t)).run P w = .ok s w) (hn : n ≤ len) (w : World) :
    (Instr.slice t (.slice q len cap) (some (.int .i64 (n : Int))) none none).run P w = .ok (.slice (if cap = n then q else q.map (·.add (n * s))) (len - n) (cap - n)) w := by
  rw [run_slice_l w t q len cap ht .i64 (n : Int) (by omega) (by omega), hz]
  simp only [Result.andThen, Int.toNat_natCast, sliced]
/-- Three results of which the first lies in a cell. -/
theorem res_cell3 {fn : Func} {p u v : Tmp} {ty : TypeId} (h : fn.results = #[.cell p ty, .tmp u, .tmp v]) (tmps : Array Value) (P : Program) (w : World) :
    (results fn tmps).run P w = ((asAddr (tmps.getD p undef)).run P w).andThen fun a w₁ => ((loadVar ty a).run P w₁).andThen fun x w₂ => .ok (.tuple #[x, tmps.getD u undef, tmps.getD v undef]) w₂ := by
  simp only [results, h]
  simp [Sem.run_bind, Result.andThen]
/-- The value of a cell, or the zero cell. -/
def optC : Option Cl → Cl
  | some c => c
  | none => ⟨[], [], 0, false, []⟩
/-- What Find answers. -/
def FnQ (s row col : List UInt8) (e : Ending) : Prop :=
  (∃ L, Good L ∧ blkB L = s ∧ e = .returned (.tuple #[clV (optC (fnd row col L)), .bool (fnd row col L).isSome, .int .i64 0])) ∨
    (e = .returned (.tuple #[clV (optC none), .bool false, .int .i64 4]) ∧ ∀ L, Good L → blkB L ≠ s)

set_option maxHeartbeats 4000000 in
set_option maxRecDepth 100000 in
theorem Find_any (s row col : List UInt8) (w : World) (hs : s.length ≤ 9223372036854775807) :
    Calls Try.prog 6 #[.string (bstr s), .string (bstr row), .string (bstr col)] w fun e w' => FnQ s row col e ∧ RowKit.Below w.heap.size w w' := by
  go_enter Try.func6, Try.ntmps6
  go_wp2_with fail
  have hz := Rz.new w
  have hB0 : RowKit.Below w.heap.size w (w.alloc (.cells #[.string ⟨#[]⟩, .string ⟨#[]⟩, .int .u64 0, .bool false, .string ⟨#[]⟩] 24)) := (RowKit.Below.refl _ _).alloc (Nat.le_refl _) _
  generalize w.alloc (.cells #[.string ⟨#[]⟩, .string ⟨#[]⟩, .int .u64 0, .bool false, .string ⟨#[]⟩] 24) = w0 at *
  refine (Read_any s w0 hs).mono ?_
  rintro e w1 ⟨hQ, hb1⟩
  have hbw := below2 hB0 hb1
  have hbw1 := hbw.size
  replace hz := hz.step hb1
  rcases hQ with ⟨L, q, c, rfl, hG, hL, hown⟩ | ⟨rfl, hno⟩
  · have HG : Hid _ := hG
    have hlen : L.length ≤ 40000 := by
      have h1 := body_many L hG.ok
      have h2 := hG.len
      rw [blkB_len] at h2
      omega
    obtain ⟨g7, hg7⟩ : ∃ g7, 0 < L.length → q = some ⟨g7, 0, none⟩ ∧ CRow w1 g7 0 L ∧ g7 < w1.heap.size := by
      by_cases h0 : L = []
      · exact ⟨0, fun h => by rw [h0] at h; simp at h⟩
      · obtain ⟨g7, cap7, hv7, _, hg7, _, _, hCR, _⟩ := own_crow hown h0
        injection hv7 with hv7a _ _
        exact ⟨g7, fun _ => ⟨hv7a, hCR, hg7⟩⟩
    obtain ⟨hc1, hc2⟩ : L.length ≤ c ∧ c ≤ maxLen := by
      rcases hown.2 with ⟨hv, h0⟩ | ⟨g', cap, cur, hv, _, _, h1, h2, _⟩
      · injection hv with _ _ hv3
        unfold maxLen
        omega
      · injection hv with _ _ hv3
        subst hv3
        exact ⟨h1, h2⟩
    clear hG hb1 hB0 hown
    have hlw := fun W (hb : RowKit.Below w1.heap.size w1 W) => lastWhole_any q g7 c L (sgt row col) W (fun h => ⟨(hg7 h).1, (hg7 h).2.1.step hb (hg7 h).2.2, Nat.lt_of_lt_of_le (hg7 h).2.2 hb.size⟩) hlen
    have hN := CellAt.new w1 24 row col 18446744073709551615 false []
    have hB1 : RowKit.Below w1.heap.size w1 (w1.alloc (.cells #[.string (bstr row), .string (bstr col), .int .u64 18446744073709551615, .bool false, .string ⟨#[]⟩] 24)) := (RowKit.Below.refl _ _).alloc (Nat.le_refl _) _
    replace hN : CellAt (w1.alloc (.cells #[.string (bstr row), .string (bstr col), .int .u64 18446744073709551615, .bool false, .string ⟨#[]⟩] 24)) w1.heap.size row col 18446744073709551615 false [] := hN
    go_wp2_with fail
    generalize w1.alloc (.cells #[.string (bstr row), .string (bstr col), .int .u64 18446744073709551615, .bool false, .string ⟨#[]⟩] 24) = w2 at *
    refine (hlw w2 hB1).mono ?_
    rintro e w3 ⟨a, rfl, ha1, ha2, hb3⟩
    have HA : Hid _ := ha2
    have hb13 : RowKit.Below w1.heap.size w1 w3 := below2 hB1 hb3
    replace hN := hN.step hb3
    replace hz := hz.step hb13
    replace hbw := below2 hbw hb13
    replace hg7 : 0 < L.length → q = some ⟨g7, 0, none⟩ ∧ CRow w3 g7 0 L ∧ g7 < w3.heap.size := fun h => ⟨(hg7 h).1, (hg7 h).2.1.step hb13 (hg7 h).2.2, Nat.lt_of_lt_of_le (hg7 h).2.2 hb13.size⟩
    obtain ⟨nt, hnt⟩ : ∃ nt, w1.heap.size = nt := ⟨_, rfl⟩
    have hwn : w.heap.size ≤ nt := by rw [← hnt]; exact hbw1
    rw [hnt] at hN
    rw [hnt]
    clear hb3 hb13 hB1 hlw ha2 hnt
    obtain ⟨n8, hn8⟩ : ∃ n8, 8 * a = n8 := ⟨_, rfl⟩
    have h8i : (8 : Int) * (a : Int) = (n8 : Int) := by omega
    have hn8l : n8 ≤ L.length := by omega
    obtain ⟨m8, hm8⟩ : ∃ m8, L.length - n8 = m8 := ⟨_, rfl⟩
    obtain ⟨q', hq'⟩ : ∃ q', (if c = n8 then q else q.map (·.add (n8 * 5))) = q' := ⟨_, rfl⟩
    have hsl := fun W => etail_run (P := Try.prog) (t := 28) (q := q) (len := L.length) (cap := c) (n := n8) (s := 5) Try.underlying28 (fun W => Try.sizeOf24 W) hn8l W
    rw [hm8, hq'] at hsl
    have hq2 : 0 < m8 → q' = some ⟨g7, n8 * 5, none⟩ ∧ CRow w3 g7 (n8 * 5) (L.drop n8) ∧ g7 < w3.heap.size := by
      intro h
      obtain ⟨e1, e2, e3⟩ := hg7 (by omega)
      refine ⟨?_, ?_, e3⟩
      · rw [← hq', if_neg (by omega), e1, Option.map_some, Addr.add_lit, Nat.zero_add]
      · have := e2.drop n8
        rw [Nat.zero_add] at this
        exact this
    have hml : n8 + m8 = L.length := by omega
    have HST : Hid (Bef L row col (n8 + 0)) := by
      intro j hj hjn
      exact fnd_ahead HG.out HA.out j hj (by omega)
    have HML : Hid _ := hml
    have hm40 : m8 ≤ 40000 := by omega
    clear hm8 hq' hg7 hn8 HA hml
    go_wp2
    go_loopw [33] (fun s33 wr => ∃ i : Nat, s33 = .int .i64 (i : Int) ∧ i ≤ m8 ∧ Hid (Bef L row col (n8 + i)) ∧ RowKit.Below w3.heap.size w3 wr) (fun s33 _ => m8 - (intOf s33).toNat)
    case atStart => exact ⟨0, rfl, by omega, HST, RowKit.Below.refl _ _⟩
    case round =>
      obtain ⟨i, rfl, him, HI, hbel⟩ := hrel
      clear HST
      by_cases hlt : i < m8
      · obtain ⟨rfl, hR, hgl⟩ := hq2 (by omega)
        have hik : n8 + i < L.length := by have := HML.out; omega
        have hAt := (hR.step hbel hgl) i (by rw [List.length_drop]; omega)
        rw [List.getElem_drop] at hAt
        have hN' := hN.step hbel
        have hcm := Cmp_any L[n8 + i].row L[n8 + i].col L[n8 + i].ver L[n8 + i].gone L[n8 + i].val row col 18446744073709551615 false []
        have hW1 : RowKit.Below wr.heap.size wr (wr.alloc (.cells #[.string (bstr L[n8 + i].row), .string (bstr L[n8 + i].col), .int .u64 L[n8 + i].ver, .bool L[n8 + i].gone, .string (bstr L[n8 + i].val)] 24)) := (RowKit.Below.refl _ _).alloc (Nat.le_refl _) _
        have hC := CellAt.new wr 24 L[n8 + i].row L[n8 + i].col L[n8 + i].ver L[n8 + i].gone L[n8 + i].val
        by_cases hd : 0 < ccl L[n8 + i] (sgt row col)
        · by_cases hp : L[n8 + i].row = row ∧ L[n8 + i].col = col
          · have HF : Hid (fnd row col L = some L[n8 + i]) := fnd_yes HG.out hik HI.out hp
            change 0 < cc L[n8 + i].row L[n8 + i].col L[n8 + i].ver row col 18446744073709551615 at hd
            generalize cc L[n8 + i].row L[n8 + i].col L[n8 + i].ver row col 18446744073709551615 = d at *
            obtain ⟨hp1, hp2⟩ := hp
            have hpr : (L[n8 + i].row == row) = true := by rw [hp1]; simp
            have hpc : (L[n8 + i].col == col) = true := by rw [hp2]; simp
            clear hp1 hp2
            clear hR
            generalize L[n8 + i] = c' at *
            obtain ⟨r, k, v, z, x⟩ := c'
            obtain ⟨c0, c1, c2, c3, c4⟩ := hAt
            simp only at c0 c1 c2 c3 c4 hcm hW1 hC hpr hpc
            have hNW := hN'.step hW1
            obtain ⟨t0, t1, t2, t3, t4⟩ := hNW
            obtain ⟨d0, d1, d2, d3, d4⟩ := id hC
            go_upto_region 8 with fail
            generalize wr.alloc (.cells #[.string (bstr r), .string (bstr k), .int .u64 v, .bool z, .string (bstr x)] 24) = W1 at *
            go_wp2_with fail
            refine (hcm _).mono ?_
            rintro e WX ⟨rfl, hbX⟩
            replace hC := hC.step hbX
            have hbe3 := below2 hbel (below2 hW1 hbX)
            have hbeX := below2 hbw hbe3
            have hzX := hz.step hbe3
            clear hbX hW1 hcm c0 c1 c2 c3 c4 t0 t1 t2 t3 t4 d0 d1 d2 d3 d4 hN'
            obtain ⟨d0, d1, d2, d3, d4⟩ := id hC
            obtain ⟨z0, z1, z2, z3, z4, f0, f1, f2, f3, f4⟩ := hzX.facts
            go_wp2
            generalize hW : ((((WX.setCell ⟨w.heap.size, 0, none⟩ _).setCell ⟨w.heap.size, 1, none⟩ _).setCell ⟨w.heap.size, 2, none⟩ _).setCell ⟨w.heap.size, 3, none⟩ _).setCell ⟨w.heap.size, 4, none⟩ _ = W'
            obtain ⟨q0, q1, q2, q3, q4⟩ := set5_reads z0 z1 z2 z3 z4 hW
            refine bodyPost_ret (v := .tuple #[clV ⟨r, k, v, z, x⟩, .bool true, .int .i64 0]) (by rw [res_cell3 Try.results6]; simp [go_sem, q0, q1, q2, q3, q4]) rfl ⟨.inl ⟨L, HG.out, hL, by rw [HF.out]; rfl⟩, ?_⟩
            rw [← hW]
            exact below_set5 _ _ _ _ _ hbeX (Nat.le_refl _)
          · have HF : Hid (fnd row col L = none) := fnd_past HG.out hik HI.out hd hp
            change 0 < cc L[n8 + i].row L[n8 + i].col L[n8 + i].ver row col 18446744073709551615 at hd
            generalize cc L[n8 + i].row L[n8 + i].col L[n8 + i].ver row col 18446744073709551615 = d at *
            by_cases hp1 : L[n8 + i].row = row
            · have hpr : (L[n8 + i].row == row) = true := by rw [hp1]; simp
              have hpc : (L[n8 + i].col == col) = false := by rw [beq_eq_false_iff_ne]; exact fun h => hp ⟨hp1, h⟩
              clear hp1 hp
              clear hR
              generalize L[n8 + i] = c' at *
              obtain ⟨r, k, v, z, x⟩ := c'
              obtain ⟨c0, c1, c2, c3, c4⟩ := hAt
              simp only at c0 c1 c2 c3 c4 hcm hW1 hC hpr
              have hNW := hN'.step hW1
              obtain ⟨t0, t1, t2, t3, t4⟩ := hNW
              obtain ⟨d0, d1, d2, d3, d4⟩ := id hC
              go_upto_region 8 with fail
              generalize wr.alloc (.cells #[.string (bstr r), .string (bstr k), .int .u64 v, .bool z, .string (bstr x)] 24) = W1 at *
              go_wp2_with fail
              refine (hcm _).mono ?_
              rintro e WX ⟨rfl, hbX⟩
              replace hC := hC.step hbX
              have hbe3 := below2 hbel (below2 hW1 hbX)
              have hbeX := below2 hbw hbe3
              have hzX := hz.step hbe3
              clear hbX hW1 hcm c0 c1 c2 c3 c4 t0 t1 t2 t3 t4 d0 d1 d2 d3 d4 hN'
              obtain ⟨d0, d1, d2, d3, d4⟩ := id hC
              obtain ⟨z0, z1, z2, z3, z4, f0, f1, f2, f3, f4⟩ := hzX.facts
              go_wp2
              generalize hW : ((((WX.setCell ⟨w.heap.size, 0, none⟩ _).setCell ⟨w.heap.size, 1, none⟩ _).setCell ⟨w.heap.size, 2, none⟩ _).setCell ⟨w.heap.size, 3, none⟩ _).setCell ⟨w.heap.size, 4, none⟩ _ = W'
              obtain ⟨q0, q1, q2, q3, q4⟩ := set5_reads z0 z1 z2 z3 z4 hW
              refine bodyPost_ret (v := .tuple #[clV (optC none), .bool false, .int .i64 0]) (by rw [res_cell3 Try.results6]; simp [go_sem, q0, q1, q2, q3, q4]; exact ⟨rfl, rfl, rfl, rfl, rfl⟩) rfl ⟨.inl ⟨L, HG.out, hL, by rw [HF.out]; rfl⟩, ?_⟩
              rw [← hW]
              exact below_set5 _ _ _ _ _ hbeX (Nat.le_refl _)
            · have hpr : (L[n8 + i].row == row) = false := by rw [beq_eq_false_iff_ne]; exact hp1
              clear hp1 hp
              clear hR
              generalize L[n8 + i] = c' at *
              obtain ⟨r, k, v, z, x⟩ := c'
              obtain ⟨c0, c1, c2, c3, c4⟩ := hAt
              simp only at c0 c1 c2 c3 c4 hcm hW1 hC hpr
              have hNW := hN'.step hW1
              obtain ⟨t0, t1, t2, t3, t4⟩ := hNW
              obtain ⟨d0, d1, d2, d3, d4⟩ := id hC
              go_upto_region 8 with fail
              generalize wr.alloc (.cells #[.string (bstr r), .string (bstr k), .int .u64 v, .bool z, .string (bstr x)] 24) = W1 at *
              go_wp2_with fail
              refine (hcm _).mono ?_
              rintro e WX ⟨rfl, hbX⟩
              replace hC := hC.step hbX
              have hbe3 := below2 hbel (below2 hW1 hbX)
              have hbeX := below2 hbw hbe3
              have hzX := hz.step hbe3
              clear hbX hW1 hcm c0 c1 c2 c3 c4 t0 t1 t2 t3 t4 d0 d1 d2 d3 d4 hN'
              obtain ⟨d0, d1, d2, d3, d4⟩ := id hC
              obtain ⟨z0, z1, z2, z3, z4, f0, f1, f2, f3, f4⟩ := hzX.facts
              go_wp2
              generalize hW : ((((WX.setCell ⟨w.heap.size, 0, none⟩ _).setCell ⟨w.heap.size, 1, none⟩ _).setCell ⟨w.heap.size, 2, none⟩ _).setCell ⟨w.heap.size, 3, none⟩ _).setCell ⟨w.heap.size, 4, none⟩ _ = W'
              obtain ⟨q0, q1, q2, q3, q4⟩ := set5_reads z0 z1 z2 z3 z4 hW
              refine bodyPost_ret (v := .tuple #[clV (optC none), .bool false, .int .i64 0]) (by rw [res_cell3 Try.results6]; simp [go_sem, q0, q1, q2, q3, q4]; exact ⟨rfl, rfl, rfl, rfl, rfl⟩) rfl ⟨.inl ⟨L, HG.out, hL, by rw [HF.out]; rfl⟩, ?_⟩
              rw [← hW]
              exact below_set5 _ _ _ _ _ hbeX (Nat.le_refl _)
        · have HI2 : Hid (Bef L row col (n8 + (i + 1))) := by
            intro j hj hjn
            by_cases h : j < n8 + i
            · exact HI.out j hj h
            · have e : j = n8 + i := by omega
              subst e
              exact hd
          have hd' : cc L[n8 + i].row L[n8 + i].col L[n8 + i].ver row col 18446744073709551615 ≤ 0 := Int.not_lt.1 hd
          clear hd
          generalize cc L[n8 + i].row L[n8 + i].col L[n8 + i].ver row col 18446744073709551615 = d at *
          clear hR
          generalize L[n8 + i] = c' at *
          obtain ⟨r, k, v, z, x⟩ := c'
          obtain ⟨c0, c1, c2, c3, c4⟩ := hAt
          simp only at c0 c1 c2 c3 c4 hcm hW1 hC
          have hNW := hN'.step hW1
          obtain ⟨t0, t1, t2, t3, t4⟩ := hNW
          obtain ⟨d0, d1, d2, d3, d4⟩ := id hC
          go_upto_region 8 with fail
          generalize wr.alloc (.cells #[.string (bstr r), .string (bstr k), .int .u64 v, .bool z, .string (bstr x)] 24) = W1 at *
          go_wp2_with fail
          refine (hcm _).mono ?_
          rintro e WX ⟨rfl, hbX⟩
          replace hC := hC.step hbX
          have hbe3 := below2 hbel (below2 hW1 hbX)
          have hbeX := below2 hbw hbe3
          have hzX := hz.step hbe3
          clear hbX hW1 hcm c0 c1 c2 c3 c4 t0 t1 t2 t3 t4 d0 d1 d2 d3 d4 hN'
          go_wp2
          go_roundw
          case rel => exact ⟨i + 1, by go_num, by omega, HI2, hbe3⟩
          case measure => simp [intOf]; omega
      · have hie : i = m8 := by omega
        subst hie
        have HF : Hid (fnd row col L = none) := fnd_no HG.out fun j hj => HI.out j hj (by have := HML.out; omega)
        have hbeX := below2 hbw hbel
        obtain ⟨z0, z1, z2, z3, z4, f0, f1, f2, f3, f4⟩ := (hz.step hbel).facts
        go_wp2
        generalize hW : ((((wr.setCell ⟨w.heap.size, 0, none⟩ _).setCell ⟨w.heap.size, 1, none⟩ _).setCell ⟨w.heap.size, 2, none⟩ _).setCell ⟨w.heap.size, 3, none⟩ _).setCell ⟨w.heap.size, 4, none⟩ _ = W'
        obtain ⟨q0, q1, q2, q3, q4⟩ := set5_reads z0 z1 z2 z3 z4 hW
        refine bodyPost_ret (v := .tuple #[clV (optC none), .bool false, .int .i64 0]) (by rw [res_cell3 Try.results6]; simp [go_sem, q0, q1, q2, q3, q4]; exact ⟨rfl, rfl, rfl, rfl, rfl⟩) rfl ⟨.inl ⟨L, HG.out, hL, by rw [HF.out]; rfl⟩, ?_⟩
        rw [← hW]
        exact below_set5 _ _ _ _ _ hbeX (Nat.le_refl _)
  · obtain ⟨z0, z1, z2, z3, z4, f0, f1, f2, f3, f4⟩ := hz.facts
    have HN : Hid _ := hno
    clear hno hb1 hB0
    go_wp2
    generalize hW : ((((w1.setCell ⟨w.heap.size, 0, none⟩ _).setCell ⟨w.heap.size, 1, none⟩ _).setCell ⟨w.heap.size, 2, none⟩ _).setCell ⟨w.heap.size, 3, none⟩ _).setCell ⟨w.heap.size, 4, none⟩ _ = W'
    obtain ⟨q0, q1, q2, q3, q4⟩ := set5_reads z0 z1 z2 z3 z4 hW
    refine bodyPost_ret (v := .tuple #[clV (optC none), .bool false, .int .i64 4]) (by rw [res_cell3 Try.results6]; simp [go_sem, q0, q1, q2, q3, q4]; exact ⟨rfl, rfl, rfl, rfl, rfl⟩) rfl ⟨.inr ⟨rfl, HN.out⟩, ?_⟩
    rw [← hW]
    exact below_set5 _ _ _ _ _ hbw (Nat.le_refl _)

end Go.Proofs.Ytbllbcbjjocphab
