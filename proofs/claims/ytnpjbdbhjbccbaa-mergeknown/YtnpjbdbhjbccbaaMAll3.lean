/-
  merge.All: what it made is asked.
-/
import Derived.Test.YtnpjbdbhjbccbaaGMal
import Derived.Deep.CutBlock
namespace Go.Proofs.Ytnpjbdbhjbccbaa
open Go.RowKit Go.BigFrame Go.Sort
attribute [local go_sem] size_bstr toList_bstr ls_def

theorem HS.hd_at {w : World} {b : Nat} {A B : List HS} {s : HS} (h : HB w b ((A ++ s :: B).map HS.hd)) : At7 w b (A.length * 7) s.hd :=
  h.row A.length s.hd (by rw [List.getElem?_map, get_mid]; rfl)

theorem hfield (h : Hd) (w : World) : (Instr.field 51 (hV h) 1).run Try.prog w = .ok (clV h.nx) w := by
  unfold Instr.field
  simp [run_underlying Try.underlying51, go_sem]
  rfl
theorem AllG.done {w0 w w' : World} {rows : List Rd} {vb b cap : Nat} {L D : List HS} {d : Cl} (hf : AllFix w0 rows vb b cap) (h : AllG w0 w rows vb b cap L D)
    (hw : ((((w.setCell ⟨w0.heap.size, 0, none⟩ (.string (bstr d.row))).setCell ⟨w0.heap.size, 1, none⟩ (.string (bstr d.col))).setCell ⟨w0.heap.size, 2, none⟩ (.int .u64 d.ver)).setCell ⟨w0.heap.size, 3, none⟩ (.bool d.gone)).setCell ⟨w0.heap.size, 4, none⟩ (.string (bstr d.val)) = w') :
    w'.heap[w0.heap.size]? = some (cObj d) ∧ Inv w' vb b (L ++ D) ∧ w'.heap[vb]? = some (.cells #[.slice (some ⟨b, 0, none⟩) L.length cap] 49 (0, 0)) ∧ HB w' b (L.map HS.hd) ∧ Kp w0 w' (AllF rows vb b) := by
  obtain ⟨hs, ho⟩ := cObj_set h.z hw
  refine ⟨hs, h.inv.kept fun s hs i hi => ho i (fun e => by have := (hf.f _ (h.m s hs) i hi).1; omega), (ho vb (by have := hf.hv; omega)).trans h.v, h.h.kept (ho b (by have := hf.hb; omega)), ?_⟩
  have hn : AllF rows vb b w0.heap.size ∨ w0.heap.size ≤ w0.heap.size := Or.inr (Nat.le_refl _)
  rw [← hw]
  exact ((((h.k.setCell _ hn).setCell _ hn).setCell _ hn).setCell _ hn).setCell _ hn

set_option maxHeartbeats 8000000 in
set_option maxRecDepth 100000 in
theorem All1_step {rows : List Rd} {vb b cap : Nat} {tot : List Cl} (n : Nat) (w : World) (hJ : AllJ rows vb b cap tot n w) (hf : AllFix w rows vb b cap) :
    Calls Try.prog 31 #[.pointer (some ⟨vb, 0, none⟩)] w fun e w' => e = .returned (ansV tot n) ∧ AllJ rows vb b cap tot (n + 1) w' ∧ Kp w w' (AllF rows vb b) := by
  obtain ⟨hs, D, hS, hI, hv, hB, hc, hn⟩ := hJ.out
  have hG0 : AllG w (w.alloc (.cells #[.string ⟨#[]⟩, .string ⟨#[]⟩, .int .u64 0, .bool false, .string ⟨#[]⟩] 39)) rows vb b cap hs D :=
    ⟨hI.below ((Below.refl _ _).alloc (Nat.le_refl _) _), (heap_alloc_old _ _ hf.hv).trans hv, hB.below ((Below.refl _ _).alloc (Nat.le_refl _) _), heap_alloc_new w _, (Kp.refl w _).alloc _, fun s hs' => hS.rows.mem_iff.1 (List.mem_map.2 ⟨s, hs', rfl⟩), hc, hn⟩
  have v0 : w.cell? ⟨vb, 0, none⟩ = some (.slice (some ⟨b, 0, none⟩) hs.length cap) := (mcells hv).1 0
  have hvl := hf.hv
  have hbl := hf.hb
  have hvb := hf.ne
  have hvb2 : b ≠ vb := fun e => hvb e.symm
  have HSS : Hid _ := hS
  clear hS hI hv hB hJ
  go_enter Try.func31, Try.ntmps31
  go_wp2
  clear v0
  generalize w.alloc (.cells #[.string ⟨#[]⟩, .string ⟨#[]⟩, .int .u64 0, .bool false, .string ⟨#[]⟩] 39) = wz at *
  go_loopw [10] (fun s10 wr => ∃ i : Nat, s10 = .int .i64 (i : Int) ∧ i ≤ hs.length ∧ Hid (∃ A B, hs = A ++ B ∧ A.length = i ∧ AllG w wr rows vb b cap (A.map HS.fill ++ B) D)) (fun s10 _ => hs.length - (intOf s10).toNat)
  case atStart => exact ⟨0, rfl, by omega, ⟨[], hs, rfl, rfl, hG0⟩⟩
  case round =>
    obtain ⟨i, rfl, hil, HR⟩ := hrel
    by_cases hlt : i < hs.length
    · obtain ⟨A, B, hAB, hAl, hG⟩ := HR.out
      cases B with
      | nil => rw [hAB] at hlt; simp at hlt; omega
      | cons s B =>
        have hAm : (A.map HS.fill).length = i := by rw [List.length_map]; exact hAl
        have hat := HS.hd_at hG.h
        rw [hAm] at hat
        obtain ⟨c0, c1, c2, c3, c4, c5, c6⟩ := hat
        have hlen : (A.map HS.fill ++ s :: B).length = hs.length := by rw [hAB]; simp
        have hvr := blk_lt hG.v
        have hbr := hG.h.lt
        have hvc := (mcells hG.v).1 0
        rw [hlen] at hvc
        simp only [HS.hd] at c0 c1 c2 c3 c4 c5 c6
        have HAB : Hid _ := hAB
        have HAM : Hid _ := hAm
        have HG : Hid _ := hG
        have HLN : Hid _ := hlen
        have HAL : Hid _ := hAl
        clear hAB hAm hG hlen hAl HR hG0
        cases hh : s.has with
        | true =>
          rw [hh] at c6
          have hfl := HS.fill_yes hh
          have HFL : Hid _ := hfl
          clear hh hfl
          go_wp2
          go_roundw
          case rel =>
            refine ⟨i + 1, by go_num, by omega, ⟨A ++ [s], B, by rw [HAB.out]; simp, by simp; exact HAL.out, ?_⟩⟩
            rw [List.map_append, List.map_cons, List.map_nil, HFL.out, List.append_assoc]
            exact HG.out.below ((Below.refl _ _).alloc (Nat.le_refl _) _)
          case measure => simp [intOf]; omega
        | false =>
          rw [hh] at c6
          have HH : Hid _ := hh
          clear hh
          have hsm : s.r ∈ rows := HG.out.m s (by simp)
          have hTs := HG.out.inv.t s (by simp)
          have hGa : AllG w (wr.alloc (.cells #[.func (.func 60) #[] s.r.cp, .string (bstr s.nx.row), .string (bstr s.nx.col), .int .u64 s.nx.ver, .bool s.nx.gone, .string (bstr s.nx.val), .bool false] 51)) rows vb b cap (A.map HS.fill ++ s :: B) D := HG.out.below ((Below.refl _ _).alloc (Nat.le_refl _) _)
          have hha : (wr.alloc (.cells #[.func (.func 60) #[] s.r.cp, .string (bstr s.nx.row), .string (bstr s.nx.col), .int .u64 s.nx.ver, .bool s.nx.gone, .string (bstr s.nx.val), .bool false] 51)).cell? ⟨wr.heap.size, 0, none⟩ = some (.func (.func 60) #[] s.r.cp) := (mcells (heap_alloc_new wr _)).1 0
          have hsl : wr.heap.size < (wr.alloc (.cells #[.func (.func 60) #[] s.r.cp, .string (bstr s.nx.row), .string (bstr s.nx.col), .int .u64 s.nx.ver, .bool s.nx.gone, .string (bstr s.nx.val), .bool false] 51)).heap.size := by simp
          have hhb1 : wr.heap.size ≠ b := by omega
          have hhb2 : b ≠ wr.heap.size := by omega
          have hkw := HG.out.k.size
          have heg := hTs.eg
          go_wp2_with fail
          generalize wr.alloc (.cells #[.func (.func 60) #[] s.r.cp, .string (bstr s.nx.row), .string (bstr s.nx.col), .int .u64 s.nx.ver, .bool s.nx.gone, .string (bstr s.nx.val), .bool false] 51) = wa at *
          have hva := (mcells hGa.v).1 0
          rw [HLN.out] at hva
          have hcall := hTs.step s.n wa.drew (hTs.kept _ _ _ (hGa.inv.j s (by simp)) (fun _ _ => rfl))
          unfold ansV at hcall
          have HGA : Hid _ := hGa
          have hiz : (i : Int) < (hs.length : Int) := by omega
          clear hvc c0 c1 c2 c3 c4 c5 c6 hGa
          have hfin := fun w1 w2 hk hj hw => HGA.out.filled (w1 := w1) (w2 := w2) hf HH.out hk hj hw
          rw [HAM.out] at hfin
          have HFIN : Hid _ := hfin
          clear hfin
          generalize (s.r.cs[s.n]?).getD zC = c at *
          generalize decide (s.n < s.r.cs.length) = z at *
          go_region_held3 (fun w' => w'.cell? ⟨vb, 0, none⟩ = some (.slice (some ⟨b, 0, none⟩) hs.length cap) ∧ w'.cell? ⟨wr.heap.size, 0, none⟩ = some (.func (.func 60) #[] s.r.cp)) (first | with_reducible exact ⟨hva, hha⟩ | with_reducible exact ⟨d0, d1⟩ | go_keep)
            (first | (go_at_call 60; refine hcall.mono ?_; rintro e w1 ⟨rfl, hj1, hk1⟩; have hk2 : Hid (Kp wa w1 s.r.F) := ⟨hk1.os, hk1.tape, hk1.output, hk1.size, hk1.block⟩; obtain ⟨a1, a2, a3, a4⟩ := HGA.out.asked hf hsm hk2.out; have d0 := (mcells a1).1 0; rw [HLN.out] at d0; have d1 : w1.cell? ⟨wr.heap.size, 0, none⟩ = some (.func (.func 60) #[] s.r.cp) := (World.cell?_of_block (a := ⟨wr.heap.size, 0, none⟩) (hk2.out.block _ hsl (fun e => by have := (hf.f _ hsm wr.heap.size e).1; omega))).trans hha; obtain ⟨u0, u1, u2, u3, u4, u5, u6, p0, p1, p2, p3, p4, p5, p6, f0, f1, f2, f3, f4, f5, f6⟩ := a2.live (i := i) (by rw [List.length_map, HLN.out]; exact hlt); clear a1 a2 a3 a4 hk1))
          clear hha hva d0 d1 hcall
          go_wp2
          go_roundw
          case rel =>
            refine ⟨i + 1, by go_num, by omega, ⟨A ++ [s], B, by rw [HAB.out]; simp, by simp; exact HAL.out, ?_⟩⟩
            rw [List.map_append, List.map_cons, List.map_nil, List.append_assoc]
            exact HFIN.out w1 _ hk2.out hj1 rfl
          case measure => simp [intOf]; omega
    · obtain ⟨A, B, hAB, hAl, hG⟩ := HR.out
      have hB0 : B = [] := by
        have := congrArg List.length hAB
        rw [List.length_append] at this
        exact List.eq_nil_of_length_eq_zero (by omega)
      subst hB0
      rw [List.append_nil] at hAB hG
      subst hAB
      have hl1 : (hs.map HS.fill).length = hs.length := List.length_map _
      have hl2 : ((hs.map HS.fill).map HS.hd).length = hs.length := by rw [List.length_map, hl1]
      have hdel := HDel_any b cap ((hs.map HS.fill).map HS.hd) wr hG.h (by rw [hl2]; exact hc) (by rw [hl2]; exact hn)
      have e1 : (((hs.map HS.fill).map HS.hd).filter (·.has)).length = (liv hs).length := by
        rw [List.filter_map, List.length_map]
        rfl
      rw [hl2, e1] at hdel
      have hvc := (mcells hG.v).1 0
      rw [hl1] at hvc
      have HG : Hid _ := hG
      have hv1 : ∀ w1, Kp wr w1 (fun i => i = b) → w1.cell? ⟨vb, 0, none⟩ = some (.slice (some ⟨b, 0, none⟩) hs.length cap) ∧ w1.frozen? ⟨vb, 0, none⟩ = false := fun w1 hk => by
        have h1 := (hk.block vb (blk_lt HG.out.v) (fun e => hvb e)).trans HG.out.v
        rw [hl1] at h1
        exact ⟨(mcells h1).1 0, (mcells h1).2 0⟩
      clear hG0 hG HR hAl hl2 e1
      go_wp2_with fail
      refine hdel.mono ?_
      rintro e w1 ⟨rfl, hB1, hk1⟩
      obtain ⟨v1, v2⟩ := hv1 w1 hk1
      have hG2 : AllG w (w1.setCell ⟨vb, 0, none⟩ (.slice (some ⟨b, 0, none⟩) (liv hs).length cap)) rows vb b cap (liv hs) (ded hs ++ D) := HG.out.deleted hf hB1 hk1 rfl
      clear hdel hv1 hvc hB1 hk1
      go_upto_if 37 with fail
      generalize w1.setCell ⟨vb, 0, none⟩ (.slice (some ⟨b, 0, none⟩) (liv hs).length cap) = w2 at *
      clear v1 v2 HG
      have hv2 := (mcells hG2.v).1 0
      have hvl2 := blk_lt hG2.v
      have hzl2 := blk_lt hG2.z
      obtain ⟨z0, z1, z2, z3, z4, y0, y1, y2, y3, y4⟩ := cObj_facts hG2.z
      have HG2 : Hid _ := hG2
      clear hG2
      cases hL : liv hs with
      | nil =>
        rw [hL] at hv2
        have HL : Hid _ := hL
        have n0 := setCell_noop z0
        have n1 := setCell_noop z1
        have n2 := setCell_noop z2
        have n3 := setCell_noop z3
        have n4 := setCell_noop z4
        clear hL
        simp only [show bstr [] = ⟨#[]⟩ from rfl] at z0 z1 z4 n0 n1 n4
        go_wp2
        refine ret_cell Try.results31 (c := zC) (v := .bool false) rfl rfl (cObj_at HG2.out.z) rfl ?_
        obtain ⟨hl, hS'⟩ := HSS.out.over HL.out
        have hG := HG2.out
        rw [HL.out] at hG
        exact ⟨by rw [ansV_no hl], ⟨⟨_, _, hS', hG.inv, hG.v, hG.h, hG.c, hG.n⟩⟩, hG.k⟩
      | cons s0 ls =>
        have hlv : (liv hs).length = ls.length + 1 := by rw [hL]; rfl
        have hh0 : ((liv hs).map HS.hd)[0]? = some s0.hd := by rw [hL]; rfl
        have hlm : ((liv hs).map HS.hd).length = (liv hs).length := List.length_map _
        have hmin := HMin_any b cap s0.hd ((liv hs).map HS.hd) w2 HG2.out.h hh0 (by rw [hlm]; exact HG2.out.n)
        rw [hlm] at hmin
        have hfst := minH_fst (((liv hs).map HS.hd).drop 1) s0.hd
        have e2 : s0.hd :: ((liv hs).map HS.hd).drop 1 = (liv hs).map HS.hd := by rw [hL]; rfl
        rw [e2] at hfst
        generalize minH s0.hd (((liv hs).map HS.hd).drop 1) = r at *
        have hlz : (((liv hs).length : Int) == 0) = false := by rw [hlv, beq_eq_false_iff_ne]; omega
        have HF : Hid _ := hfst
        have hls : (liv hs).length = (s0 :: ls).length := by rw [hL]
        rw [← hls]
        generalize hN : (liv hs).length = N at *
        have HN : Hid _ := hN
        clear hfst e2 hh0 hlm hL hlv hls hN
        go_wp2_with fail
        refine hmin.mono ?_
        rintro e w3 ⟨rfl, hb3⟩
        have hG3 := HG2.out.below hb3
        have HG3 : Hid _ := hG3
        clear hmin hb3 hv2 HG2 z0 z1 z2 z3 z4 y0 y1 y2 y3 y4 hlz
        have hfd := fun W => hfield r W
        have hGc : AllG w (w3.alloc (.cells #[.string (bstr r.nx.row), .string (bstr r.nx.col), .int .u64 r.nx.ver, .bool r.nx.gone, .string (bstr r.nx.val)] 39)) rows vb b cap (liv hs) (ded hs ++ D) := hG3.below ((Below.refl _ _).alloc (Nat.le_refl _) _)
        have hcc : (w3.alloc (.cells #[.string (bstr r.nx.row), .string (bstr r.nx.col), .int .u64 r.nx.ver, .bool r.nx.gone, .string (bstr r.nx.val)] 39)).heap[w3.heap.size]? = some (cObj r.nx) := heap_alloc_new w3 _
        have v3 := (mcells hG3.v).1 0
        rw [HN.out] at v3
        have hv3l := blk_lt hG3.v
        have hb3l := hG3.h.lt
        have hz3l := blk_lt hG3.z
        have hNc : N ≤ cap := by rw [← HN.out]; exact hG3.c
        have hN0 : N ≤ 100000 := by rw [← HN.out]; exact hG3.n
        clear hG3 HG3
        go_wp2
        generalize w3.alloc (.cells #[.string (bstr r.nx.row), .string (bstr r.nx.col), .int .u64 r.nx.ver, .bool r.nx.gone, .string (bstr r.nx.val)] 39) = wc at *
        clear v3
        go_loopw [44] (fun s44 wr => ∃ j : Nat, s44 = .int .i64 (j : Int) ∧ j ≤ N ∧ Hid (∃ A B, liv hs = A ++ B ∧ A.length = j ∧ AllG w wr rows vb b cap (A.map (HS.cut r.nx) ++ B) (ded hs ++ D) ∧ wr.heap[w3.heap.size]? = some (cObj r.nx))) (fun s44 _ => N - (intOf s44).toNat)
        case atStart => exact ⟨0, rfl, by omega, ⟨[], liv hs, rfl, rfl, hGc, hcc⟩⟩
        case round =>
          clear hGc hcc
          obtain ⟨j, rfl, hjl, HR⟩ := hrel
          obtain ⟨A, B, hAB, hAl, hG, hcr⟩ := HR.out
          obtain ⟨g0, g1, g2, g3, g4, _⟩ := cObj_facts hcr
          have hlen : (A.map (HS.cut r.nx) ++ B).length = N := by rw [← HN.out, hAB]; simp
          have hvr := blk_lt hG.v
          have hbr := hG.h.lt
          have hcl := blk_lt hcr
          have hvc := (mcells hG.v).1 0
          rw [hlen] at hvc
          by_cases hlt2 : j < N
          · cases B with
            | nil => rw [List.append_nil, List.length_map, hAl] at hlen; omega
            | cons s B =>
              have hAm : (A.map (HS.cut r.nx)).length = j := by rw [List.length_map]; exact hAl
              have hat := HS.hd_at hG.h
              rw [hAm] at hat
              obtain ⟨c0, c1, c2, c3, c4, c5, c6⟩ := hat
              simp only [HS.hd] at c0 c1 c2 c3 c4 c5 c6
              have HAB : Hid _ := hAB
              have HAL : Hid _ := hAl
              have HLN : Hid _ := hlen
              have HG : Hid _ := hG
              have HCR : Hid _ := hcr
              have hGa : AllG w (wr.alloc (.cells #[.func (.func 60) #[] s.r.cp, .string (bstr s.nx.row), .string (bstr s.nx.col), .int .u64 s.nx.ver, .bool s.nx.gone, .string (bstr s.nx.val), .bool s.has] 51)) rows vb b cap (A.map (HS.cut r.nx) ++ s :: B) (ded hs ++ D) := hG.below ((Below.refl _ _).alloc (Nat.le_refl _) _)
              have hha : (wr.alloc (.cells #[.func (.func 60) #[] s.r.cp, .string (bstr s.nx.row), .string (bstr s.nx.col), .int .u64 s.nx.ver, .bool s.nx.gone, .string (bstr s.nx.val), .bool s.has] 51)).heap[wr.heap.size]? = some (hObj s.hd) := heap_alloc_new wr _
              have hca : (wr.alloc (.cells #[.func (.func 60) #[] s.r.cp, .string (bstr s.nx.row), .string (bstr s.nx.col), .int .u64 s.nx.ver, .bool s.nx.gone, .string (bstr s.nx.val), .bool s.has] 51)).heap[w3.heap.size]? = some (cObj r.nx) := (heap_alloc_old _ _ hcl).trans hcr
              have hhb1 : wr.heap.size ≠ b := by omega
              have hhb2 : b ≠ wr.heap.size := by omega
              have hcb1 : w3.heap.size ≠ b := by omega
              have hcb2 : b ≠ w3.heap.size := by omega
              have hcon := fun W => Cmp_any s.nx.row s.nx.col s.nx.ver s.nx.gone s.nx.val r.nx.row r.nx.col r.nx.ver r.nx.gone r.nx.val W
              have hjz : (j : Int) < (N : Int) := by omega
              clear hAB hAl hlen hG hcr HR
              go_wp2_with fail
              generalize wr.alloc (.cells #[.func (.func 60) #[] s.r.cp, .string (bstr s.nx.row), .string (bstr s.nx.col), .int .u64 s.nx.ver, .bool s.nx.gone, .string (bstr s.nx.val), .bool s.has] 51) = wa at *
              have hva := (mcells hGa.v).1 0
              rw [HLN.out] at hva
              obtain ⟨_, e1, e2, e3, e4, e5, _⟩ := hObj_at hha
              simp only [Nat.zero_add, HS.hd] at e1 e2 e3 e4 e5
              clear g0 g1 g2 g3 g4 c0 c1 c2 c3 c4 c5 c6 hvc
              obtain ⟨g0, g1, g2, g3, g4, _⟩ := cObj_facts hca
              have HGA : Hid _ := hGa
              clear hGa
              have hcut := fun W W' (hG : AllG w W rows vb b cap (A.map (HS.cut r.nx) ++ s :: B) (ded hs ++ D)) hw => hG.cutted (w2 := W') hf r.nx hw
              rw [hAm] at hcut
              have HCUT : Hid _ := hcut
              clear hcut
              have hcv : ccl s.nx r.nx = cc s.nx.row s.nx.col s.nx.ver r.nx.row r.nx.col r.nx.ver := rfl
              rw [← hcv] at hcon
              clear hcv
              generalize hcv : ccl s.nx r.nx = cv at *
              have HCV : Hid _ := hcv
              clear hcv
              go_region_held3 (fun w' => w'.cell? ⟨vb, 0, none⟩ = some (.slice (some ⟨b, 0, none⟩) N cap) ∧ w'.cell? ⟨wr.heap.size, 1, none⟩ = some (.string (bstr s.nx.row)) ∧ w'.cell? ⟨wr.heap.size, 2, none⟩ = some (.string (bstr s.nx.col)) ∧ w'.cell? ⟨wr.heap.size, 3, none⟩ = some (.int .u64 s.nx.ver) ∧ w'.cell? ⟨wr.heap.size, 4, none⟩ = some (.bool s.nx.gone) ∧ w'.cell? ⟨wr.heap.size, 5, none⟩ = some (.string (bstr s.nx.val)) ∧
                  w'.cell? ⟨w3.heap.size, 0, none⟩ = some (.string (bstr r.nx.row)) ∧ w'.cell? ⟨w3.heap.size, 1, none⟩ = some (.string (bstr r.nx.col)) ∧ w'.cell? ⟨w3.heap.size, 2, none⟩ = some (.int .u64 r.nx.ver) ∧ w'.cell? ⟨w3.heap.size, 3, none⟩ = some (.bool r.nx.gone) ∧ w'.cell? ⟨w3.heap.size, 4, none⟩ = some (.string (bstr r.nx.val)))
                (first | with_reducible exact ⟨hva, e1, e2, e3, e4, e5, g0, g1, g2, g3, g4⟩ | with_reducible exact ⟨d0, q1, q2, q3, q4, q5, p0, p1, p2, p3, p4⟩ | go_keep)
                (first | (go_at_call 36; refine (hcon _).mono ?_; rintro e w4 ⟨rfl, hb4⟩; have hb := below2 (Below.refl wa.heap.size wa).drew hb4; have hG4 : Hid _ := HGA.out.below hb; have d0 := (mcells hG4.out.v).1 0; rw [HLN.out] at d0; have hh4 := (hb.block _ (blk_lt hha)).trans hha; have hc4 : Hid _ := (hb.block _ (blk_lt hca)).trans hca; obtain ⟨_, q1, q2, q3, q4, q5, _⟩ := hObj_at hh4; simp only [Nat.zero_add, HS.hd] at q1 q2 q3 q4 q5; obtain ⟨p0, p1, p2, p3, p4, _⟩ := cObj_facts hc4.out; obtain ⟨_, _, _, _, _, _, u6, _, _, _, _, _, _, k6, _, _, _, _, _, _, f6⟩ := hG4.out.h.live (i := j) (by rw [List.length_map, HLN.out]; exact hlt2)))
              have HBN : Hid ((cv != 0) = decide (cv ≠ 0)) := by
                show (cv != 0) = decide (cv ≠ 0)
                by_cases h : cv = 0 <;> simp [h]
              clear hva e1 e2 e3 e4 e5 g0 g1 g2 g3 g4 hha hca hcon d0 hh4 q1 q2 q3 q4 q5 p0 p1 p2 p3 p4 k6 f6 hb hb4
              go_wp2
              go_roundw
              case rel =>
                refine ⟨j + 1, by go_num, by omega, ⟨A ++ [s], B, by rw [HAB.out]; simp, by simp; exact HAL.out, ?_, (heap_set_other _ hcb1).trans hc4.out⟩⟩
                rw [List.map_append, List.map_cons, List.map_nil, List.append_assoc, HBN.out]
                exact HCUT.out w4 _ hG4.out rfl
              case measure => simp [intOf]; omega
          · have hB0 : B = [] := by
              have := congrArg List.length hAB
              rw [List.length_append, HN.out] at this
              exact List.eq_nil_of_length_eq_zero (by omega)
            subst hB0
            rw [List.append_nil] at hAB hG
            subst hAB
            obtain ⟨z0, z1, z2, z3, z4, y0, y1, y2, y3, y4⟩ := cObj_facts hG.z
            have hzn1 : w.heap.size ≠ w3.heap.size := by omega
            have hzn2 : w3.heap.size ≠ w.heap.size := by omega
            have HG : Hid _ := hG
            clear hG HR hAl hlen hvc
            go_wp2
            generalize hW : ((((wr.setCell ⟨w.heap.size, 0, none⟩ (.string (bstr r.nx.row))).setCell ⟨w.heap.size, 1, none⟩ (.string (bstr r.nx.col))).setCell ⟨w.heap.size, 2, none⟩ (.int .u64 r.nx.ver)).setCell ⟨w.heap.size, 3, none⟩ (.bool r.nx.gone)).setCell ⟨w.heap.size, 4, none⟩ (.string (bstr r.nx.val)) = W
            obtain ⟨hz, hI, hvv, hB, hk⟩ := AllG.done (w' := W) (d := r.nx) hf HG.out hW
            clear hW
            refine ret_cell Try.results31 (c := r.nx) (v := .bool true) rfl rfl (cObj_at hz) rfl ?_
            obtain ⟨ht, hS'⟩ := HSS.out.told HF.out
            exact ⟨by rw [ansV_yes ht], ⟨⟨_, _, hS', hI, hvv, hB, HG.out.c, HG.out.n⟩⟩, hk⟩

end Go.Proofs.Ytnpjbdbhjbccbaa
