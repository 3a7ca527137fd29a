/-
  The document's Make.
-/
import Derived.Test.YtiingodillcleaaBRef2
import Derived.Deep.Cut
namespace Go.Proofs.Ytiingodillcleaa
open Go.RowKit
attribute [local go_sem] size_bstr getElem_bstr toList_bstr append_bstr

set_option maxHeartbeats 1000000 in
theorem RMake_arg (q : Option Addr) (n cap : Nat) (b : Int) (w : World) (hb : b < 1 ∨ 32 < b) :
    Calls Try.prog 10 #[.slice q n cap, .int .i64 b] w fun e w' => e = .returned (.tuple #[.string (bstr []), .int .i64 2]) ∧ w' = w := by
  by_cases h : b < 1
  · go_enter Try.func10, Try.ntmps10
    go_wp2
    go_ret2
    exact ⟨rfl, rfl⟩
  · have h2 : 32 < b := by omega
    go_enter Try.func10, Try.ntmps10
    go_wp2
    go_ret2
    exact ⟨rfl, rfl⟩

/-- A block of bytes that is the document's. -/
structure RI (w : World) (z : Nat) (L : List UInt8) (W : World) : Prop where
  fl : W.heap[w.heap.size]? = some (bCells L)
  be : Below w.heap.size w W
  ln : L.length = z
theorem zs_bytes (z : Nat) : Obj.cells (zs z) 5 = bCells (zeros z) := by
  show Obj.cells (zs z) 5 (0, 0) = Obj.cells (Lib.byteCells (zeros z)).toArray 5 (0, 0)
  rw [← zs_toList]

theorem or_cells0 {L : List UInt8} {p : Nat} (h : p / 8 < L.length) : (Lib.byteCells L).toArray.setIfInBounds (p / 8) (.int .u8 (((L[p / 8] ||| bitV p).toNat : Nat) : Int)) = (Lib.byteCells (orB L p)).toArray := by
  rw [orB_set h]
  simp [Lib.byteCells, List.map_set]
theorem rmake_facts (L : List UInt8) (p z : Nat) (hz : L.length = z) (hp : p < 8 * z) : ∃ D E V X Y : Nat, (p : Int) / 8 = (D : Int) ∧ (p : Int) % 8 = (E : Int) ∧ E ≤ 7 ∧ D < z ∧ ((Lib.byteCells L).toArray)[D]? = some (.int .u8 (X : Int)) ∧ (2 : Int) ^ E % 256 = (V : Int) ∧ bits .or .u8 (X : Int) (V : Int) = (Y : Int) ∧
    (Lib.byteCells L).toArray.setIfInBounds D (.int .u8 (Y : Int)) = (Lib.byteCells (orB L p)).toArray := by
  have hd : p / 8 < L.length := by omega
  have hV : ∀ r, r < 8 → (2 : Int) ^ r % 256 = ((2 ^ r : Nat) : Int) ∧ 2 ^ r < 256 := by decide
  obtain ⟨hV1, hV2⟩ := hV (p % 8) (Nat.mod_lt _ (by decide))
  refine ⟨p / 8, p % 8, 2 ^ (p % 8), (L[p / 8]).toNat, (L[p / 8] ||| bitV p).toNat, by omega, by omega, by omega, by omega, ?_, hV1, ?_, or_cells0 hd⟩
  · simp [Lib.byteCells, hd]
  · rw [u8_or_nat _ _ (L[p / 8]).toNat_lt hV2, UInt8.toNat_or, bitV_nat]

set_option maxHeartbeats 4000000 in
set_option maxRecDepth 100000 in
theorem RMake_ok (q : Option Addr) (gb off cap : Nat) (ks : List (List UInt8)) (b : Nat) (w : World) (hq : SArg w q gb off ks) (hb1 : 1 ≤ b) (hb : b ≤ 32) (hn : ks.length ≤ 32768) (hkl : ∀ s ∈ ks, s.length ≤ 9223372036854775807) :
    Calls Try.prog 10 #[.slice q ks.length cap, .int .i64 (b : Int)] w fun e w' => e = .returned (.tuple #[.string (bstr (mkF ks b)), .int .i64 0]) ∧ Below w.heap.size w w' := by
  have hzp := szz_pos b ks.length
  have hzl := szz_le hb hn
  have hk1 := kk_pos b
  have hk8 := kk_le b
  have HM : Hid (mkF ks b = UInt8.ofNat (kk b) :: bodF ks (kk b) (szz b ks.length)) := rfl
  have HKN : Hid ((UInt8.ofNat (kk b)).toNat = kk b) := kk_nat b
  obtain ⟨P1, P2, P3, N, E1, E2, E3, n1, n2, n3, n4, _, _, n6, n7, n8, n9, n10⟩ := make_nums b ks.length hb1 hb hn
  have e6 : (b : Int) * 69 = (E1 : Int) := by rw [← n6]; unfold wrap64; omega
  have e7 : (E1 : Int) / 100 = (E2 : Int) := by rw [← n7]; unfold wrap64; omega
  have hmr : ∀ W : World, (Instr.makeSlice 32 (.int .i64 (szz b ks.length : Int)) (.int .i64 (szz b ks.length : Int))).run Try.prog W = .ok (.slice (some ⟨W.heap.size, 0, none⟩) (szz b ks.length) (szz b ks.length)) (W.alloc (.cells (zs (szz b ks.length)) 5)) := fun W => make_run .i64 (szz b ks.length) (by omega) W
  have HZ : Hid ((zs (szz b ks.length)).toList = Lib.byteCells (zeros (szz b ks.length))) := zs_toList _
  generalize hz : szz b ks.length = z at *
  generalize hk : kk b = k at *
  have g1 : ¬ ((b : Int) < 1) := by omega
  have g2 : ¬ ((32 : Int) < (b : Int)) := by omega
  have g3 : ¬ ((32768 : Int) < (ks.length : Int)) := by omega
  have N8 : Hid _ := n8
  have N9 : Hid _ := n9
  have N4 : Hid _ := n4
  clear hz hk n6 n7 n8 n9 n4
  go_enter Try.func10, Try.ntmps10
  go_upto_if 25 with fail
  go_cut [6] from 24 (fun s6 wx => wx = w ∧ s6 = .int .i64 (E3 : Int))
  case first =>
    have := N8.out
    go_wp2_with fail
    · go_meet
      case rel => exact ⟨rfl, by congr 1; omega⟩
    · go_meet
      case rel => exact ⟨rfl, by congr 1; omega⟩
  case rest =>
    obtain ⟨hwc, rfl⟩ := hcut
    rw [hwc]
    clear hwc
    go_upto_if 27 with fail
    go_cut [6] from 26 (fun s6 wx => wx = w ∧ s6 = .int .i64 (k : Int))
    case first =>
      have := N9.out
      go_wp2_with fail
      · go_meet
        case rel => exact ⟨rfl, by congr 1; omega⟩
      · go_meet
        case rel => exact ⟨rfl, by congr 1; omega⟩
    case rest =>
      obtain ⟨hwc, rfl⟩ := hcut
      rw [hwc]
      clear hwc
      go_upto_if 35 with fail
      go_cut [7] from 28 (fun s7 wx => wx = w ∧ s7 = .int .i64 (z : Int))
      case first =>
        have := N4.out
        go_wp2_with fail
        · go_meet
          case rel => exact ⟨rfl, by congr 1; omega⟩
        · go_meet
          case rel => exact ⟨rfl, by congr 1; omega⟩
      case rest =>
        obtain ⟨hwc, rfl⟩ := hcut
        rw [hwc]
        clear hwc
        clear n1 n2 n3 e6 e7 g1 g2 g3
        obtain ⟨W0, hW0⟩ : ∃ W0, W0 = w.alloc (.cells (zs z) 5) := ⟨_, rfl⟩
        have hI0 : RI w z (orL (zeros z) (allP (ks.take 0) k (8 * z))) W0 := by
          refine ⟨?_, by rw [hW0]; exact (Below.refl _ _).alloc (Nat.le_refl _) _, by rw [orL_length, zeros_length]⟩
          rw [hW0, zs_bytes]
          exact heap_alloc_new w _
        go_wp2_with fail
        rw [← hW0]
        clear hW0 hmr HZ N8 N9 N4
        go_loopw [9] (fun s9 wr => ∃ i : Nat, s9 = .int .i64 (i : Int) ∧ i ≤ ks.length ∧ RI w z (orL (zeros z) (allP (ks.take i) k (8 * z))) wr) (fun s9 _ => ks.length - (intOf s9).toNat)
        case atStart => exact ⟨0, rfl, Nat.zero_le _, hI0⟩
        case round =>
          clear hI0
          obtain ⟨i, rfl, hil, hI⟩ := hrel
          by_cases hlt : i < ks.length
          · have c1 : (i : Int) < (ks.length : Int) := by omega
            obtain ⟨rfl, hst, hgb⟩ := hq (by omega)
            have cs : wr.cell? ⟨gb, off + i, none⟩ = some (.string (bstr ks[i])) := (hst.block (hI.be.block gb hgb)) i hlt
            have hsl : ks[i].length ≤ 9223372036854775807 := hkl _ (List.getElem_mem hlt)
            have HAP : Hid _ := allP_succ hlt k (8 * z)
            obtain ⟨M, hM⟩ : ∃ M, M = 8 * z := ⟨_, rfl⟩
            have hMi : 8 * (z : Int) = (M : Int) := by omega
            have hrp := RPlaces_any ks[i] k M wr hk8 (by omega) (by omega) hsl
            obtain ⟨body, hbody⟩ : ∃ body, body = orL (zeros z) (allP (ks.take i) k (8 * z)) := ⟨_, rfl⟩
            rw [← hbody] at hI
            have HB : Hid _ := hbody
            have HMM : Hid _ := hM
            generalize ks[i] = s at *
            clear hst hbody hM
            go_wp2_with fail
            refine hrp.mono ?_
            rintro e w2 ⟨v, rfl, hown, hb2⟩
            obtain ⟨hkn, q2, cap2, g2, rfl, hcap2, hR, hBg⟩ := own_irow hown
            rw [plcs_length] at hcap2 hBg ⊢
            obtain ⟨rfl, hg2, hcs⟩ := hR.out (by rw [plcs_length]; omega)
            have hg2w := hBg (by omega)
            have hfw := blk_lt hI.fl
            have hJ0 : RI w z (orL body (plcs s 0 M)) w2 := ⟨(hb2.block _ hfw).trans hI.fl, below2 hI.be hb2, hI.ln⟩
            have hpl : Hid ((plcs s k M).length = k) := plcs_length s k M
            clear hrp hown hkn cs
            go_wp2_with fail
            go_loopw [11] (fun s11 wx => ∃ j : Nat, s11 = .int .i64 (j : Int) ∧ j ≤ k ∧ RI w z (orL body (plcs s j M)) wx ∧ wx.heap[g2]? = w2.heap[g2]?) (fun s11 _ => k - (intOf s11).toNat)
            case atStart => exact ⟨0, rfl, Nat.zero_le _, hJ0, rfl⟩
            case round =>
              clear hJ0
              obtain ⟨wo, rfl⟩ : ∃ wo, wr = wo := ⟨_, rfl⟩
              obtain ⟨j, rfl, hjk, hJ, hrow⟩ := hrel
              by_cases hjl : j < k
              · have c2 : (j : Int) < (k : Int) := by omega
                have cp : wr.cell? ⟨g2, j, none⟩ = some (.int .i64 (plc s M j : Int)) := by
                  rw [World.cell?_of_block (a := ⟨g2, j, none⟩) hrow, hcs j (by rw [hpl.out]; exact hjl), plcs_get hjl]
                obtain ⟨D, E, V, X, Y, hD, hE, hE8, hDz, hX, hV, hor, hset⟩ := rmake_facts (orL body (plcs s j M)) (plc s M j) z hJ.ln (by have := plc_lt s (m := M) (by have := HMM.out; omega) j; have := HMM.out; omega)
                have HPS : Hid _ := plcs_succ s j M
                obtain ⟨p, hp⟩ : ∃ p, p = plc s M j := ⟨_, rfl⟩
                rw [← hp] at cp hD hE hset HPS
                have cx : wr.cell? ⟨w.heap.size, D, none⟩ = some (.int .u8 (X : Int)) := ((cells_block hJ.fl).1 D).trans hX
                have fx : wr.frozen? ⟨w.heap.size, D, none⟩ = false := (cells_block hJ.fl).2 D
                have hset2 := heap_set_same hJ.fl (o := D) (.int .u8 (Y : Int))
                rw [hset] at hset2
                have HSET : Hid _ := hset2
                have hDi : (D : Int) < (z : Int) := by omega
                clear hset hset2 hp hX
                go_wp2_with fail
                go_region
                have hb4 : Below w.heap.size w (wr.setCell ⟨w.heap.size, D, none⟩ (.int .u8 (Y : Int))).drew := below_set hJ.be (Nat.le_refl _) _
                have hrow4 : (wr.setCell ⟨w.heap.size, D, none⟩ (.int .u8 (Y : Int))).drew.heap[g2]? = w2.heap[g2]? := (heap_set_other (w := wr) _ (by omega)).trans hrow
                have hJ4 : RI w z (orL body (plcs s (j + 1) M)) (wr.setCell ⟨w.heap.size, D, none⟩ (.int .u8 (Y : Int))).drew := by
                  refine ⟨?_, hb4, by rw [orL_length]; exact (orL_length body (plcs s j M)).symm.trans hJ.ln⟩
                  rw [HPS.out, orL_append]
                  exact HSET.out
                generalize (wr.setCell ⟨w.heap.size, D, none⟩ (.int .u8 (Y : Int))).drew = w4 at *
                clear HSET cx fx cp hD hE hV hor
                go_wp2
                go_roundw
                case rel => exact ⟨j + 1, by go_num, by omega, hJ4, hrow4⟩
                case measure => simp [intOf]; omega
              · obtain rfl : j = k := by omega
                have c2 : ¬ (j : Int) < (j : Int) := by omega
                have hI2 : RI w z (orL (zeros z) (allP (ks.take (i + 1)) j (8 * z))) wr := by
                  rw [HAP.out, orL_append, ← HMM.out]
                  have hb := HB.out
                  rw [← HMM.out] at hb
                  rw [← hb]
                  exact hJ
                clear hJ hrow hcs
                go_wp2
                go_roundw
                case rel => exact ⟨i + 1, by go_num, by omega, hI2⟩
                case measure => simp [intOf]; omega
          · have c1 : ¬ (i : Int) < (ks.length : Int) := by omega
            have hil2 : i = ks.length := by omega
            have hfl := hI.fl
            have hfin : orL (zeros z) (allP (ks.take i) k (8 * z)) = bodF ks k z := by rw [hil2, List.take_length]; rfl
            rw [hfin] at hfl
            have hln := hI.ln
            rw [hfin] at hln
            have hcv : ∀ W : World, W.heap[w.heap.size]? = some (bCells (bodF ks k z)) → (convert 32 9 (.slice (some ⟨w.heap.size, 0, none⟩) z z)).run Try.prog W = .ok (.string (bstr (bodF ks k z))) W := fun W h => by
              have hown : W.ownsRow w.heap.size 5 1 (.slice (some ⟨w.heap.size, 0, none⟩) z z) z (Lib.byteCells (bodF ks k z)) := by
                refine ⟨by rw [Lib.byteCells_length, hln]; omega, .inr ⟨w.heap.size, z, _, rfl, Nat.le_refl _, h, Nat.le_refl _, by unfold maxLen; omega, by rw [List.size_toArray, Lib.byteCells_length, hln]; omega, ?_⟩⟩
                rw [List.take_of_length_le (by rw [Lib.byteCells_length, hln]; omega)]
              exact run_convert_own (P := Try.prog) hown Try.underlying32 Try.underlying5 Try.underlying9
            have hck : ∀ W : World, (convert 32 9 (.slice (some ⟨W.heap.size, 0, none⟩) 1 1)).run Try.prog (W.alloc (.cells #[.int .u8 (k : Int)] 5)) = .ok (.string (bstr [UInt8.ofNat k])) (W.alloc (.cells #[.int .u8 (k : Int)] 5)) := fun W => by
              have hown : (W.alloc (.cells #[.int .u8 (k : Int)] 5)).ownsRow W.heap.size 5 1 (.slice (some ⟨W.heap.size, 0, none⟩) 1 1) 1 (Lib.byteCells [UInt8.ofNat k]) := by
                refine ⟨rfl, .inr ⟨W.heap.size, 1, _, rfl, Nat.le_refl _, heap_alloc_new W _, Nat.le_refl _, by decide, rfl, ?_⟩⟩
                have := HKN.out
                simp [Lib.byteCells, this]
              exact run_convert_own (P := Try.prog) hown Try.underlying32 Try.underlying5 Try.underlying9
            have hck1 := hck wr
            have hcv1 := hcv (wr.alloc (.cells #[.int .u8 (k : Int)] 5)) ((Below.heap_alloc _ _ _ (blk_lt hfl)).trans hfl)
            have hbe := hI.be
            have hbf : Below w.heap.size w (wr.alloc (.cells #[.int .u8 (k : Int)] 5)) := hbe.alloc hbe.size _
            obtain ⟨BB, hBB⟩ : ∃ BB, BB = bodF ks k z := ⟨_, rfl⟩
            rw [← hBB] at hcv1
            have hBl : BB.length ≤ 131072 := by rw [hBB, hln]; exact hzl
            have HFIN : Hid (mkF ks b = [UInt8.ofNat k] ++ BB) := by show _ = _; rw [HM.out, hBB]; rfl
            clear hcv hck hfl hln hfin hil2 hBB hI
            obtain ⟨kb, hkb⟩ : ∃ kb, kb = UInt8.ofNat k := ⟨_, rfl⟩
            rw [← hkb] at hck1 HFIN
            clear hkb HKN HM
            go_wp2
            go_ret2
            exact ⟨by rw [HFIN.out]; rfl, hbf⟩

end Go.Proofs.Ytiingodillcleaa
