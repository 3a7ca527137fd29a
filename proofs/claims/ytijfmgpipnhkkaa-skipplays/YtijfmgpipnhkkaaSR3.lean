/-
  The document's Counts.
-/
import Derived.Test.YtijfmgpipnhkkaaSR2
import Derived.Laws.MakeOwn
namespace Go.Proofs.Ytijfmgpipnhkkaa
open Go.RowKit Go.BigFrame Go.Sort
attribute [local go_sem] size_bstr toList_bstr ls_def

theorem Try.infoI8 : (Try.prog.info? 3).map (fun i => (i.zero, i.size, i.bytes)) = some (some (.int .i64 0), 1, 8) := by kernel_rfl
/-- A block of twelve numbers. -/
abbrev b12 (f : Nat → Nat) : Obj := .cells ((List.range 12).map fun j => Value.int .i64 (f j : Int)).toArray 3 (0, 0)
theorem make12 (w : World) : (Instr.makeSlice 26 (.int .i64 12) (.int .i64 12)).run Try.prog w = .ok (.slice (some ⟨w.heap.size, 0, none⟩) 12 12) (w.alloc (b12 fun _ => 0)) := by
  obtain ⟨i0, hi, hz0, hz1, hz2⟩ := info_parts Try.infoI8
  have := run_make (P := Try.prog) (w := w) 26 3 i0 (.int .i64 0) Try.underlying26 hi hz0 .i64 .i64 12 12 (by omega) (by omega) (by rw [hz2]; omega) (by omega)
  rw [hz1, Nat.mul_one, show (12 : Int).toNat = 12 from rfl] at this
  have e : Obj.cells (madeCells (Value.int .i64 0).cells 12) 3 = b12 fun _ => 0 := by kernel_rfl
  rw [e] at this
  exact this
theorem b12_get (f : Nat → Nat) {n : Nat} (h : n < 12) : (((List.range 12).map fun j => Value.int .i64 (f j : Int)).toArray)[n]? = some (.int .i64 (f n : Int)) := by
  rw [List.getElem?_toArray, List.getElem?_map, List.getElem?_range h]
  rfl
theorem b12_set (f : Nat → Nat) {n v : Nat} : (((List.range 12).map fun j => Value.int .i64 (f j : Int)).toArray).setIfInBounds n (.int .i64 (v : Int)) = ((List.range 12).map fun j => Value.int .i64 ((if j = n then v else f j : Nat) : Int)).toArray := by
  apply Array.toList_inj.1
  rw [Array.toList_setIfInBounds]
  apply List.ext_getElem (by simp)
  intro i h1 h2
  simp at h1 h2
  rw [List.getElem_set]
  by_cases e : n = i
  · subst e; simp
  · have : ¬ i = n := fun h => e h.symm
    simp [e, this]
/-- How many of the heights are above each index. -/
def hcnt (L : List (Cl × Nat)) (j : Nat) : Nat := L.countP fun x => decide (j < x.2)
theorem hcnt_succ {L : List (Cl × Nat)} {i : Nat} (h : i < L.length) (j : Nat) : hcnt (L.take (i + 1)) j = hcnt (L.take i) j + if j < L[i].2 then 1 else 0 := by
  unfold hcnt
  rw [List.take_succ_eq_append_getElem h, List.countP_append]
  simp [List.countP_cons]
theorem b12_congr {f g : Nat → Nat} (h : ∀ j, j < 12 → f j = g j) : b12 f = b12 g := by
  have : ((List.range 12).map fun j => Value.int .i64 (f j : Int)) = ((List.range 12).map fun j => Value.int .i64 (g j : Int)) := List.map_congr_left fun j hj => by rw [h j (List.mem_range.1 hj)]
  show Obj.cells _ _ _ = Obj.cells _ _ _
  rw [this]

set_option maxHeartbeats 4000000 in
set_option maxRecDepth 100000 in
theorem RCounts_any (L : List (Cl × Nat)) (qc : Option Addr) (gc cc : Nat) (qh : Option Addr) (gh ch : Nat) (w : World) (hD : DA w L qc gc cc qh gh ch) (hn : L.length ≤ 1000000) (hh : ∀ x ∈ L, x.2 ≤ 12) :
    Calls Try.prog 14 #[dV L qc cc qh ch] w fun e w' => e = .returned (.slice (some ⟨w.heap.size + 1, 0, none⟩) 12 12) ∧ w'.heap[w.heap.size + 1]? = some (b12 (hcnt L)) ∧ Below w.heap.size w w' := by
  obtain ⟨w0, hw0⟩ : ∃ w0, w0 = (w.alloc (.cells #[.slice qc L.length cc, .slice qh L.length ch] 28)).alloc (b12 fun _ => 0) := ⟨_, rfl⟩
  have hb0 : Below w.heap.size w w0 := by rw [hw0]; exact ((Below.refl _ _).alloc (Nat.le_refl _) _).alloc (by simp) _
  have hl0 : w0.heap[w.heap.size]? = some (.cells #[.slice qc L.length cc, .slice qh L.length ch] 28 (0, 0)) := by rw [hw0]; exact (Below.heap_alloc _ _ _ (by simp)).trans (heap_alloc_new w _)
  have hf0 : w0.heap[w.heap.size + 1]? = some (b12 (hcnt (L.take 0))) := by
    have := heap_alloc_new (w.alloc (.cells #[.slice qc L.length cc, .slice qh L.length ch] 28)) (b12 fun _ => 0)
    rw [hw0, show b12 (hcnt (L.take 0)) = b12 fun _ => 0 from rfl]
    rwa [World.size_alloc] at this
  have hm := make12 (w.alloc (.cells #[.slice qc L.length cc, .slice qh L.length ch] 28))
  have hH : 0 < L.length → qh = some ⟨gh, 0, none⟩ ∧ HRow w gh (L.map fun x => x.2) ∧ gh < w.heap.size := hD.h
  simp only [dV]
  clear hD
  go_enter Try.func14, Try.ntmps14
  go_wp2_with fail
  rw [← hw0]
  clear hw0 hm
  go_loopw [4] (fun s4 wr => ∃ i : Nat, s4 = .int .i64 (i : Int) ∧ i ≤ L.length ∧ wr.heap[w.heap.size]? = some (.cells #[.slice qc L.length cc, .slice qh L.length ch] 28 (0, 0)) ∧ wr.heap[w.heap.size + 1]? = some (b12 (hcnt (L.take i))) ∧ Below w.heap.size w wr) (fun s4 _ => L.length - (intOf s4).toNat)
  case atStart => exact ⟨0, rfl, Nat.zero_le _, hl0, hf0, hb0⟩
  case round =>
    clear hl0 hf0 hb0
    obtain ⟨i, rfl, hil, hl0, hf0, hbel⟩ := hrel
    have cl1 : wr.cell? ⟨w.heap.size, 1, none⟩ = some (.slice qh L.length ch) := (cells_block hl0).1 1
    by_cases hlt : i < L.length
    · obtain ⟨rfl, hR, hg⟩ := hH (by omega)
      have c1 : (i : Int) < (L.length : Int) := by omega
      have h12 := hh L[i] (List.getElem_mem hlt)
      have hgi : Hid (w.cell? ⟨gh, i, none⟩ = some (.int .i64 (L[i].2 : Int))) := by
        have := hR i (by rw [List.length_map]; exact hlt)
        rw [List.getElem_map] at this
        exact this
      have HCS : Hid _ := hcnt_succ hlt
      generalize L[i].2 = h at *
      clear hR
      go_wp2_with fail
      go_loopw [5] (fun s5 wx => ∃ n : Nat, s5 = .int .i64 (n : Int) ∧ n ≤ h ∧ wx.heap[w.heap.size]? = some (.cells #[.slice qc L.length cc, .slice (some ⟨gh, 0, none⟩) L.length ch] 28 (0, 0)) ∧ wx.heap[w.heap.size + 1]? = some (b12 fun j => hcnt (L.take i) j + if j < n then 1 else 0) ∧ Below w.heap.size w wx) (fun s5 _ => h - (intOf s5).toNat)
      case atStart =>
        refine ⟨0, rfl, Nat.zero_le _, hl0, hf0.trans ?_, hbel⟩
        rw [b12_congr (g := fun j => hcnt (L.take i) j + if j < 0 then 1 else 0)]
        intro j _
        simp
      case round =>
        clear hl0 hf0 hbel cl1
        obtain ⟨wo, hwo⟩ : ∃ wo, wr = wo := ⟨_, rfl⟩
        clear hwo
        obtain ⟨n, rfl, hnh, hl1, hf1, hbe1⟩ := hrel
        have cl1 : wr.cell? ⟨w.heap.size, 1, none⟩ = some (.slice (some ⟨gh, 0, none⟩) L.length ch) := (cells_block hl1).1 1
        have ch1 : wr.cell? ⟨gh, i, none⟩ = some (.int .i64 (h : Int)) := by rw [(bcell hbe1).1 gh i hg]; exact hgi.out
        by_cases hnl : n < h
        · have c2 : (n : Int) < (h : Int) := by omega
          have cn : wr.cell? ⟨w.heap.size + 1, n, none⟩ = some (.int .i64 (hcnt (L.take i) n : Int)) := by
            rw [(cells_block hf1).1 n, b12_get _ (by omega)]
            simp
          have fn : wr.frozen? ⟨w.heap.size + 1, n, none⟩ = false := (cells_block hf1).2 n
          have hcl : hcnt (L.take i) n ≤ 1000000 := by
            unfold hcnt
            exact Nat.le_trans (List.countP_le_length) (by rw [List.length_take]; omega)
          have hset := heap_set_same hf1 (o := n) (.int .i64 ((hcnt (L.take i) n + 1 : Nat) : Int))
          rw [b12_set] at hset
          have hset2 : (wr.setCell ⟨w.heap.size + 1, n, none⟩ (.int .i64 ((hcnt (L.take i) n + 1 : Nat) : Int))).heap[w.heap.size + 1]? = some (b12 fun j => hcnt (L.take i) j + if j < n + 1 then 1 else 0) := by
            refine hset.trans ?_
            show some (b12 _) = _
            rw [b12_congr]
            intro j _
            by_cases e : j = n
            · subst e; simp
            · by_cases e2 : j < n
              · simp [e, e2, show j < n + 1 by omega]
              · simp [e, e2, show ¬ j < n + 1 by omega]
          have hl2 : (wr.setCell ⟨w.heap.size + 1, n, none⟩ (.int .i64 ((hcnt (L.take i) n + 1 : Nat) : Int))).heap[w.heap.size]? = _ := (heap_set_other _ (by omega)).trans hl1
          have hb2 : Below w.heap.size w (wr.setCell ⟨w.heap.size + 1, n, none⟩ (.int .i64 ((hcnt (L.take i) n + 1 : Nat) : Int))) := hbe1.setCell (p := ⟨w.heap.size + 1, n, none⟩) (by show _ ≤ w.heap.size + 1; omega) _
          obtain ⟨x, hx⟩ : ∃ x, x = hcnt (L.take i) n := ⟨_, rfl⟩
          rw [← hx] at cn hcl hset2 hl2 hb2
          have HW2 : Hid _ := hset2
          have HL2 : Hid _ := hl2
          have HB2 : Hid _ := hb2
          have ex : (x : Int) + 1 = ((x + 1 : Nat) : Int) := by omega
          obtain ⟨y, hy⟩ : ∃ y, y = x + 1 := ⟨_, rfl⟩
          rw [← hy] at ex HW2 HL2 HB2
          clear hset hset2 hl2 hb2 hx hy hl1 hf1 hbe1
          go_wp2
          go_roundw
          case rel => exact ⟨n + 1, by go_num, by omega, HL2.out, HW2.out, HB2.out⟩
          case measure => simp [intOf]; omega
        · obtain rfl : n = h := by omega
          have c2 : ¬ (n : Int) < (n : Int) := by omega
          have hf2 : wr.heap[w.heap.size + 1]? = some (b12 (hcnt (L.take (i + 1)))) := by
            rw [hf1, b12_congr (f := hcnt (L.take (i + 1)))]
            intro j _
            rw [HCS.out]
          clear hf1
          go_wp2
          go_roundw
          case rel => exact ⟨i + 1, by go_num, by omega, hl1, hf2, hbe1⟩
          case measure => simp [intOf]; omega
    · have c1 : ¬ (i : Int) < (L.length : Int) := by omega
      have hf : wr.heap[w.heap.size + 1]? = some (b12 (hcnt L)) := by
        rw [hf0, List.take_of_length_le (by omega)]
      go_wp2
      go_ret
      exact ⟨rfl, hf, hbel⟩

end Go.Proofs.Ytijfmgpipnhkkaa
