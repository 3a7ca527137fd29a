/-
  The law's own 'works', and when two lists are the same.
-/
import Derived.Test.YtfjomggofncdmaaCNew
import Derived.Test.YtfjomggofncdmaaCEnc
namespace Go.Proofs.Ytfjomggofncdmaa
open Go.RowKit Go.BigFrame Go.Sort
attribute [local go_sem] size_bstr toList_bstr ls_def
theorem cell_eql5 (r k : List UInt8) (v : Int) (z : Bool) (x r' k' : List UInt8) (v' : Int) (z' : Bool) (x' : List UInt8) (w : World) : (binOp .eql 24 (.agg #[.string (bstr r), .string (bstr k), .int .u64 v, .bool z, .string (bstr x)]) (.agg #[.string (bstr r'), .string (bstr k'), .int .u64 v', .bool z', .string (bstr x')])).run Try.prog w = .ok (.bool (eqC ⟨r, k, v, z, x⟩ ⟨r', k', v', z', x'⟩)) w := cell_eql ⟨r, k, v, z, x⟩ ⟨r', k', v', z', x'⟩ w
theorem cell_neq5 (r k : List UInt8) (v : Int) (z : Bool) (x r' k' : List UInt8) (v' : Int) (z' : Bool) (x' : List UInt8) (w : World) : (binOp .neq 24 (.agg #[.string (bstr r), .string (bstr k), .int .u64 v, .bool z, .string (bstr x)]) (.agg #[.string (bstr r'), .string (bstr k'), .int .u64 v', .bool z', .string (bstr x')])).run Try.prog w = .ok (.bool (!eqC ⟨r, k, v, z, x⟩ ⟨r', k', v', z', x'⟩)) w := cell_neq ⟨r, k, v, z, x⟩ ⟨r', k', v', z', x'⟩ w
attribute [local go_sem high] cell_eql5 cell_neq5 cell_guard

set_option maxHeartbeats 2000000 in
set_option maxRecDepth 100000 in
theorem same_any (q q' : Option Addr) (b off cap b' off' cap' : Nat) (cs : List Cl) (w : World) (hq : 0 < cs.length → q = some ⟨b, off, none⟩ ∧ CRow w b off cs) (hq' : 0 < cs.length → q' = some ⟨b', off', none⟩ ∧ CRow w b' off' cs) (hn : cs.length ≤ 4611686018427387904) :
    Calls Try.prog 8 #[.slice q cs.length cap, .slice q' cs.length cap'] w fun e w' => e = .returned (.bool true) ∧ RowKit.Below w.heap.size w w' := by
  go_enter Try.func8, Try.ntmps8
  go_wp2
  go_loopw [5] (fun s5 wr => ∃ i : Nat, s5 = .int .i64 (i : Int) ∧ i ≤ cs.length ∧ RowKit.Below w.heap.size w wr) (fun s5 _ => cs.length - (intOf s5).toNat)
  case atStart => exact ⟨0, rfl, by omega, RowKit.Below.refl _ _⟩
  case round =>
    obtain ⟨i, rfl, hil, hbel⟩ := hrel
    by_cases hlt : i < cs.length
    · obtain ⟨rfl, hR⟩ := hq (by omega)
      obtain ⟨rfl, hR'⟩ := hq' (by omega)
      obtain ⟨c0, c1, c2, c3, c4⟩ := (hR i hlt).step hbel (hR i hlt).lt
      obtain ⟨d0, d1, d2, d3, d4⟩ := (hR' i hlt).step hbel (hR' i hlt).lt
      have heq := eqC_self cs[i]
      have hiz : (i : Int) < (cs.length : Int) := by omega
      clear hR hR'
      generalize cs[i] = c at *
      obtain ⟨r, k, v, z, x⟩ := c
      simp only at c0 c1 c2 c3 c4 d0 d1 d2 d3 d4
      go_wp2_with fail
      go_quiet (fail)
      have hbe := below_drewN hbel nq
      clear c0 c1 c2 c3 c4 d0 d1 d2 d3 d4
      go_wp2
      go_roundw
      case rel => exact ⟨i + 1, by go_num, by omega, hbe⟩
      case measure => simp [intOf]; omega
    · have hie : i = cs.length := by omega
      subst hie
      go_wp2
      go_ret
      exact ⟨rfl, hbel⟩

set_option maxHeartbeats 1000000 in
theorem at_any (r : List UInt8) (v : Int) (z : Bool) (w : World) :
    Calls Try.prog 4 #[.string (bstr r), .int .u64 v, .bool z] w fun e w' => e = .returned (.agg #[.string (bstr r), .string ⟨#[120]⟩, .int .u64 v, .bool z, .string ⟨#[]⟩]) ∧ RowKit.Below w.heap.size w w' := by
  have hB : RowKit.Below w.heap.size w (w.alloc (.cells #[.string (bstr r), .string ⟨#[120]⟩, .int .u64 v, .bool z, .string ⟨#[]⟩] 24)) := (RowKit.Below.refl _ _).alloc (Nat.le_refl _) _
  obtain ⟨r0, r1, r2, r3, r4⟩ := CellAt.new w 24 r [120] v z []
  replace r0 : (w.alloc (.cells #[.string (bstr r), .string ⟨#[120]⟩, .int .u64 v, .bool z, .string ⟨#[]⟩] 24)).cell? ⟨w.heap.size, 0, none⟩ = some (.string (bstr r)) := r0
  replace r2 : (w.alloc (.cells #[.string (bstr r), .string ⟨#[120]⟩, .int .u64 v, .bool z, .string ⟨#[]⟩] 24)).cell? ⟨w.heap.size, 2, none⟩ = some (.int .u64 v) := r2
  replace r3 : (w.alloc (.cells #[.string (bstr r), .string ⟨#[120]⟩, .int .u64 v, .bool z, .string ⟨#[]⟩] 24)).cell? ⟨w.heap.size, 3, none⟩ = some (.bool z) := r3
  replace r1 : (w.alloc (.cells #[.string (bstr r), .string ⟨#[120]⟩, .int .u64 v, .bool z, .string ⟨#[]⟩] 24)).cell? ⟨w.heap.size, 1, none⟩ = some (.string ⟨#[120]⟩) := r1
  replace r4 : (w.alloc (.cells #[.string (bstr r), .string ⟨#[120]⟩, .int .u64 v, .bool z, .string ⟨#[]⟩] 24)).cell? ⟨w.heap.size, 4, none⟩ = some (.string ⟨#[]⟩) := r4
  go_enter Try.func4, Try.ntmps4
  go_wp2
  generalize w.alloc (.cells #[.string (bstr r), .string ⟨#[120]⟩, .int .u64 v, .bool z, .string ⟨#[]⟩] 24) = W at *
  exact bodyPost_ret (v := .agg #[.string (bstr r), .string ⟨#[120]⟩, .int .u64 v, .bool z, .string ⟨#[]⟩]) (by simp [results, Try.results4, go_sem, r0, r1, r2, r3, r4]) rfl ⟨rfl, hB⟩

/-- A row of cells that has just been laid. -/
theorem CRow.lit (W : World) (cs : List Cl) (t : TypeId) : CRow (W.alloc (.cells (ccells cs).toArray t)) W.heap.size 0 cs := by
  refine CRow.of_cells fun j u hj => ?_
  rw [Addr.add_lit, Nat.zero_add, World.cell?_alloc_at _ t W.heap.size j rfl]
  simpa using hj
def xc (r : List UInt8) (v : Int) (z : Bool) : Cl := ⟨r, [120], v, z, []⟩
def wk4 : List Cl := [xc [98] 1 false, xc [97] 1 false, xc [97] 2 false, xc [97] 2 true]
def wk3 : List Cl := [xc [97] 2 false, xc [97] 1 false, xc [98] 1 false]
def wk2 : List Cl := [xc [97] 2 false, xc [98] 1 false]
def wk1 : List Cl := [⟨[97], [120], 1, false, [118]⟩]
theorem wk_sort : sortL wk4 = wk3 := by rfl
theorem wk_new : newL wk4 = wk2 := by rfl
theorem uv1 : Lib.uvarint 1 = [1] := Lib.uvarint_small (by omega)
theorem wk_enc : encB wk1 = [1, 1, 97, 1, 120, 1, 0, 1, 118] := by
  have h : encL wk1 = [1, 1, 97, 1, 120, 1, 0, 1, 118] := by simp [encL, bodyL, layL, txt, wk1, uv1]
  unfold encB
  rw [if_pos (by decide), h, if_pos (by decide)]
theorem wk_encE : encE wk1 = 0 := by
  have h : encL wk1 = [1, 1, 97, 1, 120, 1, 0, 1, 118] := by simp [encL, bodyL, layL, txt, wk1, uv1]
  unfold encE
  rw [if_pos (by decide), h, if_pos (by decide)]
theorem wk_fits : ∀ c ∈ wk4, Fits c := by
  intro c hc
  simp [wk4, xc] at hc
  rcases hc with rfl | rfl | rfl | rfl <;> simp [Fits]

set_option maxHeartbeats 4000000 in
set_option maxRecDepth 100000 in
theorem works_any (w : World) :
    Calls Try.prog 7 #[] w fun e w' => e = .returned (.bool true) ∧ RowKit.Below w.heap.size w w' := by
  have ab1 : ∀ W, Calls Try.prog 4 #[.string ⟨#[98]⟩, .int .u64 1, .bool false] W fun e w' => e = .returned (.agg #[.string ⟨#[98]⟩, .string ⟨#[120]⟩, .int .u64 1, .bool false, .string ⟨#[]⟩]) ∧ RowKit.Below W.heap.size W w' := fun W => at_any [98] 1 false W
  have aa1 : ∀ W, Calls Try.prog 4 #[.string ⟨#[97]⟩, .int .u64 1, .bool false] W fun e w' => e = .returned (.agg #[.string ⟨#[97]⟩, .string ⟨#[120]⟩, .int .u64 1, .bool false, .string ⟨#[]⟩]) ∧ RowKit.Below W.heap.size W w' := fun W => at_any [97] 1 false W
  have aa2 : ∀ W, Calls Try.prog 4 #[.string ⟨#[97]⟩, .int .u64 2, .bool false] W fun e w' => e = .returned (.agg #[.string ⟨#[97]⟩, .string ⟨#[120]⟩, .int .u64 2, .bool false, .string ⟨#[]⟩]) ∧ RowKit.Below W.heap.size W w' := fun W => at_any [97] 2 false W
  have aa3 : ∀ W, Calls Try.prog 4 #[.string ⟨#[97]⟩, .int .u64 2, .bool true] W fun e w' => e = .returned (.agg #[.string ⟨#[97]⟩, .string ⟨#[120]⟩, .int .u64 2, .bool true, .string ⟨#[]⟩]) ∧ RowKit.Below W.heap.size W w' := fun W => at_any [97] 2 true W
  go_enter Try.func7, Try.ntmps7
  go_wp2_with fail
  refine (ab1 _).mono ?_
  rintro e w1 ⟨rfl, hb1⟩
  go_wp2_with fail
  refine (aa1 _).mono ?_
  rintro e w2 ⟨rfl, hb2⟩
  replace hb2 := below2 hb1 hb2
  clear hb1
  go_wp2_with fail
  refine (aa2 _).mono ?_
  rintro e w3 ⟨rfl, hb3⟩
  replace hb3 := below2 hb2 hb3
  clear hb2
  go_wp2_with fail
  refine (aa3 _).mono ?_
  rintro e w4 ⟨rfl, hb4⟩
  replace hb4 := below2 hb3 hb4
  clear hb3
  have hR4 : CRow (w4.alloc (.cells #[.string ⟨#[98]⟩, .string ⟨#[120]⟩, .int .u64 1, .bool false, .string ⟨#[]⟩, .string ⟨#[97]⟩, .string ⟨#[120]⟩, .int .u64 1, .bool false, .string ⟨#[]⟩, .string ⟨#[97]⟩, .string ⟨#[120]⟩, .int .u64 2, .bool false, .string ⟨#[]⟩, .string ⟨#[97]⟩, .string ⟨#[120]⟩, .int .u64 2, .bool true, .string ⟨#[]⟩] 24)) w4.heap.size 0 wk4 := CRow.lit w4 wk4 24
  have hR1 : CRow ((w4.alloc (.cells #[.string ⟨#[98]⟩, .string ⟨#[120]⟩, .int .u64 1, .bool false, .string ⟨#[]⟩, .string ⟨#[97]⟩, .string ⟨#[120]⟩, .int .u64 1, .bool false, .string ⟨#[]⟩, .string ⟨#[97]⟩, .string ⟨#[120]⟩, .int .u64 2, .bool false, .string ⟨#[]⟩, .string ⟨#[97]⟩, .string ⟨#[120]⟩, .int .u64 2, .bool true, .string ⟨#[]⟩] 24)).alloc (.cells #[.string ⟨#[97]⟩, .string ⟨#[120]⟩, .int .u64 1, .bool false, .string ⟨#[118]⟩] 24)) (w4.heap.size + 1) 0 wk1 := by
    have := CRow.lit (w4.alloc (.cells #[.string ⟨#[98]⟩, .string ⟨#[120]⟩, .int .u64 1, .bool false, .string ⟨#[]⟩, .string ⟨#[97]⟩, .string ⟨#[120]⟩, .int .u64 1, .bool false, .string ⟨#[]⟩, .string ⟨#[97]⟩, .string ⟨#[120]⟩, .int .u64 2, .bool false, .string ⟨#[]⟩, .string ⟨#[97]⟩, .string ⟨#[120]⟩, .int .u64 2, .bool true, .string ⟨#[]⟩] 24)) wk1 24
    rw [show (w4.alloc (.cells #[.string ⟨#[98]⟩, .string ⟨#[120]⟩, .int .u64 1, .bool false, .string ⟨#[]⟩, .string ⟨#[97]⟩, .string ⟨#[120]⟩, .int .u64 1, .bool false, .string ⟨#[]⟩, .string ⟨#[97]⟩, .string ⟨#[120]⟩, .int .u64 2, .bool false, .string ⟨#[]⟩, .string ⟨#[97]⟩, .string ⟨#[120]⟩, .int .u64 2, .bool true, .string ⟨#[]⟩] 24)).heap.size = w4.heap.size + 1 by simp] at this
    exact this
  have hBa : RowKit.Below w4.heap.size w4 (w4.alloc (.cells #[.string ⟨#[98]⟩, .string ⟨#[120]⟩, .int .u64 1, .bool false, .string ⟨#[]⟩, .string ⟨#[97]⟩, .string ⟨#[120]⟩, .int .u64 1, .bool false, .string ⟨#[]⟩, .string ⟨#[97]⟩, .string ⟨#[120]⟩, .int .u64 2, .bool false, .string ⟨#[]⟩, .string ⟨#[97]⟩, .string ⟨#[120]⟩, .int .u64 2, .bool true, .string ⟨#[]⟩] 24)) := (RowKit.Below.refl _ _).alloc (Nat.le_refl _) _
  have hs5 : (w4.alloc (.cells #[.string ⟨#[98]⟩, .string ⟨#[120]⟩, .int .u64 1, .bool false, .string ⟨#[]⟩, .string ⟨#[97]⟩, .string ⟨#[120]⟩, .int .u64 1, .bool false, .string ⟨#[]⟩, .string ⟨#[97]⟩, .string ⟨#[120]⟩, .int .u64 2, .bool false, .string ⟨#[]⟩, .string ⟨#[97]⟩, .string ⟨#[120]⟩, .int .u64 2, .bool true, .string ⟨#[]⟩] 24)).heap.size = w4.heap.size + 1 := by simp
  have hBb : RowKit.Below (w4.alloc (.cells #[.string ⟨#[98]⟩, .string ⟨#[120]⟩, .int .u64 1, .bool false, .string ⟨#[]⟩, .string ⟨#[97]⟩, .string ⟨#[120]⟩, .int .u64 1, .bool false, .string ⟨#[]⟩, .string ⟨#[97]⟩, .string ⟨#[120]⟩, .int .u64 2, .bool false, .string ⟨#[]⟩, .string ⟨#[97]⟩, .string ⟨#[120]⟩, .int .u64 2, .bool true, .string ⟨#[]⟩] 24)).heap.size (w4.alloc (.cells #[.string ⟨#[98]⟩, .string ⟨#[120]⟩, .int .u64 1, .bool false, .string ⟨#[]⟩, .string ⟨#[97]⟩, .string ⟨#[120]⟩, .int .u64 1, .bool false, .string ⟨#[]⟩, .string ⟨#[97]⟩, .string ⟨#[120]⟩, .int .u64 2, .bool false, .string ⟨#[]⟩, .string ⟨#[97]⟩, .string ⟨#[120]⟩, .int .u64 2, .bool true, .string ⟨#[]⟩] 24)) ((w4.alloc (.cells #[.string ⟨#[98]⟩, .string ⟨#[120]⟩, .int .u64 1, .bool false, .string ⟨#[]⟩, .string ⟨#[97]⟩, .string ⟨#[120]⟩, .int .u64 1, .bool false, .string ⟨#[]⟩, .string ⟨#[97]⟩, .string ⟨#[120]⟩, .int .u64 2, .bool false, .string ⟨#[]⟩, .string ⟨#[97]⟩, .string ⟨#[120]⟩, .int .u64 2, .bool true, .string ⟨#[]⟩] 24)).alloc (.cells #[.string ⟨#[97]⟩, .string ⟨#[120]⟩, .int .u64 1, .bool false, .string ⟨#[118]⟩] 24)) := (RowKit.Below.refl _ _).alloc (Nat.le_refl _) _
  have hs6 : ((w4.alloc (.cells #[.string ⟨#[98]⟩, .string ⟨#[120]⟩, .int .u64 1, .bool false, .string ⟨#[]⟩, .string ⟨#[97]⟩, .string ⟨#[120]⟩, .int .u64 1, .bool false, .string ⟨#[]⟩, .string ⟨#[97]⟩, .string ⟨#[120]⟩, .int .u64 2, .bool false, .string ⟨#[]⟩, .string ⟨#[97]⟩, .string ⟨#[120]⟩, .int .u64 2, .bool true, .string ⟨#[]⟩] 24)).alloc (.cells #[.string ⟨#[97]⟩, .string ⟨#[120]⟩, .int .u64 1, .bool false, .string ⟨#[118]⟩] 24)).heap.size = w4.heap.size + 2 := by simp
  go_wp2_with fail
  generalize w4.alloc (.cells #[.string ⟨#[98]⟩, .string ⟨#[120]⟩, .int .u64 1, .bool false, .string ⟨#[]⟩, .string ⟨#[97]⟩, .string ⟨#[120]⟩, .int .u64 1, .bool false, .string ⟨#[]⟩, .string ⟨#[97]⟩, .string ⟨#[120]⟩, .int .u64 2, .bool false, .string ⟨#[]⟩, .string ⟨#[97]⟩, .string ⟨#[120]⟩, .int .u64 2, .bool true, .string ⟨#[]⟩] 24) = w5 at *
  generalize w5.alloc (.cells #[.string ⟨#[97]⟩, .string ⟨#[120]⟩, .int .u64 1, .bool false, .string ⟨#[118]⟩] 24) = w6 at *
  have hen := Encode_any (some ⟨w4.heap.size + 1, 0, none⟩) (w4.heap.size + 1) 0 1 wk1 w6 (fun _ => ⟨rfl, hR1, by omega⟩) (by decide)
  rw [wk_enc, wk_encE] at hen
  refine hen.mono ?_
  clear hen hR1
  rintro e w7 ⟨rfl, hb7⟩
  have hR7 := (hR4.step hBb (by omega)).step hb7 (by omega)
  replace hb7 := below2 (below2 (below2 hb4 hBa) hBb) hb7
  have hz7 : w4.heap.size < w7.heap.size := (hR7 0 (by decide)).lt
  clear hBa hBb hs5 hs6 hR4 hb4
  go_wp2_with fail
  refine (Sort_any (some ⟨w4.heap.size, 0, none⟩) w4.heap.size 0 4 wk4 w7 (fun _ => ⟨rfl, hR7, hz7⟩) wk_fits (by decide)).mono ?_
  rintro e w8 ⟨v8, rfl, hown8, hb8⟩
  rw [wk_sort] at hown8
  have hR8 := hR7.step hb8 hz7
  have hz8 : w4.heap.size < w8.heap.size := (hR8 0 (by decide)).lt
  replace hb8 := below2 hb7 hb8
  clear hR7 hb7 hz7
  obtain ⟨p8, c8, rfl, _, _, hr8⟩ := own_cslice hown8
  obtain ⟨g8, rfl, _, hg8, hr8, _⟩ := hr8 (by decide)
  clear hown8
  go_wp2_with fail
  refine (aa2 _).mono ?_
  rintro e w9 ⟨rfl, hb9⟩
  replace hr8 := hr8.step hb9 hg8
  have hR9 := hR8.step hb9 hz8
  have hg9 : g8 < w9.heap.size := (hr8 0 (by decide)).lt
  have hz9 : w4.heap.size < w9.heap.size := (hR9 0 (by decide)).lt
  replace hb9 := below2 hb8 hb9
  clear hR8 hb8 hz8 hg8
  go_wp2_with fail
  refine (aa1 _).mono ?_
  rintro e wa ⟨rfl, hba⟩
  replace hr8 := hr8.step hba hg9
  have hRa := hR9.step hba hz9
  have hga : g8 < wa.heap.size := (hr8 0 (by decide)).lt
  have hza : w4.heap.size < wa.heap.size := (hRa 0 (by decide)).lt
  replace hba := below2 hb9 hba
  clear hR9 hb9 hz9 hg9
  go_wp2_with fail
  refine (ab1 _).mono ?_
  rintro e wb ⟨rfl, hbb⟩
  replace hr8 := hr8.step hbb hga
  have hRb := hRa.step hbb hza
  have hgb : g8 < wb.heap.size := (hr8 0 (by decide)).lt
  have hzb : w4.heap.size < wb.heap.size := (hRb 0 (by decide)).lt
  replace hbb := below2 hba hbb
  clear hRa hba hza hga
  have hl3 : CRow (wb.alloc (.cells #[.string ⟨#[97]⟩, .string ⟨#[120]⟩, .int .u64 2, .bool false, .string ⟨#[]⟩, .string ⟨#[97]⟩, .string ⟨#[120]⟩, .int .u64 1, .bool false, .string ⟨#[]⟩, .string ⟨#[98]⟩, .string ⟨#[120]⟩, .int .u64 1, .bool false, .string ⟨#[]⟩] 24)) wb.heap.size 0 wk3 := CRow.lit wb wk3 24
  have hBc : RowKit.Below wb.heap.size wb (wb.alloc (.cells #[.string ⟨#[97]⟩, .string ⟨#[120]⟩, .int .u64 2, .bool false, .string ⟨#[]⟩, .string ⟨#[97]⟩, .string ⟨#[120]⟩, .int .u64 1, .bool false, .string ⟨#[]⟩, .string ⟨#[98]⟩, .string ⟨#[120]⟩, .int .u64 1, .bool false, .string ⟨#[]⟩] 24)) := (RowKit.Below.refl _ _).alloc (Nat.le_refl _) _
  go_wp2_with fail
  generalize wb.alloc (.cells #[.string ⟨#[97]⟩, .string ⟨#[120]⟩, .int .u64 2, .bool false, .string ⟨#[]⟩, .string ⟨#[97]⟩, .string ⟨#[120]⟩, .int .u64 1, .bool false, .string ⟨#[]⟩, .string ⟨#[98]⟩, .string ⟨#[120]⟩, .int .u64 1, .bool false, .string ⟨#[]⟩] 24) = wc at *
  refine (same_any (some ⟨g8, 0, none⟩) (some ⟨wb.heap.size, 0, none⟩) g8 0 c8 wb.heap.size 0 3 wk3 wc (fun _ => ⟨rfl, hr8.step hBc hgb⟩) (fun _ => ⟨rfl, hl3⟩) (by decide)).mono ?_
  rintro e wd ⟨rfl, hbd⟩
  have hRd := (hRb.step hBc hzb).step hbd (Nat.lt_of_lt_of_le hzb hBc.size)
  have hzd : w4.heap.size < wd.heap.size := (hRd 0 (by decide)).lt
  replace hbd := below2 (below2 hbb hBc) hbd
  clear hRb hbb hzb hgb hl3 hBc hr8
  go_wp2_with fail
  refine (Newest_any (some ⟨w4.heap.size, 0, none⟩) w4.heap.size 0 4 wk4 wd (fun _ => ⟨rfl, hRd, hzd⟩) wk_fits (by decide)).mono ?_
  rintro e we ⟨ve, rfl, howne, hbe⟩
  rw [wk_new] at howne
  replace hbe := below2 hbd hbe
  clear hRd hbd hzd
  obtain ⟨pe, ce, rfl, _, _, hre⟩ := own_cslice howne
  obtain ⟨ge, rfl, _, hge, hre, _⟩ := hre (by decide)
  clear howne
  go_wp2_with fail
  refine (aa2 _).mono ?_
  rintro e wf ⟨rfl, hbf⟩
  replace hre := hre.step hbf hge
  have hgf : ge < wf.heap.size := (hre 0 (by decide)).lt
  replace hbf := below2 hbe hbf
  clear hbe hge
  go_wp2_with fail
  refine (ab1 _).mono ?_
  rintro e wg ⟨rfl, hbg⟩
  replace hre := hre.step hbg hgf
  have hgg : ge < wg.heap.size := (hre 0 (by decide)).lt
  replace hbg := below2 hbf hbg
  clear hbf hgf
  have hl2 : CRow (wg.alloc (.cells #[.string ⟨#[97]⟩, .string ⟨#[120]⟩, .int .u64 2, .bool false, .string ⟨#[]⟩, .string ⟨#[98]⟩, .string ⟨#[120]⟩, .int .u64 1, .bool false, .string ⟨#[]⟩] 24)) wg.heap.size 0 wk2 := CRow.lit wg wk2 24
  have hBh : RowKit.Below wg.heap.size wg (wg.alloc (.cells #[.string ⟨#[97]⟩, .string ⟨#[120]⟩, .int .u64 2, .bool false, .string ⟨#[]⟩, .string ⟨#[98]⟩, .string ⟨#[120]⟩, .int .u64 1, .bool false, .string ⟨#[]⟩] 24)) := (RowKit.Below.refl _ _).alloc (Nat.le_refl _) _
  go_wp2_with fail
  generalize wg.alloc (.cells #[.string ⟨#[97]⟩, .string ⟨#[120]⟩, .int .u64 2, .bool false, .string ⟨#[]⟩, .string ⟨#[98]⟩, .string ⟨#[120]⟩, .int .u64 1, .bool false, .string ⟨#[]⟩] 24) = wh at *
  refine (same_any (some ⟨ge, 0, none⟩) (some ⟨wg.heap.size, 0, none⟩) ge 0 ce wg.heap.size 0 2 wk2 wh (fun _ => ⟨rfl, hre.step hBh hgg⟩) (fun _ => ⟨rfl, hl2⟩) (by decide)).mono ?_
  rintro e wi ⟨rfl, hbi⟩
  replace hbi := below2 (below2 hbg hBh) hbi
  clear hbg hBh hl2 hre
  go_wp2
  go_ret
  exact ⟨rfl, hbi⟩

end Go.Proofs.Ytfjomggofncdmaa
