/-
  The law MergeKnown, walked.
-/
import Derived.Test.YtnpjbdbhjbccbaaMKn1
import Derived.Deep.RegionHeld3
namespace Go.Proofs.Ytnpjbdbhjbccbaa
open Go.RowKit Go.BigFrame Go.Sort
attribute [local go_sem] size_bstr toList_bstr ls_def

set_option maxHeartbeats 8000000 in
set_option maxRecDepth 100000 in
theorem MKnown_any (w : World) : Calls Try.prog 8 #[] w fun e w' => e = .returned (.bool true) ∧ Below w.heap.size w w' := by
  have hnq := fun g caps w => fn_neq g caps w
  have hmx : Try.prog.follows .mixedOrders = true := by kernel_rfl
  go_enter Try.func8, Try.ntmps8
  go_wp2_with fail
  refine (at_any [97] 1 false _).mono ?_
  rintro e w1 ⟨rfl, hb1⟩
  go_wp2_with fail
  refine (at_any [98] 1 false _).mono ?_
  rintro e w2 ⟨rfl, hb2⟩
  go_wp2_with fail
  refine (at_any [99] 1 false _).mono ?_
  rintro e w3 ⟨rfl, hb3⟩
  have hrl := CRow.lit w3 [cA1, cB1, cC1] 39
  have hB3 : Below w.heap.size w (w3.alloc (.cells (ccells [cA1, cB1, cC1]).toArray 39)) := below2 (below2 hb1 (below2 hb2 hb3)) ((Below.refl _ _).alloc (Nat.le_refl _) _)
  have hlz : w3.heap.size < (w3.alloc (.cells (ccells [cA1, cB1, cC1]).toArray 39)).heap.size := by simp
  have hall := All_any (some ⟨w3.heap.size + 1, 0, none⟩) (w3.heap.size + 1) 0 2 [nilIn, nilIn] ((w3.alloc (.cells (ccells [cA1, cB1, cC1]).toArray 39)).alloc (.cells #[.nilFunc, .nilFunc] 25))
    (fun _ => ⟨rfl, by simp, fun k x hx => by
      have hc := (mcells (heap_alloc_new (w3.alloc (.cells (ccells [cA1, cB1, cC1]).toArray 39)) (.cells #[.nilFunc, .nilFunc] 25))).1
      rw [show (w3.alloc (.cells (ccells [cA1, cB1, cC1]).toArray 39)).heap.size = w3.heap.size + 1 by simp] at hc
      rw [Nat.zero_add, hc]
      match k, hx with
      | 0, hx => cases hx; rfl
      | 1, hx => cases hx; rfl⟩)
    (fun x hx => by simp at hx; subst hx; exact nil_row _)
    (by refine List.pairwise_cons.2 ⟨fun y hy i hi => hi.elim, by simp⟩)
    (by simp)
    (fun x hx c hc => by simp at hx; subst hx; simp [nilIn] at hc)
  go_wp2_with fail
  refine hall.mono ?_
  rintro e ws ⟨vs, Fs, Js, rfl, hTs, hJs, hFs, hbs, _⟩
  have hts0 : allL [nilIn, nilIn] = [] := rfl
  rw [hts0] at hTs
  have hBl0 := below2 ((Below.refl _ (w3.alloc (.cells (ccells [cA1, cB1, cC1]).toArray 39))).alloc (Nat.le_refl _) (.cells #[.nilFunc, .nilFunc] 25)) hbs
  have hFs' : ∀ i, Fs i → (w3.alloc (.cells (ccells [cA1, cB1, cC1]).toArray 39)).heap.size ≤ i := fun i hi => by
    rcases hFs i hi with ⟨x, hx, hi⟩ | k
    · simp at hx; subst hx; exact hi.elim
    · simp at k ⊢; omega
  generalize w3.alloc (.cells (ccells [cA1, cB1, cC1]).toArray 39) = wl at *
  have hrl0 := fun (W : World) (hB : Below wl.heap.size wl W) => hrl.step hB hlz
  have hll0 := fun (W : World) (hB : Below wl.heap.size wl W) => Nat.lt_of_lt_of_le hlz hB.size
  generalize w3.heap.size = gl at *
  clear hall hb1 hb2 hb3 hts0 hbs hFs
  have hP : PK wl Fs Js true ws := ⟨⟨_, _, hTs⟩, hBl0, fun _ => hJs⟩
  have cl : ∀ W, Below wl.heap.size wl W → W.cell? ⟨gl, 0, none⟩ = some (.string ⟨#[97]⟩) ∧ W.cell? ⟨gl, 1, none⟩ = some (.string ⟨#[120]⟩) ∧ W.cell? ⟨gl, 2, none⟩ = some (.int .u64 1) ∧ W.cell? ⟨gl, 3, none⟩ = some (.bool false) ∧ W.cell? ⟨gl, 4, none⟩ = some (.string ⟨#[]⟩) ∧ W.cell? ⟨gl, 5, none⟩ = some (.string ⟨#[98]⟩) ∧ W.cell? ⟨gl, 6, none⟩ = some (.string ⟨#[120]⟩) ∧ W.cell? ⟨gl, 7, none⟩ = some (.int .u64 1) ∧ W.cell? ⟨gl, 8, none⟩ = some (.bool false) ∧ W.cell? ⟨gl, 9, none⟩ = some (.string ⟨#[]⟩) := fun W hB => by
    obtain ⟨a0, a1, a2, a3, a4⟩ := hrl0 W hB 0 (by decide)
    obtain ⟨d0, d1, d2, d3, d4⟩ := hrl0 W hB 1 (by decide)
    exact ⟨a0, a1, a2, a3, a4, d0, d1, d2, d3, d4⟩
  have hs1 : ∀ W, (Instr.slice 29 (.slice (some ⟨gl, 0, none⟩) 3 3) (some (.int .i64 1)) (some (.int .i64 2)) none).run Try.prog W = .ok (.slice (some ⟨gl, 5, none⟩) 1 2) W := fun W => by
    rw [run_slice_lh W 29 _ _ _ Try.underlying29 .i64 .i64 1 2 (by omega) (by omega) (by omega), show Try.prog.elem 29 = 39 from rfl, Try.sizeOf39 W]
    simp [Result.andThen, sliced, Addr.add]
  have hs2 : ∀ W, (Instr.slice 29 (.slice (some ⟨gl, 0, none⟩) 3 3) none (some (.int .i64 2)) none).run Try.prog W = .ok (.slice (some ⟨gl, 0, none⟩) 2 3) W := fun W => by
    rw [run_slice_h W 29 _ _ _ Try.underlying29 .i64 2 (by omega) (by omega), show Try.prog.elem 29 = 39 from rfl, Try.sizeOf39 W]
    simp [Result.andThen, sliced, Addr.add]
  have KA1 : Hid (∀ b W, PK wl Fs Js b W → Calls Try.prog 29 #[.string ⟨#[97]⟩, .int .u64 2, .bool true] W fun e W' => e = .returned (.agg #[.string ⟨#[97]⟩, .string ⟨#[120]⟩, .int .u64 2, .bool true, .string ⟨#[]⟩]) ∧ PK wl Fs Js b W') := fun b W h => kn_at h [97] 2 true
  have KA2 : Hid (∀ b W, PK wl Fs Js b W → Calls Try.prog 29 #[.string ⟨#[97]⟩, .int .u64 1, .bool false] W fun e W' => e = .returned (.agg #[.string ⟨#[97]⟩, .string ⟨#[120]⟩, .int .u64 1, .bool false, .string ⟨#[]⟩]) ∧ PK wl Fs Js b W') := fun b W h => kn_at h [97] 1 false
  have KA3 : Hid (∀ b W, PK wl Fs Js b W → Calls Try.prog 29 #[.string ⟨#[98]⟩, .int .u64 1, .bool false] W fun e W' => e = .returned (.agg #[.string ⟨#[98]⟩, .string ⟨#[120]⟩, .int .u64 1, .bool false, .string ⟨#[]⟩]) ∧ PK wl Fs Js b W') := fun b W h => kn_at h [98] 1 false
  have KO1 : Hid (∀ b W, PK wl Fs Js b W → Calls Try.prog 16 #[.slice (some ⟨W.heap.size, 0, none⟩) 3 3] (W.alloc (.cells #[.string ⟨#[97]⟩, .string ⟨#[120]⟩, .int .u64 2, .bool true, .string ⟨#[]⟩, .string ⟨#[97]⟩, .string ⟨#[120]⟩, .int .u64 1, .bool false, .string ⟨#[]⟩, .string ⟨#[98]⟩, .string ⟨#[120]⟩, .int .u64 1, .bool false, .string ⟨#[]⟩] 39)) fun e W' => ∃ vb, e = .returned (.func (.func 43) #[] #[.pointer (some ⟨vb, 0, none⟩)]) ∧ RK wl Fs Js b 43 #[.pointer (some ⟨vb, 0, none⟩)] [cA2g, cA1, cB1] W') := fun b W h => kn_lit h [cA2g, cA1, cB1] (lit_fits (by decide)) (by decide)
  have KO2 : Hid (∀ b W, PK wl Fs Js b W → Calls Try.prog 16 #[.slice (some ⟨W.heap.size, 0, none⟩) 2 2] (W.alloc (.cells #[.string ⟨#[98]⟩, .string ⟨#[120]⟩, .int .u64 1, .bool false, .string ⟨#[]⟩, .string ⟨#[97]⟩, .string ⟨#[120]⟩, .int .u64 1, .bool false, .string ⟨#[]⟩] 39)) fun e W' => ∃ vb, e = .returned (.func (.func 43) #[] #[.pointer (some ⟨vb, 0, none⟩)]) ∧ RK wl Fs Js b 43 #[.pointer (some ⟨vb, 0, none⟩)] [cB1, cA1] W') := fun b W h => kn_lit h [cB1, cA1] (lit_fits (by decide)) (by decide)
  have KO3 : Hid (∀ b W, PK wl Fs Js b W → Calls Try.prog 16 #[.slice (some ⟨gl, 0, none⟩) 3 3] W fun e W' => ∃ vb, e = .returned (.func (.func 43) #[] #[.pointer (some ⟨vb, 0, none⟩)]) ∧ RK wl Fs Js b 43 #[.pointer (some ⟨vb, 0, none⟩)] [cA1, cB1, cC1] W') := fun b W h => kn_of h _ gl 0 3 [cA1, cB1, cC1] (lit_fits (by decide)) (by decide) (fun _ => ⟨rfl, hrl0 W h.k, hll0 W h.k⟩)
  have KO4 : Hid (∀ b W, PK wl Fs Js b W → Calls Try.prog 16 #[.slice none 0 0] W fun e W' => ∃ vb, e = .returned (.func (.func 43) #[] #[.pointer (some ⟨vb, 0, none⟩)]) ∧ RK wl Fs Js b 43 #[.pointer (some ⟨vb, 0, none⟩)] [] W') := fun b W h => kn_of h none 0 0 0 [] (fun c hc => absurd hc (by simp)) (by decide) (fun h => absurd h (by simp))
  have KL1 : Hid (∀ b caps W, RK wl Fs Js b 45 caps (alvL (siftL newF none [cA2g, cA1, cB1])) W → Calls Try.prog 21 #[.func (.func 45) #[] caps, .int .i64 9] W fun e W' => ∃ q gb cap, e = .returned (.slice q 1 cap) ∧ Hid (0 < ([cB1] : List Cl).length → q = some ⟨gb, 0, none⟩ ∧ CRow W' gb 0 [cB1] ∧ gb < W'.heap.size) ∧ PK wl Fs Js b W') := fun b caps W h => kn_list h 9 (by decide) (by decide)
  have KL2 : Hid (∀ b vb W, RK wl Fs Js b 31 #[.pointer (some ⟨vb, 0, none⟩)] [] W → Calls Try.prog 21 #[.func (.func 31) #[] #[.pointer (some ⟨vb, 0, none⟩)], .int .i64 9] W fun e W' => ∃ q gb cap, e = .returned (.slice q 0 cap) ∧ Hid (0 < ([] : List Cl).length → q = some ⟨gb, 0, none⟩ ∧ CRow W' gb 0 [] ∧ gb < W'.heap.size) ∧ PK wl Fs Js b W') := fun b vb W h => kn_list h 9 (by decide) (by decide)
  have KL3 : Hid (∀ b vb W, RK wl Fs Js b 31 #[.pointer (some ⟨vb, 0, none⟩)] (sortL (siftL upF none [cB1, cA1])) W → Calls Try.prog 21 #[.func (.func 31) #[] #[.pointer (some ⟨vb, 0, none⟩)], .int .i64 9] W fun e W' => ∃ q gb cap, e = .returned (.slice q 1 cap) ∧ Hid (0 < ([cB1] : List Cl).length → q = some ⟨gb, 0, none⟩ ∧ CRow W' gb 0 [cB1] ∧ gb < W'.heap.size) ∧ PK wl Fs Js b W') := fun b vb W h => kn_list h 9 (by decide) (by decide)
  have KL4 : Hid (∀ b vb W, RK wl Fs Js b 43 #[.pointer (some ⟨vb, 0, none⟩)] [cA1, cB1, cC1] W → Calls Try.prog 21 #[.func (.func 43) #[] #[.pointer (some ⟨vb, 0, none⟩)], .int .i64 2] W fun e W' => ∃ q gb cap, e = .returned (.slice q 2 cap) ∧ Hid (0 < ([cA1, cB1] : List Cl).length → q = some ⟨gb, 0, none⟩ ∧ CRow W' gb 0 [cA1, cB1] ∧ gb < W'.heap.size) ∧ PK wl Fs Js b W') := fun b vb W h => kn_list h 2 (by decide) (by decide)
  have KL5 : Hid (∀ b vb W, RK wl Fs Js b 43 #[.pointer (some ⟨vb, 0, none⟩)] [cA1, cB1, cC1] W → Calls Try.prog 21 #[.func (.func 43) #[] #[.pointer (some ⟨vb, 0, none⟩)], .int .i64 0] W fun e W' => ∃ q gb cap, e = .returned (.slice q 0 cap) ∧ Hid (0 < ([] : List Cl).length → q = some ⟨gb, 0, none⟩ ∧ CRow W' gb 0 [] ∧ gb < W'.heap.size) ∧ PK wl Fs Js b W') := fun b vb W h => kn_list h 0 (by decide) (by decide)
  have KS1 : Hid (∀ b q gb cap W, PK wl Fs Js b W → Hid (0 < ([cB1] : List Cl).length → q = some ⟨gb, 0, none⟩ ∧ CRow W gb 0 [cB1] ∧ gb < W.heap.size) → Calls Try.prog 24 #[.slice q 1 cap, .slice (some ⟨gl, 5, none⟩) 1 2] W fun e W' => e = .returned (.bool true) ∧ PK wl Fs Js b W') := fun b q gb cap W h hr => kn_same h q _ gb cap gl 5 2 [cB1] hr (fun _ => ⟨rfl, ((hrl0 W h.k).drop 1).take 1⟩) (by decide)
  have KS2 : Hid (∀ b q gb cap W, PK wl Fs Js b W → Hid (0 < ([cA1, cB1] : List Cl).length → q = some ⟨gb, 0, none⟩ ∧ CRow W gb 0 [cA1, cB1] ∧ gb < W.heap.size) → Calls Try.prog 24 #[.slice q 2 cap, .slice (some ⟨gl, 0, none⟩) 2 3] W fun e W' => e = .returned (.bool true) ∧ PK wl Fs Js b W') := fun b q gb cap W h hr => kn_same h q _ gb cap gl 0 3 [cA1, cB1] hr (fun _ => ⟨rfl, (hrl0 W h.k).take 2⟩) (by decide)
  have KTS : Hid (∀ W, PK wl Fs Js true W → Calls Try.prog 10 #[.func (.func 31) #[] #[.pointer (some ⟨vs, 0, none⟩)], .slice none 0 0] W fun e W' => e = .returned (.bool true) ∧ PK wl Fs Js false W') := fun W h => kn_s h hTs hFs'
  have CL : Hid _ := cl
  obtain ⟨c0, c1, c2, c3, c4, c5, c6, c7, c8, c9⟩ := cl ws hBl0
  have hwl : Below w.heap.size w wl := hB3
  clear hrl hlz hrl0 hll0 hTs hJs hFs' hBl0 hB3 cl
  go_wp2_with fail
  simp only [List.append_eq, List.cons_append, List.nil_append]
  go_region_held3 (fun w' => w'.cell? ⟨gl, 0, none⟩ = some (.string ⟨#[97]⟩) ∧ w'.cell? ⟨gl, 1, none⟩ = some (.string ⟨#[120]⟩) ∧ w'.cell? ⟨gl, 2, none⟩ = some (.int .u64 1) ∧ w'.cell? ⟨gl, 3, none⟩ = some (.bool false) ∧ w'.cell? ⟨gl, 4, none⟩ = some (.string ⟨#[]⟩) ∧ w'.cell? ⟨gl, 5, none⟩ = some (.string ⟨#[98]⟩) ∧ w'.cell? ⟨gl, 6, none⟩ = some (.string ⟨#[120]⟩) ∧ w'.cell? ⟨gl, 7, none⟩ = some (.int .u64 1) ∧ w'.cell? ⟨gl, 8, none⟩ = some (.bool false) ∧ w'.cell? ⟨gl, 9, none⟩ = some (.string ⟨#[]⟩)) (first | with_reducible exact ⟨c0, c1, c2, c3, c4, c5, c6, c7, c8, c9⟩ | go_keep)
    (first
      | (go_at_call 14; with_reducible refine (kn_works (by first | with_reducible exact hP | with_reducible exact hP.drew)).mono ?_; rintro e W2 ⟨rfl, hP2⟩; clear hP; have hP := hP2; clear hP2; clear c0 c1 c2 c3 c4 c5 c6 c7 c8 c9; obtain ⟨c0, c1, c2, c3, c4, c5, c6, c7, c8, c9⟩ := CL.out _ hP.k)
      | (go_at_call 29; with_reducible refine (KA1.out _ _ hP).mono ?_; rintro e W2 ⟨rfl, hP2⟩; clear hP; have hP := hP2; clear hP2; clear c0 c1 c2 c3 c4 c5 c6 c7 c8 c9; obtain ⟨c0, c1, c2, c3, c4, c5, c6, c7, c8, c9⟩ := CL.out _ hP.k)
      | (go_at_call 29; with_reducible refine (KA2.out _ _ hP).mono ?_; rintro e W2 ⟨rfl, hP2⟩; clear hP; have hP := hP2; clear hP2; clear c0 c1 c2 c3 c4 c5 c6 c7 c8 c9; obtain ⟨c0, c1, c2, c3, c4, c5, c6, c7, c8, c9⟩ := CL.out _ hP.k)
      | (go_at_call 29; with_reducible refine (KA3.out _ _ hP).mono ?_; rintro e W2 ⟨rfl, hP2⟩; clear hP; have hP := hP2; clear hP2; clear c0 c1 c2 c3 c4 c5 c6 c7 c8 c9; obtain ⟨c0, c1, c2, c3, c4, c5, c6, c7, c8, c9⟩ := CL.out _ hP.k)
      | (go_at_call 16; with_reducible refine (KO1.out _ _ hP).mono ?_; rintro e W2 ⟨vb, rfl, hR⟩; clear hP; have hP := hR.k; clear c0 c1 c2 c3 c4 c5 c6 c7 c8 c9; obtain ⟨c0, c1, c2, c3, c4, c5, c6, c7, c8, c9⟩ := CL.out _ hP.k)
      | (go_at_call 16; with_reducible refine (KO2.out _ _ hP).mono ?_; rintro e W2 ⟨vb, rfl, hR⟩; clear hP; have hP := hR.k; clear c0 c1 c2 c3 c4 c5 c6 c7 c8 c9; obtain ⟨c0, c1, c2, c3, c4, c5, c6, c7, c8, c9⟩ := CL.out _ hP.k)
      | (go_at_call 16; with_reducible refine (KO3.out _ _ hP).mono ?_; rintro e W2 ⟨vb, rfl, hR⟩; clear hP; have hP := hR.k; clear c0 c1 c2 c3 c4 c5 c6 c7 c8 c9; obtain ⟨c0, c1, c2, c3, c4, c5, c6, c7, c8, c9⟩ := CL.out _ hP.k)
      | (go_at_call 16; with_reducible refine (KO4.out _ _ hP).mono ?_; rintro e W2 ⟨vb, rfl, hR⟩; clear hP; have hP := hR.k; clear c0 c1 c2 c3 c4 c5 c6 c7 c8 c9; obtain ⟨c0, c1, c2, c3, c4, c5, c6, c7, c8, c9⟩ := CL.out _ hP.k)
      | (go_at_call 18; with_reducible refine (kn_alive0 hP).mono ?_; rintro e W2 ⟨ca, rfl, hR⟩; clear hP; have hP := hR.k; clear c0 c1 c2 c3 c4 c5 c6 c7 c8 c9; obtain ⟨c0, c1, c2, c3, c4, c5, c6, c7, c8, c9⟩ := CL.out _ hP.k)
      | (go_at_call 18; with_reducible refine (kn_alive hR).mono ?_; rintro e W2 ⟨ca, rfl, hR⟩; clear hP; have hP := hR.k; clear c0 c1 c2 c3 c4 c5 c6 c7 c8 c9; obtain ⟨c0, c1, c2, c3, c4, c5, c6, c7, c8, c9⟩ := CL.out _ hP.k)
      | (go_at_call 15; with_reducible refine (kn_new0 hP).mono ?_; rintro e W2 ⟨ca, rfl, hR⟩; clear hP; have hP := hR.k; clear c0 c1 c2 c3 c4 c5 c6 c7 c8 c9; obtain ⟨c0, c1, c2, c3, c4, c5, c6, c7, c8, c9⟩ := CL.out _ hP.k)
      | (go_at_call 11; with_reducible refine (kn_all0 hP).mono ?_; rintro e W2 ⟨vb, rfl, hR⟩; clear hP; have hP := hR.k; clear c0 c1 c2 c3 c4 c5 c6 c7 c8 c9; obtain ⟨c0, c1, c2, c3, c4, c5, c6, c7, c8, c9⟩ := CL.out _ hP.k)
      | (go_at_call 11; with_reducible refine (kn_all1 hR).mono ?_; rintro e W2 ⟨vb, rfl, hR⟩; clear hP; have hP := hR.k; clear c0 c1 c2 c3 c4 c5 c6 c7 c8 c9; obtain ⟨c0, c1, c2, c3, c4, c5, c6, c7, c8, c9⟩ := CL.out _ hP.k)
      | (go_at_call 21; with_reducible refine (KL1.out _ _ _ hR).mono ?_; rintro e W2 ⟨ql, gb, cq, rfl, hr, hP2⟩; clear hP; have hP := hP2; clear hP2; clear c0 c1 c2 c3 c4 c5 c6 c7 c8 c9; obtain ⟨c0, c1, c2, c3, c4, c5, c6, c7, c8, c9⟩ := CL.out _ hP.k)
      | (go_at_call 21; with_reducible refine (KL2.out _ _ _ hR).mono ?_; rintro e W2 ⟨ql, gb, cq, rfl, hr, hP2⟩; clear hP; have hP := hP2; clear hP2; clear c0 c1 c2 c3 c4 c5 c6 c7 c8 c9; obtain ⟨c0, c1, c2, c3, c4, c5, c6, c7, c8, c9⟩ := CL.out _ hP.k)
      | (go_at_call 21; with_reducible refine (KL3.out _ _ _ hR).mono ?_; rintro e W2 ⟨ql, gb, cq, rfl, hr, hP2⟩; clear hP; have hP := hP2; clear hP2; clear c0 c1 c2 c3 c4 c5 c6 c7 c8 c9; obtain ⟨c0, c1, c2, c3, c4, c5, c6, c7, c8, c9⟩ := CL.out _ hP.k)
      | (go_at_call 21; with_reducible refine (KL4.out _ _ _ hR).mono ?_; rintro e W2 ⟨ql, gb, cq, rfl, hr, hP2⟩; clear hP; have hP := hP2; clear hP2; clear c0 c1 c2 c3 c4 c5 c6 c7 c8 c9; obtain ⟨c0, c1, c2, c3, c4, c5, c6, c7, c8, c9⟩ := CL.out _ hP.k)
      | (go_at_call 21; with_reducible refine (KL5.out _ _ _ hR).mono ?_; rintro e W2 ⟨ql, gb, cq, rfl, hr, hP2⟩; clear hP; have hP := hP2; clear hP2; clear c0 c1 c2 c3 c4 c5 c6 c7 c8 c9; obtain ⟨c0, c1, c2, c3, c4, c5, c6, c7, c8, c9⟩ := CL.out _ hP.k)
      | (go_at_call 21; with_reducible refine (List_nil 5 _).mono ?_; rintro e W2 ⟨rfl, rfl⟩)
      | (go_at_call 24; with_reducible refine (KS1.out _ _ _ _ _ hP hr).mono ?_; rintro e W2 ⟨rfl, hP2⟩; clear hP; have hP := hP2; clear hP2; clear c0 c1 c2 c3 c4 c5 c6 c7 c8 c9; obtain ⟨c0, c1, c2, c3, c4, c5, c6, c7, c8, c9⟩ := CL.out _ hP.k)
      | (go_at_call 24; with_reducible refine (KS2.out _ _ _ _ _ hP hr).mono ?_; rintro e W2 ⟨rfl, hP2⟩; clear hP; have hP := hP2; clear hP2; clear c0 c1 c2 c3 c4 c5 c6 c7 c8 c9; obtain ⟨c0, c1, c2, c3, c4, c5, c6, c7, c8, c9⟩ := CL.out _ hP.k)
      | (go_at_call 10; with_reducible refine (KTS.out _ hP).mono ?_; rintro e W2 ⟨rfl, hP2⟩; clear hP; have hP := hP2; clear hP2; clear c0 c1 c2 c3 c4 c5 c6 c7 c8 c9; obtain ⟨c0, c1, c2, c3, c4, c5, c6, c7, c8, c9⟩ := CL.out _ hP.k)
      | (go_at_call 10; with_reducible refine (kn_tells hR).mono ?_; rintro e W2 ⟨rfl, hP2⟩; clear hP; have hP := hP2; clear hP2; clear c0 c1 c2 c3 c4 c5 c6 c7 c8 c9; obtain ⟨c0, c1, c2, c3, c4, c5, c6, c7, c8, c9⟩ := CL.out _ hP.k))
  all_goals
    have hfin := below2 hwl hP.k
    clear c0 c1 c2 c3 c4 c5 c6 c7 c8 c9
    go_wp2
    go_ret
    exact ⟨rfl, hfin⟩

end Go.Proofs.Ytnpjbdbhjbccbaa
