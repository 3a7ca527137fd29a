/-
  bloom.places: the iterator that it hands back, and what that tells: the places of a key, one by one, whatever is done meanwhile.
-/
import Derived.Test.YtiingodillcleaaBHash
namespace Go.Proofs.Ytiingodillcleaa
open Go.RowKit
attribute [local go_sem] Oper.semAt_some
attribute [local go_sem] size_bstr toList_bstr

/-- What the iterator has captured: the key, k, the bytes behind. -/
structure Bx (w : World) (b : Nat) (s : List UInt8) (k z : Nat) : Prop where
  a : w.heap[b]? = some (.cells #[.string (bstr s)] 9 (0, 0))
  r : w.heap[b + 1]? = some (.cells #[.int .u8 (k : Int)] 5 (0, 0))
  c : w.heap[b + 1 + 1]? = some (.cells #[.int .i64 (z : Int)] 3 (0, 0))
theorem Bx.lt {w : World} {b : Nat} {s : List UInt8} {k z : Nat} (h : Bx w b s k z) : b + 1 + 1 < w.heap.size := blk_lt h.c
theorem Bx.step {w w' : World} {b : Nat} {s : List UInt8} {k z : Nat} (h : Bx w b s k z) (hb : Below w.heap.size w w') : Bx w' b s k z := by
  have := h.lt
  exact ⟨(hb.block _ (by omega)).trans h.a, (hb.block _ (by omega)).trans h.r, (hb.block _ this).trans h.c⟩
theorem Bx.cells {w : World} {b : Nat} {s : List UInt8} {k z : Nat} (h : Bx w b s k z) : w.cell? ⟨b, 0, none⟩ = some (.string (bstr s)) ∧ w.cell? ⟨b + 1, 0, none⟩ = some (.int .u8 (k : Int)) ∧ w.cell? ⟨b + 1 + 1, 0, none⟩ = some (.int .i64 (z : Int)) := by
  have h1 := h.a
  have h2 := h.r
  have h3 := h.c
  refine ⟨?_, ?_, ?_⟩ <;> simp [World.cell?, h1, h2, h3]

set_option maxHeartbeats 1000000 in
theorem places_any (s : List UInt8) (k z : Nat) (w : World) :
    Calls Try.prog 16 #[.string (bstr s), .int .u8 (k : Int), .int .i64 (z : Int)] w fun e w' => e = .returned (.func (.func 18) #[] #[.pointer (some ⟨w.heap.size, 0, none⟩), .pointer (some ⟨w.heap.size + 1, 0, none⟩), .pointer (some ⟨w.heap.size + 1 + 1, 0, none⟩)]) ∧ Bx w' w.heap.size s k z ∧ Below w.heap.size w w' := by
  have hF : Bx (((w.alloc (.cells #[.string (bstr s)] 9)).alloc (.cells #[.int .u8 (k : Int)] 5)).alloc (.cells #[.int .i64 (z : Int)] 3)) w.heap.size s k z := by
    refine ⟨?_, ?_, ?_⟩
    · exact (Below.heap_alloc _ _ _ (by simp; omega)).trans ((Below.heap_alloc _ _ _ (by simp)).trans (heap_alloc_new w _))
    · refine (Below.heap_alloc _ _ _ (by simp)).trans ?_
      have := heap_alloc_new (w.alloc (.cells #[.string (bstr s)] 9)) (.cells #[.int .u8 (k : Int)] 5)
      simpa using this
    · have := heap_alloc_new ((w.alloc (.cells #[.string (bstr s)] 9)).alloc (.cells #[.int .u8 (k : Int)] 5)) (.cells #[.int .i64 (z : Int)] 3)
      simpa using this
  have hB : Below w.heap.size w (((w.alloc (.cells #[.string (bstr s)] 9)).alloc (.cells #[.int .u8 (k : Int)] 5)).alloc (.cells #[.int .i64 (z : Int)] 3)) := (((Below.refl _ _).alloc (Nat.le_refl _) _).alloc (by simp) _).alloc (by simp; omega) _
  have hmf : ∀ (fn : Fn) (first cap : Array Value) (w : World), (Instr.makeFunc fn first cap).run Try.prog w = .ok (.func fn first cap) w := fun _ _ _ _ => rfl
  go_enter Try.func16, Try.ntmps16
  go_wp2
  generalize ((w.alloc (.cells #[.string (bstr s)] 9)).alloc (.cells #[.int .u8 (k : Int)] 5)).alloc (.cells #[.int .i64 (z : Int)] 3) = W at *
  go_ret
  exact ⟨rfl, hF, hB⟩

/-- What is told of a place: its byte, and its worth there. -/
abbrev plA (p : Nat) : Array Value := #[.int .i64 ((1 + p / 8 : Nat) : Int), .int .u8 ((2 ^ (p % 8) : Nat) : Int)]

theorem place_facts (s : List UInt8) (z j : Nat) (hz0 : 0 < z) (hz : z ≤ 131072) : ∃ p A V E : Nat, ((pll s j : Int) % (8 * (z : Int))) = (p : Int) ∧ (p : Int).tmod 8 = (E : Int) ∧ E ≤ 7 ∧ Hid (wrap64 (1 + wrap64 (IntKind.u64.wrap ((p : Int) / 8))) = (A : Int)) ∧
    Hid ((2 : Int) ^ E % 256 = (V : Int)) ∧ plA (plc s (8 * z) j) = #[.int .i64 (A : Int), .int .u8 (V : Int)] := by
  have hl : plc s (8 * z) j < 8 * z := plc_lt s (by omega) j
  have e : ((pll s j : Int) % (8 * (z : Int))) = (plc s (8 * z) j : Int) := by
    unfold plc
    rw [Int.natCast_emod, Int.natCast_mul]
    rfl
  generalize plc s (8 * z) j = p at *
  refine ⟨p, 1 + p / 8, 2 ^ (p % 8), p % 8, e, ?_, by omega, ?_, ?_, rfl⟩
  · rw [Int.tmod_eq_emod_of_nonneg (by omega)]; omega
  · show wrap64 (1 + wrap64 (IntKind.u64.wrap ((p : Int) / 8))) = _
    rw [IntKind.wrap_u64]
    unfold wrap64
    omega
  · show (2 : Int) ^ (p % 8) % 256 = _
    have hr : p % 8 < 8 := Nat.mod_lt _ (by decide)
    generalize p % 8 = r at *
    have : ∀ r, r < 8 → (2 : Int) ^ r % 256 = ((2 ^ r : Nat) : Int) := by decide
    exact this r hr

set_option maxHeartbeats 4000000 in
set_option maxRecDepth 100000 in
theorem places1_any (s : List UInt8) (k z b lr : Nat) (J : Nat → World → Prop) (Jx : World → Prop) (w : World) (hs : s.length ≤ 9223372036854775807) (hk : k ≤ 8) (hz0 : 0 < z) (hz : z ≤ 131072)
    (hab : ∀ j W W', J j W → Below W.heap.size W W' → J j W') (hbx : ∀ j W, J j W → Bx W b s k z)
    (hY : ∀ m j W, j < k → J j W → YieldAt Fence.wide m Try.prog lr (plA (plc s (8 * z) j)) W fun e W' => (e = .returned (.bool true) ∧ J (j + 1) W') ∨ (e = .returned (.bool false) ∧ Jx W'))
    (hJ : J 0 w) :
    Calls Try.prog 18 #[.func (.yield lr) #[] #[], .pointer (some ⟨b, 0, none⟩), .pointer (some ⟨b + 1, 0, none⟩), .pointer (some ⟨b + 1 + 1, 0, none⟩)] w fun e W => (∃ u, e = .returned u) ∧ (J k W ∨ Jx W) := by
  obtain ⟨x0, x1, x2⟩ := (hbx 0 w hJ).cells
  refine calls_in Try.func18 rfl ?_
  simp only [Try.ntmps18, List.size_toArray, List.length_cons, List.length_nil, Nat.reduceAdd, Nat.reduceSub, Array.replicate_succ, Array.replicate_zero, List.push_toArray, List.append_toArray, List.nil_append, List.cons_append]
  obtain ⟨w0, hw0⟩ : ∃ w0, w0 = w.alloc (.cells #[.int .u64 14695981039346656037, .int .u64 9521554427338878180] 41) := ⟨_, rfl⟩
  have hb0 : Below w.heap.size w w0 := by rw [hw0]; exact (Below.refl _ _).alloc (Nat.le_refl _) _
  have hB0 : w0.heap[w.heap.size]? = some (.cells #[.int .u64 14695981039346656037, .int .u64 9521554427338878180] 41 (0, 0)) := by rw [hw0]; exact heap_alloc_new _ _
  have c0 : w0.cell? ⟨w.heap.size, 0, none⟩ = some (.int .u64 ((14695981039346656037 : Nat) : Int)) := (cells_block hB0).1 0
  have c1 : w0.cell? ⟨w.heap.size, 1, none⟩ = some (.int .u64 ((9521554427338878180 : Nat) : Int)) := (cells_block hB0).1 1
  have hha := hashes_any s w.heap.size 2 14695981039346656037 9521554427338878180 w0 c0 c1 (by decide) (by decide) hs
  gi_wp2_with fail
  rw [← hw0]
  refine ⟨trivial, (callsIn_wide.2 hha).mono ?_⟩
  rintro e w1 ⟨g, cap, rfl, hcap, ht, hb1⟩
  have hJ1 := hab _ _ _ hJ (below2 hb0 hb1)
  have hla := hA_lt s
  have hlb := hB_lt s
  clear hha c0 c1 hB0 hb0 hb1 hw0 x0 x1 x2 hJ
  obtain ⟨x0, x1, x2⟩ := (hbx 0 w1 hJ1).cells
  obtain ⟨c0, c1, _, _⟩ := ht.facts
  gi_wp2_with fail
  refine wpIn_wide.2 ?_
  go_region
  gi_wp2
  have ep : hsh 14695981039346656037 s = pll s 0 := (pll_zero s).symm
  rw [ep]
  refine wpIn_loop_n (fun m a wr => ∃ (j : Nat) (u4 u5 u6 u8 u9 u10 u11 u12 u13 u14 u15 u16 u17 u19 u20 u21 u22 u23 u24 u25 u26 u27 u28 u29 u30 u31 u32 u33 u34 u35 u36 u37 u38 u39 : Value), a = { tmps := #[.func (.yield lr) #[] #[], .pointer (some ⟨b, 0, none⟩), .pointer (some ⟨b + 1, 0, none⟩), .pointer (some ⟨b + 1 + 1, 0, none⟩), u4, u5, u6, .int .u64 (hB s : Int), u8, u9, u10, u11, u12, u13, u14, u15, u16, u17, .int .u8 (k : Int), u19, u20, u21, u22, u23, u24, u25, u26, u27, u28, u29, u30, u31, u32, u33, u34, u35, u36, u37, u38, u39], defers := [] } ∧ u6 = .int .u64 (pll s j : Int) ∧ u19 = .int .u8 (j : Int) ∧ j + m = k ∧ J j wr) k ?start ?round
  case start => exact ⟨0, _, _, _, _, _, _, _, _, _, _, _, _, _, _, _, _, _, _, _, _, _, _, _, _, _, _, _, _, _, _, _, _, _, _, rfl, rfl, rfl, by omega, hab _ _ _ hJ1 ⟨rfl, rfl, rfl, Nat.le_refl _, fun _ _ => rfl⟩⟩
  case round =>
    clear hJ1 x0 x1 x2 c0 c1 ht
    rintro m a wr ⟨j, u4, u5, u6, u8, u9, u10, u11, u12, u13, u14, u15, u16, u17, u19, u20, u21, u22, u23, u24, u25, u26, u27, u28, u29, u30, u31, u32, u33, u34, u35, u36, u37, u38, u39, rfl, rfl, rfl, hjm, hJj⟩
    obtain ⟨x0, x1, x2⟩ := (hbx j wr hJj).cells
    cases m with
    | zero =>
      have hjk : j = k := by omega
      subst hjk
      gi_wp2
      exact ⟨rfl, _, results_none rfl _ _ _, ⟨_, rfl⟩, Or.inl hJj⟩
    | succ m =>
      have hlt : j < k := by omega
      obtain ⟨fn, tmps, assign, body, hyr, hR⟩ := hY (3 - 1) j wr hlt hJj
      have hps := pll_succ s j
      have hpw : IntKind.u64.wrap ((pll s j : Int) + (hB s : Int)) = (pll s (j + 1) : Int) := by rw [IntKind.wrap_u64, hps]; omega
      obtain ⟨p, A, V, E, hpe, hq4, hE, HA, HV, hyr2⟩ := place_facts s z j hz0 hz
      rw [hyr2] at hyr
      have HP : Hid _ := hpw
      clear hyr2 hps hpw
      gi_wp2_with fail
      rw [HA.out, HV.out, hyr]
      clear hyr
      gi_wp2
      refine hR.mono ?_
      rintro e w3 (⟨rfl, hJ3⟩ | ⟨rfl, hJ3⟩)
      · gi_wp2
        refine ⟨m, rfl, j + 1, _, _, _, _, _, _, _, _, _, _, _, _, _, _, _, _, _, _, _, _, _, _, _, _, _, _, _, _, _, _, _, _, _, _, rfl, ?_, ?_, by omega, hJ3⟩
        · first | rw [HP.out] | exact congrArg (Value.int .u64) HP.out
        · go_num
      · gi_wp2
        refine bodyPost_ret (results_none rfl _ _ _) rfl ?_
        exact ⟨⟨_, rfl⟩, Or.inr hJ3⟩

end Go.Proofs.Ytiingodillcleaa
