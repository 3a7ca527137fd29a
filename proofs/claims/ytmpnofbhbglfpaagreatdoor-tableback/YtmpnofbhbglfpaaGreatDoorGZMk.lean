/-
  bloom.places: the iterator that it hands back, and what that tells: the places of a key, one by one, whatever is done meanwhile.
  The contracts of bloom.Check and bloom.Has.
  The contract of bloom.Make: its rounds.
-/
import Derived.Test.YtmpnofbhbglfpaaGreatDoorGTFn2
import Derived.Test.YtmpnofbhbglfpaaGreatDoorGTFn
import Derived.Lib.MinMax
namespace Go.Proofs.YtmpnofbhbglfpaaGreatDoor.Bl
open Go.RowKit
attribute [local go_sem] Oper.semAt_some
attribute [local go_sem] size_bstr toList_bstr

/-- What the iterator has captured: the key, k, the bytes behind. -/
structure Bx (w : World) (b : Nat) (s : List UInt8) (k z : Nat) : Prop where
  a : w.heap[b]? = some (.cells #[.string (bstr s)] 9 (0, 0))
  r : w.heap[b + 1]? = some (.cells #[.int .u8 (k : Int)] 5 (0, 0))
  c : w.heap[b + 1 + 1]? = some (.cells #[.int .i64 (z : Int)] 3 (0, 0))
theorem Bx.lt {w : World} {b : Nat} {s : List UInt8} {k z : Nat} (h : Bx w b s k z) : b + 1 + 1 < w.heap.size := blk_lt h.c
theorem Bx.step {w w' : World} {b : Nat} {s : List UInt8} {k z : Nat} (h : Bx w b s k z) (hb : Below w.heap.size w w') : Bx w' b s k z := by
  have := h.lt
  exact ⟨(hb.block _ (by omega)).trans h.a, (hb.block _ (by omega)).trans h.r, (hb.block _ this).trans h.c⟩
theorem Bx.cells {w : World} {b : Nat} {s : List UInt8} {k z : Nat} (h : Bx w b s k z) : w.cell? ⟨b, 0, none⟩ = some (.string (bstr s)) ∧ w.cell? ⟨b + 1, 0, none⟩ = some (.int .u8 (k : Int)) ∧ w.cell? ⟨b + 1 + 1, 0, none⟩ = some (.int .i64 (z : Int)) := by
  have h1 := h.a
  have h2 := h.r
  have h3 := h.c
  refine ⟨?_, ?_, ?_⟩ <;> simp [World.cell?, h1, h2, h3]

set_option maxHeartbeats 1000000 in
theorem places_any (s : List UInt8) (k z : Nat) (w : World) :
    Calls Tryz.prog 80 #[.string (bstr s), .int .u8 (k : Int), .int .i64 (z : Int)] w fun e w' => e = .returned (.func (.func 123) #[] #[.pointer (some ⟨w.heap.size, 0, none⟩), .pointer (some ⟨w.heap.size + 1, 0, none⟩), .pointer (some ⟨w.heap.size + 1 + 1, 0, none⟩)]) ∧ Bx w' w.heap.size s k z ∧ Below w.heap.size w w' := by
  have hF : Bx (((w.alloc (.cells #[.string (bstr s)] 9)).alloc (.cells #[.int .u8 (k : Int)] 5)).alloc (.cells #[.int .i64 (z : Int)] 3)) w.heap.size s k z := by
    refine ⟨?_, ?_, ?_⟩
    · exact (Below.heap_alloc _ _ _ (by simp; omega)).trans ((Below.heap_alloc _ _ _ (by simp)).trans (heap_alloc_new w _))
    · refine (Below.heap_alloc _ _ _ (by simp)).trans ?_
      have := heap_alloc_new (w.alloc (.cells #[.string (bstr s)] 9)) (.cells #[.int .u8 (k : Int)] 5)
      simpa using this
    · have := heap_alloc_new ((w.alloc (.cells #[.string (bstr s)] 9)).alloc (.cells #[.int .u8 (k : Int)] 5)) (.cells #[.int .i64 (z : Int)] 3)
      simpa using this
  have hB : Below w.heap.size w (((w.alloc (.cells #[.string (bstr s)] 9)).alloc (.cells #[.int .u8 (k : Int)] 5)).alloc (.cells #[.int .i64 (z : Int)] 3)) := (((Below.refl _ _).alloc (Nat.le_refl _) _).alloc (by simp) _).alloc (by simp; omega) _
  have hmf : ∀ (fn : Fn) (first cap : Array Value) (w : World), (Instr.makeFunc fn first cap).run Tryz.prog w = .ok (.func fn first cap) w := fun _ _ _ _ => rfl
  go_enter Tryz.func80, Tryz.ntmps80
  go_wp2
  generalize ((w.alloc (.cells #[.string (bstr s)] 9)).alloc (.cells #[.int .u8 (k : Int)] 5)).alloc (.cells #[.int .i64 (z : Int)] 3) = W at *
  go_ret
  exact ⟨rfl, hF, hB⟩

/-- What is told of a place: its byte, and its worth there. -/
abbrev plA (p : Nat) : Array Value := #[.int .i64 ((1 + p / 8 : Nat) : Int), .int .u8 ((2 ^ (p % 8) : Nat) : Int)]

theorem place_facts (s : List UInt8) (z j : Nat) (hz0 : 0 < z) (hz : z ≤ 131072) : ∃ p A V E : Nat, ((pll s j : Int) % (8 * (z : Int))) = (p : Int) ∧ (p : Int).tmod 8 = (E : Int) ∧ E ≤ 7 ∧ Hid (wrap64 (1 + wrap64 (IntKind.u64.wrap ((p : Int) / 8))) = (A : Int)) ∧
    Hid ((2 : Int) ^ E % 256 = (V : Int)) ∧ plA (plc s (8 * z) j) = #[.int .i64 (A : Int), .int .u8 (V : Int)] := by
  have hl : plc s (8 * z) j < 8 * z := plc_lt s (by omega) j
  have e : ((pll s j : Int) % (8 * (z : Int))) = (plc s (8 * z) j : Int) := by
    unfold plc
    rw [Int.natCast_emod, Int.natCast_mul]
    rfl
  generalize plc s (8 * z) j = p at *
  refine ⟨p, 1 + p / 8, 2 ^ (p % 8), p % 8, e, ?_, by omega, ?_, ?_, rfl⟩
  · rw [Int.tmod_eq_emod_of_nonneg (by omega)]; omega
  · show wrap64 (1 + wrap64 (IntKind.u64.wrap ((p : Int) / 8))) = _
    rw [IntKind.wrap_u64]
    unfold wrap64
    omega
  · show (2 : Int) ^ (p % 8) % 256 = _
    have hr : p % 8 < 8 := Nat.mod_lt _ (by decide)
    generalize p % 8 = r at *
    have : ∀ r, r < 8 → (2 : Int) ^ r % 256 = ((2 ^ r : Nat) : Int) := by decide
    exact this r hr

set_option maxHeartbeats 4000000 in
set_option maxRecDepth 100000 in
theorem places1_any (s : List UInt8) (k z b lr : Nat) (J : Nat → World → Prop) (Jx : World → Prop) (w : World) (hs : s.length ≤ 9223372036854775807) (hk : k ≤ 8) (hz0 : 0 < z) (hz : z ≤ 131072)
    (hab : ∀ j W W', J j W → Below W.heap.size W W' → J j W') (hbx : ∀ j W, J j W → Bx W b s k z)
    (hY : ∀ m j W, j < k → J j W → YieldAt Fence.wide m Tryz.prog lr (plA (plc s (8 * z) j)) W fun e W' => (e = .returned (.bool true) ∧ J (j + 1) W') ∨ (e = .returned (.bool false) ∧ Jx W'))
    (hJ : J 0 w) :
    Calls Tryz.prog 123 #[.func (.yield lr) #[] #[], .pointer (some ⟨b, 0, none⟩), .pointer (some ⟨b + 1, 0, none⟩), .pointer (some ⟨b + 1 + 1, 0, none⟩)] w fun e W => (∃ u, e = .returned u) ∧ (J k W ∨ Jx W) := by
  obtain ⟨x0, x1, x2⟩ := (hbx 0 w hJ).cells
  refine calls_in Tryz.func123 rfl ?_
  simp only [Tryz.ntmps123, List.size_toArray, List.length_cons, List.length_nil, Nat.reduceAdd, Nat.reduceSub, Array.replicate_succ, Array.replicate_zero, List.push_toArray, List.append_toArray, List.nil_append, List.cons_append]
  obtain ⟨w0, hw0⟩ : ∃ w0, w0 = w.alloc (.cells #[.int .u64 14695981039346656037, .int .u64 9521554427338878180] 37) := ⟨_, rfl⟩
  have hb0 : Below w.heap.size w w0 := by rw [hw0]; exact (Below.refl _ _).alloc (Nat.le_refl _) _
  have hB0 : w0.heap[w.heap.size]? = some (.cells #[.int .u64 14695981039346656037, .int .u64 9521554427338878180] 37 (0, 0)) := by rw [hw0]; exact heap_alloc_new _ _
  have c0 : w0.cell? ⟨w.heap.size, 0, none⟩ = some (.int .u64 ((14695981039346656037 : Nat) : Int)) := (cells_block hB0).1 0
  have c1 : w0.cell? ⟨w.heap.size, 1, none⟩ = some (.int .u64 ((9521554427338878180 : Nat) : Int)) := (cells_block hB0).1 1
  have hha := hashes_any s w.heap.size 2 14695981039346656037 9521554427338878180 w0 c0 c1 (by decide) (by decide) hs
  gi_wp2_with fail
  rw [← hw0]
  refine ⟨trivial, (callsIn_wide.2 hha).mono ?_⟩
  rintro e w1 ⟨g, cap, rfl, hcap, ht, hb1⟩
  have hJ1 := hab _ _ _ hJ (below2 hb0 hb1)
  have hla := hA_lt s
  have hlb := hB_lt s
  clear hha c0 c1 hB0 hb0 hb1 hw0 x0 x1 x2 hJ
  obtain ⟨x0, x1, x2⟩ := (hbx 0 w1 hJ1).cells
  obtain ⟨c0, c1, _, _⟩ := ht.facts
  gi_wp2_with fail
  refine wpIn_wide.2 ?_
  go_region
  gi_wp2
  have ep : hsh 14695981039346656037 s = pll s 0 := (pll_zero s).symm
  rw [ep]
  refine wpIn_loop_n (fun m a wr => ∃ (j : Nat) (u4 u5 u6 u8 u9 u10 u11 u12 u13 u14 u15 u16 u17 u19 u20 u21 u22 u23 u24 u25 u26 u27 u28 u29 u30 u31 u32 u33 u34 u35 u36 u37 u38 u39 : Value), a = { tmps := #[.func (.yield lr) #[] #[], .pointer (some ⟨b, 0, none⟩), .pointer (some ⟨b + 1, 0, none⟩), .pointer (some ⟨b + 1 + 1, 0, none⟩), u4, u5, u6, .int .u64 (hB s : Int), u8, u9, u10, u11, u12, u13, u14, u15, u16, u17, .int .u8 (k : Int), u19, u20, u21, u22, u23, u24, u25, u26, u27, u28, u29, u30, u31, u32, u33, u34, u35, u36, u37, u38, u39], defers := [] } ∧ u6 = .int .u64 (pll s j : Int) ∧ u19 = .int .u8 (j : Int) ∧ j + m = k ∧ J j wr) k ?start ?round
  case start => exact ⟨0, _, _, _, _, _, _, _, _, _, _, _, _, _, _, _, _, _, _, _, _, _, _, _, _, _, _, _, _, _, _, _, _, _, _, rfl, rfl, rfl, by omega, hab _ _ _ hJ1 ⟨rfl, rfl, rfl, Nat.le_refl _, fun _ _ => rfl⟩⟩
  case round =>
    clear hJ1 x0 x1 x2 c0 c1 ht
    rintro m a wr ⟨j, u4, u5, u6, u8, u9, u10, u11, u12, u13, u14, u15, u16, u17, u19, u20, u21, u22, u23, u24, u25, u26, u27, u28, u29, u30, u31, u32, u33, u34, u35, u36, u37, u38, u39, rfl, rfl, rfl, hjm, hJj⟩
    obtain ⟨x0, x1, x2⟩ := (hbx j wr hJj).cells
    cases m with
    | zero =>
      have hjk : j = k := by omega
      subst hjk
      gi_wp2
      exact ⟨rfl, _, results_none rfl _ _ _, ⟨_, rfl⟩, Or.inl hJj⟩
    | succ m =>
      have hlt : j < k := by omega
      obtain ⟨fn, tmps, assign, body, hyr, hR⟩ := hY (3 - 1) j wr hlt hJj
      have hps := pll_succ s j
      have hpw : IntKind.u64.wrap ((pll s j : Int) + (hB s : Int)) = (pll s (j + 1) : Int) := by rw [IntKind.wrap_u64, hps]; omega
      obtain ⟨p, A, V, E, hpe, hq4, hE, HA, HV, hyr2⟩ := place_facts s z j hz0 hz
      rw [hyr2] at hyr
      have HP : Hid _ := hpw
      clear hyr2 hps hpw
      gi_wp2_with fail
      rw [HA.out, HV.out, hyr]
      clear hyr
      gi_wp2
      refine hR.mono ?_
      rintro e w3 (⟨rfl, hJ3⟩ | ⟨rfl, hJ3⟩)
      · gi_wp2
        refine ⟨m, rfl, j + 1, _, _, _, _, _, _, _, _, _, _, _, _, _, _, _, _, _, _, _, _, _, _, _, _, _, _, _, _, _, _, _, _, _, _, rfl, ?_, ?_, by omega, hJ3⟩
        · first | rw [HP.out] | exact congrArg (Value.int .u64) HP.out
        · go_num
      · gi_wp2
        refine bodyPost_ret (results_none rfl _ _ _) rfl ?_
        exact ⟨⟨_, rfl⟩, Or.inr hJ3⟩

end Go.Proofs.YtmpnofbhbglfpaaGreatDoor.Bl

namespace Go.Proofs.YtmpnofbhbglfpaaGreatDoor.Bl
open Go.RowKit
attribute [local go_sem] Oper.semAt_some
attribute [local go_sem] size_bstr getElem_bstr toList_bstr

theorem below_set0 {B : Nat} {w w' : World} (h : Below B w w') {g o : Nat} (hg : B ≤ g) (v : Value) : Below B w (w'.setCell ⟨g, o, none⟩ v) :=
  ⟨h.os, h.tape, h.output, by show _ ≤ (w'.heap.modify _ _).size; rw [Array.size_modify]; exact h.size, fun k hk => (heap_set_other v (by omega)).trans (h.block k hk)⟩
theorem below_put {B : Nat} {w w' : World} (h : Below B w w') {g : Nat} (hg : B ≤ g) (o : Obj) : Below B w (w'.putObj g o) :=
  ⟨h.os, h.tape, h.output, Nat.le_trans h.size (by simp), fun k hk => (World.putObj_heap_other (by omega)).trans (h.block k hk)⟩
def ckE (f : List UInt8) : Int := if isF f = true then 0 else 4
set_option maxHeartbeats 1000000 in
theorem Check_any (f : List UInt8) (w : World) (hl : f.length ≤ 9223372036854775807) :
    Calls Tryz.prog 79 #[.string (bstr f)] w fun e w' => e = .returned (.int .i64 (ckE f)) ∧ w' = w := by
  have hck : ckE f = if (9 ≤ f.length ∧ f.length ≤ 131073) ∧ 1 ≤ (f.getD 0 0).toNat ∧ (f.getD 0 0).toNat ≤ 8 then 0 else 4 := by
    unfold ckE isF
    simp [and_assoc]
  by_cases h1 : f.length < 9
  · have e : ckE f = 4 := by rw [hck, if_neg (by omega)]
    rw [e]
    go_enter Tryz.func79, Tryz.ntmps79
    go_wp2
    go_ret
    exact ⟨rfl, rfl⟩
  · by_cases h2 : 131073 < f.length
    · have e : ckE f = 4 := by rw [hck, if_neg (by omega)]
      rw [e]
      go_enter Tryz.func79, Tryz.ntmps79
      go_wp2
      go_ret
      exact ⟨rfl, rfl⟩
    · obtain ⟨k, l, rfl⟩ : ∃ k l, f = k :: l := by
        cases f with
        | nil => simp at h1
        | cons k l => exact ⟨k, l, rfl⟩
      have hg : (k :: l).getD 0 0 = k := rfl
      rw [hg] at hck
      simp only [List.length_cons] at h1 h2 hck hl
      have hkl := k.toNat_lt
      by_cases h3 : k.toNat < 1
      · have e : ckE (k :: l) = 4 := by rw [hck, if_neg (by omega)]
        rw [e]
        clear hck
        go_enter Tryz.func79, Tryz.ntmps79
        go_wp2
        all_goals first | (exfalso; omega) | (go_ret; exact ⟨rfl, rfl⟩)
      · by_cases h4 : 8 < k.toNat
        · have e : ckE (k :: l) = 4 := by rw [hck, if_neg (by omega)]
          rw [e]
          clear hck
          go_enter Tryz.func79, Tryz.ntmps79
          go_wp2
          all_goals first | (exfalso; omega) | (go_ret; exact ⟨rfl, rfl⟩)
        · have e : ckE (k :: l) = 0 := by rw [hck, if_pos (by omega)]
          rw [e]
          clear hck
          go_enter Tryz.func79, Tryz.ntmps79
          go_wp2
          all_goals first | (exfalso; omega) | (go_ret; exact ⟨rfl, rfl⟩)

/-- What the rounds of Has keep: q: the filter's box, then the answer's; b: the iterator's; D: the loop's. -/
structure HJ (w : World) (b D : Nat) (RR : Loop) (f s : List UInt8) (k z j : Nat) (W : World) : Prop where
  bx : Bx W b s k z
  fb : W.heap[w.heap.size]? = some (.cells #[.string (bstr f)] 9 (0, 0))
  rb : W.heap[w.heap.size + 1]? = some (.cells #[.bool false] 4 (0, 0))
  df : W.heap[D]? = some (.deferred (some []))
  rc : W.heap[D + 1]? = some (.loop RR)
  be : Below w.heap.size w W
  al : ∀ i, i < j → hasB f.tail (plc s (8 * z) i) = true
/-- One that is not there was met. -/
structure HX (w : World) (D : Nat) (RR : Loop) (f s : List UInt8) (k z : Nat) (W : World) : Prop where
  rb : W.heap[w.heap.size + 1]? = some (.cells #[.bool false] 4 (0, 0))
  df : W.heap[D]? = some (.deferred (some []))
  rc : W.heap[D + 1]? = some (.loop { RR with state := .done, pending := some .ret })
  be : Below w.heap.size w W
  no : ∃ i, i < k ∧ hasB f.tail (plc s (8 * z) i) = false
theorem HJ.abd {w : World} {b D : Nat} {RR : Loop} {f s : List UInt8} {k z j : Nat} {W W' : World} (h : HJ w b D RR f s k z j W) (hb : Below W.heap.size W W') : HJ w b D RR f s k z j W' :=
  ⟨h.bx.step hb, (hb.block _ (blk_lt h.fb)).trans h.fb, (hb.block _ (blk_lt h.rb)).trans h.rb, (hb.block _ (blk_lt h.df)).trans h.df, (hb.block _ (blk_lt h.rc)).trans h.rc, below2 h.be hb, h.al⟩

theorem has_facts (k : UInt8) (l s : List UInt8) (j : Nat) (hl : 0 < l.length) : ∃ A V N : Nat, ∃ hA : A < (k :: l).length, bits .and .u8 ((((k :: l)[A]'hA).toNat : Nat) : Int) (V : Int) = (N : Int) ∧ Hid (N = 0 ↔ hasB l (plc s (8 * l.length) j) = false) ∧ plA (plc s (8 * l.length) j) = #[.int .i64 (A : Int), .int .u8 (V : Int)] := by
  have hp := plc_lt s (m := 8 * l.length) (by omega) j
  generalize plc s (8 * l.length) j = p at *
  have hd : p / 8 < l.length := by omega
  have hA : 1 + p / 8 < (k :: l).length := by rw [List.length_cons]; omega
  have eA : (k :: l)[1 + p / 8] = l[p / 8] := by simp [Nat.add_comm 1]
  have hV : 2 ^ (p % 8) < 256 := by
    have hr : p % 8 < 8 := Nat.mod_lt _ (by decide)
    generalize p % 8 = r at *
    have : ∀ r, r < 8 → 2 ^ r < 256 := by decide
    exact this r hr
  have hx := (l[p / 8]).toNat_lt
  refine ⟨1 + p / 8, 2 ^ (p % 8), (l[p / 8]).toNat &&& 2 ^ (p % 8), hA, ?_, ?_, rfl⟩
  · rw [eA, u8_and_nat _ _ hx hV]
  · show _ ↔ _
    rw [and_bit]
    unfold hasB
    rw [List.getD_eq_getElem?_getD, List.getElem?_eq_getElem hd]
    rfl
theorem setCell_noop {W : World} {n o : Nat} {v : Value} (h : W.cell? ⟨n, o, none⟩ = some v) : W.setCell ⟨n, o, none⟩ v = W := by
  have hlt := block_lt_of_cell h
  have e : W.heap.modify n (fun | .cells c elem frozen => .cells (if (none : Option (Nat × Nat)).isSome then c else c.setIfInBounds o v) elem frozen | o => o) = W.heap := by
    apply Array.ext_getElem?
    intro k
    rw [Array.getElem?_modify]
    split
    · rename_i hk
      subst hk
      simp only [World.cell?] at h
      cases hb : W.heap[n]? with
      | none => rfl
      | some ob =>
        rw [hb] at h
        cases ob with
        | cells c t fz =>
          simp at h
          simp
          apply Array.ext_getElem?
          intro j
          rw [Array.getElem?_setIfInBounds]
          split
          · rename_i hj
            subst hj
            rw [h]
            split
            · rfl
            · rename_i hh
              rw [Array.getElem?_eq_none (by omega)] at h
              cases h
          · rfl
        | _ => rfl
    · rfl
  cases W
  simp only [World.setCell] at e ⊢
  congr 1

set_option maxHeartbeats 4000000 in
set_option maxRecDepth 100000 in
theorem Has_any (f s : List UInt8) (w : World) (hl : f.length ≤ 9223372036854775807) (hs : s.length ≤ 9223372036854775807) :
    Calls Tryz.prog 35 #[.string (bstr f), .string (bstr s)] w fun e w' => e = .returned (.bool (hasF f s)) ∧ Below w.heap.size w w' := by
  obtain ⟨w0, hw0⟩ : ∃ w0, w0 = (w.alloc (.cells #[.string (bstr f)] 9)).alloc (.cells #[.bool false] 4) := ⟨_, rfl⟩
  have hb0 : Below w.heap.size w w0 := by rw [hw0]; exact ((Below.refl _ _).alloc (Nat.le_refl _) _).alloc (by simp) _
  have hf0 : w0.heap[w.heap.size]? = some (.cells #[.string (bstr f)] 9 (0, 0)) := by rw [hw0]; exact (Below.heap_alloc _ _ _ (by simp)).trans (heap_alloc_new w _)
  have hr0 : w0.heap[w.heap.size + 1]? = some (.cells #[.bool false] 4 (0, 0)) := by
    have := heap_alloc_new (w.alloc (.cells #[.string (bstr f)] 9)) (.cells #[.bool false] 4)
    rw [hw0]
    simpa using this
  have cf : w0.cell? ⟨w.heap.size, 0, none⟩ = some (.string (bstr f)) := (cells_block hf0).1 0
  have hck := Check_any f w0 hl
  refine calls_marks Tryz.func35 rfl ?_
  simp only [Tryz.ntmps35, List.size_toArray, List.length_cons, List.length_nil, Nat.reduceAdd, Nat.reduceSub, Array.replicate_succ, Array.replicate_zero, List.push_toArray, List.append_toArray, List.nil_append, List.cons_append]
  gi_wp2_with fail
  rw [← hw0]
  refine ⟨trivial, (callsIn_wide.2 hck).mono ?_⟩
  rintro e w1 ⟨rfl, rfl⟩
  clear hck hw0
  have fz : w1.frozen? ⟨w.heap.size + 1, 0, none⟩ = false := (cells_block hr0).2 0
  have cr : w1.cell? ⟨w.heap.size + 1, 0, none⟩ = some (.bool false) := (cells_block hr0).1 0
  cases hF : isF f with
  | false =>
    have e4 : ckE f = 4 := by unfold ckE; rw [hF]; rfl
    have ht : hasF f s = true := by unfold hasF; rw [hF]; rfl
    rw [e4]
    gi_wp2
    have hs1 := heap_set_same hr0 (o := 0) (.bool true)
    have hb1 : Below w.heap.size w (w1.setCell ⟨w.heap.size + 1, 0, none⟩ (.bool true)) := below_set0 hb0 (g := w.heap.size + 1) (o := 0) (by omega) (.bool true)
    generalize w1.setCell ⟨w.heap.size + 1, 0, none⟩ (.bool true) = w2 at *
    have c2 : w2.cell? ⟨w.heap.size + 1, 0, none⟩ = some (.bool true) := (cells_block hs1).1 0
    exact ⟨.bool true, by simp [results, Tryz.results35, go_sem, c2], by rw [ht], hb1⟩
  | true =>
    have e4 : ckE f = 0 := by unfold ckE; rw [hF]; rfl
    obtain ⟨k, l, rfl⟩ : ∃ k l, f = k :: l := by
      cases f with
      | nil => simp [isF] at hF
      | cons k l => exact ⟨k, l, rfl⟩
    have hkl : 1 ≤ k.toNat ∧ k.toNat ≤ 8 ∧ 8 ≤ l.length ∧ l.length ≤ 131072 := by
      unfold isF at hF
      have hg : (k :: l).getD 0 0 = k := rfl
      rw [hg] at hF
      simp at hF
      omega
    have hha : Hid (hasF (k :: l) s = (plcs s k.toNat (8 * l.length)).all fun p => hasB l p) := by show hasF (k :: l) s = _; unfold hasF; rw [hF]; rfl
    obtain ⟨hk1, hk8, hl8, hlm⟩ := hkl
    rw [e4]
    have hwl : IntKind.i64.wrap (l.length : Int) = (l.length : Int) := by rw [IntKind.wrap_i64]; omega
    gi_wp2_with fail
    have hblt := blk_lt hf0
    refine wpIn_wide.2 ?_
    go_region_held3 (fun w' => w'.cell? ⟨w.heap.size, 0, none⟩ = some (.string (bstr (k :: l)))) (first | with_reducible exact cf | with_reducible exact cf2 | go_keep) ((go_at_call 80; refine (places_any s k.toNat l.length _).mono ?_; rintro e wf ⟨rfl, hbx, hbf⟩; have cf2 : wf.cell? ⟨w.heap.size, 0, none⟩ = some (.string (bstr (k :: l))) := (cells_block ((hbf.block _ hblt).trans hf0)).1 0))
    gi_wp2
    clear cf cf2 fz cr
    refine wp_range2 (by omega) rfl (enters_of Tryz.func123 (by kernel_rfl) rfl) ?_
    intro RR hRR
    have hbf' : Below w1.heap.size w1 wf := ⟨hbf.os, hbf.tape, hbf.output, hbf.size, hbf.block⟩
    have hb01 := below2 hb0 hbf'
    have hbW : Below wf.heap.size wf ((wf.alloc (.deferred (some []))).alloc (.loop RR)) := ((Below.refl _ _).alloc (Nat.le_refl _) _).alloc (by simp) _
    have hW1 : ((wf.alloc (.deferred (some []))).alloc (.loop RR)).heap[wf.heap.size + 1]? = some (.loop RR) := by
      have := World.alloc_heap_new (wf.alloc (.deferred (some []))) (.loop RR)
      rwa [World.size_alloc] at this
    have hW2 : ((wf.alloc (.deferred (some []))).alloc (.loop RR)).heap[wf.heap.size]? = some (.deferred (some [])) := (Below.heap_alloc _ _ _ (by simp)).trans (World.alloc_heap_new wf _)
    obtain ⟨W1, hWW⟩ : ∃ W1, W1 = (wf.alloc (.deferred (some []))).alloc (.loop RR) := ⟨_, rfl⟩
    rw [← hWW] at hbW hW1 hW2 ⊢
    clear hWW
    have hsz := hbf'.size
    have hrlt := blk_lt hr0
    have hJ0 : HJ w w1.heap.size wf.heap.size RR (k :: l) s k.toNat l.length 0 W1 :=
      ⟨hbx.step hbW, (hbW.block _ (by omega)).trans ((hbf'.block _ hblt).trans hf0), (hbW.block _ (by omega)).trans ((hbf'.block _ hrlt).trans hr0), hW2, hW1, below2 hb01 hbW, fun i hi => absurd hi (Nat.not_lt_zero i)⟩
    have hpl := places1_any s k.toNat l.length w1.heap.size (wf.heap.size + 1) (HJ w w1.heap.size wf.heap.size RR (k :: l) s k.toNat l.length) (HX w wf.heap.size RR (k :: l) s k.toNat l.length) W1 hs hk8 (by omega) hlm (fun j W W' h hb => h.abd hb) (fun j W h => h.bx) ?_ hJ0
    · refine hpl.mono ?_
      have hws : w.heap.size + 1 ≠ wf.heap.size + 1 := by omega
      have hwd : w.heap.size + 1 ≠ wf.heap.size := by omega
      have hdd : wf.heap.size ≠ wf.heap.size + 1 := by omega
      have hleD : w.heap.size ≤ wf.heap.size := by omega
      clear hpl hJ0 hW1 hW2 hbW
      rintro e W2 ⟨⟨u, rfl⟩, hj | hj⟩
      · refine ⟨⟨_, rfl⟩, Or.inl ⟨hj.rc, ?_⟩⟩
        have hans : hasF (k :: l) s = true := by
          rw [hha.out, List.all_eq_true]
          intro p hp
          unfold plcs at hp
          obtain ⟨i, hi, rfl⟩ := List.mem_map.1 hp
          exact hj.al i (List.mem_range.1 hi)
        have hK : Below w.heap.size w (W2.putObj (wf.heap.size + 1) (.loop { RR with state := .exhausted })) := below_put hj.be (by omega) _
        have hr2 : (W2.putObj (wf.heap.size + 1) (.loop { RR with state := .exhausted })).heap[w.heap.size + 1]? = some (.cells #[.bool false] 4 (0, 0)) := (World.putObj_heap_other hws).trans hj.rb
        have hd2 : (W2.putObj (wf.heap.size + 1) (.loop { RR with state := .exhausted })).heap[wf.heap.size]? = some (.deferred (some [])) := (World.putObj_heap_other hdd).trans hj.df
        generalize W2.putObj (wf.heap.size + 1) (.loop { RR with state := .exhausted }) = W3 at *
        have fz : W3.frozen? ⟨w.heap.size + 1, 0, none⟩ = false := (cells_block hr2).2 0
        have cr : W3.cell? ⟨w.heap.size + 1, 0, none⟩ = some (.bool false) := (cells_block hr2).1 0
        gi_wp2
        have hs3 := heap_set_same hr2 (o := 0) (.bool true)
        have hK3 : Below w.heap.size w (W3.setCell ⟨w.heap.size + 1, 0, none⟩ (.bool true)) := below_set0 hK (g := w.heap.size + 1) (o := 0) (by omega) (.bool true)
        have hd3 : (W3.setCell ⟨w.heap.size + 1, 0, none⟩ (.bool true)).heap[wf.heap.size]? = some (.deferred (some [])) := (heap_set_other _ (Ne.symm hwd)).trans hd2
        generalize W3.setCell ⟨w.heap.size + 1, 0, none⟩ (.bool true) = W4 at *
        refine ⟨by simp, .inl ⟨_, _, rfl, run_takeDeferred hd3, ?_⟩⟩
        have c5 : (W4.putObj wf.heap.size (.deferred none)).cell? ⟨w.heap.size + 1, 0, none⟩ = some (.bool true) := by simp only [World.cell?, World.putObj_heap_other hwd, hs3]; rfl
        exact ⟨.bool true, by simp [results, Tryz.results35, go_sem, c5], by first | rfl | rw [hans], below_put hK3 hleD _⟩
      · refine ⟨⟨_, rfl⟩, Or.inr ⟨.ret, hj.rc, ?_⟩⟩
        have hans : hasF (k :: l) s = false := by
          obtain ⟨i, hi, hn⟩ := hj.no
          rw [hha.out, List.all_eq_false]
          refine ⟨plc s (8 * l.length) i, List.mem_map.2 ⟨i, List.mem_range.2 hi, rfl⟩, ?_⟩
          have hn2 : hasB l (plc s (8 * l.length) i) = false := hn
          rw [hn2]
          simp
        have hd2 : (W2.putObj (wf.heap.size + 1) (.loop { RR with state := .exhausted, pending := some .ret })).heap[wf.heap.size]? = some (.deferred (some [])) := (World.putObj_heap_other hdd).trans hj.df
        gi_wp2
        refine ⟨by simp, .inl ⟨_, _, rfl, run_takeDeferred hd2, ?_⟩⟩
        have c5 : ((W2.putObj (wf.heap.size + 1) (.loop { RR with state := .exhausted, pending := some .ret })).putObj wf.heap.size (.deferred none)).cell? ⟨w.heap.size + 1, 0, none⟩ = some (.bool false) := by simp only [World.cell?, World.putObj_heap_other hwd, World.putObj_heap_other hws, hj.rb]; rfl
        exact ⟨.bool false, by simp [results, Tryz.results35, go_sem, c5], by first | rfl | rw [hans], below_put (below_put hj.be (by omega) _) hleD _⟩
    · clear hJ0 hW1 hW2 hbW
      intro m j W hjk hj
      have key : ∀ RP : Ending → World → Prop, Hid (∀ W', HJ w w1.heap.size wf.heap.size RR (k :: l) s k.toNat l.length (j + 1) W' → RP (.returned (.bool true)) W') → Hid (∀ W', HX w wf.heap.size RR (k :: l) s k.toNat l.length W' → RP (.returned (.bool false)) W') → YieldAt Fence.wide m Tryz.prog (wf.heap.size + 1) (plA (plc s (8 * l.length) j)) W RP := by
        intro RP hT hX
        have eRR : ({ RR with state := .ready, pending := none } : Loop) = RR := by
          have e1 := hRR.s
          have e2 := hRR.e
          cases RR
          simp_all
        obtain ⟨A, V, N, hAl, hN, hN0, ep⟩ := has_facts k l s j (by omega)
        rw [ep]
        refine yield_round2 hj.rc hRR rfl ?_
        gi_wp2
        refine ⟨_, run_beginRound hj.rc hRR.s, ?_⟩
        have hne1 : w.heap.size ≠ wf.heap.size + 1 := by omega
        have hne2 : w.heap.size + 1 ≠ wf.heap.size + 1 := by omega
        have hne3 : wf.heap.size ≠ wf.heap.size + 1 := by omega
        have hlr := blk_lt hj.rc
        have hb1 : Below w.heap.size w (W.putObj (wf.heap.size + 1) (.loop { RR with state := .busy })) := below_put hj.be (by omega) _
        have hfb : (W.putObj (wf.heap.size + 1) (.loop { RR with state := .busy })).heap[w.heap.size]? = _ := (World.putObj_heap_other hne1).trans hj.fb
        have hrb : (W.putObj (wf.heap.size + 1) (.loop { RR with state := .busy })).heap[w.heap.size + 1]? = _ := (World.putObj_heap_other hne2).trans hj.rb
        have hdf : (W.putObj (wf.heap.size + 1) (.loop { RR with state := .busy })).heap[wf.heap.size]? = _ := (World.putObj_heap_other hne3).trans hj.df
        have hrc : (W.putObj (wf.heap.size + 1) (.loop { RR with state := .busy })).heap[wf.heap.size + 1]? = some (.loop { RR with state := .busy }) := World.putObj_heap_same hlr
        have hbx2 : Bx (W.putObj (wf.heap.size + 1) (.loop { RR with state := .busy })) w1.heap.size s k.toNat l.length := by
          have hblt := hj.bx.lt
          have hwl : w1.heap.size + 1 + 1 < wf.heap.size := hbx.lt
          exact ⟨(World.putObj_heap_other (by omega)).trans hj.bx.a, (World.putObj_heap_other (by omega)).trans hj.bx.r, (World.putObj_heap_other (by omega)).trans hj.bx.c⟩
        generalize W.putObj (wf.heap.size + 1) (.loop { RR with state := .busy }) = Wb at *
        have cf : Wb.cell? ⟨w.heap.size, 0, none⟩ = some (.string (bstr (k :: l))) := (cells_block hfb).1 0
        have cr : Wb.cell? ⟨w.heap.size + 1, 0, none⟩ = some (.bool false) := (cells_block hrb).1 0
        have fr : Wb.frozen? ⟨w.heap.size + 1, 0, none⟩ = false := (cells_block hrb).2 0
        have hst : Wb.setCell ⟨w.heap.size + 1, 0, none⟩ (.bool false) = Wb := setCell_noop cr
        have hAi : (A : Int) < (l.length : Int) + 1 := by rw [List.length_cons] at hAl; omega
        cases hb : hasB l (plc s (8 * l.length) j) with
        | true =>
          have hn1 : ¬ N = 0 := fun e => by rw [hN0.out.1 e] at hb; cases hb
          have hn2 : ¬ ((N : Int) = 0) := by omega
          gi_wp2
          refine ⟨_, _, run_endRound (r := { RR with state := .busy }) none hrc, ?_⟩
          have e5 : ({ state := if (none : Option Code).isNone = true then LoopState.ready else LoopState.done, pending := none, fn := RR.fn, tmps := RR.tmps, params := RR.params, assign := RR.assign, body := RR.body, defers := RR.defers } : Loop) = RR := eRR
          show RP _ (World.putObj _ _ (Obj.loop _))
          rw [e5]
          have hblt : w1.heap.size + 1 + 1 < wf.heap.size := hbx.lt
          refine hT.out _ ⟨⟨(World.putObj_heap_other (by omega)).trans hbx2.a, (World.putObj_heap_other (by omega)).trans hbx2.r, (World.putObj_heap_other (by omega)).trans hbx2.c⟩, (World.putObj_heap_other hne1).trans hfb, (World.putObj_heap_other hne2).trans hrb, (World.putObj_heap_other hne3).trans hdf, World.putObj_heap_same (blk_lt hrc), below_put hb1 (by omega) _, fun i hi => ?_⟩
          by_cases hij : i < j
          · exact hj.al i hij
          · obtain rfl : i = j := by omega
            exact hb
        | false =>
          obtain rfl : N = 0 := hN0.out.2 hb
          gi_wp2
          refine ⟨_, _, run_endRound (r := { RR with state := .busy }) (some .ret) hrc, ?_⟩
          exact hX.out _ ⟨(World.putObj_heap_other hne2).trans hrb, (World.putObj_heap_other hne3).trans hdf, World.putObj_heap_same (blk_lt hrc), below_put hb1 (by omega) _, j, hjk, hb⟩
      exact key _ (fun W' h => Or.inl ⟨rfl, h⟩) (fun W' h => Or.inr ⟨rfl, h⟩)

end Go.Proofs.YtmpnofbhbglfpaaGreatDoor.Bl

namespace Go.Proofs.YtmpnofbhbglfpaaGreatDoor.Bl
open Go.RowKit
attribute [local go_sem] Oper.semAt_some
attribute [local go_sem] size_bstr getElem_bstr toList_bstr

/-- Texts stand in a block from a place on. -/
def StrsAt (w : World) (g off : Nat) (ps : List (List UInt8)) : Prop := ∀ (j : Nat) (h : j < ps.length), w.cell? ⟨g, off + j, none⟩ = some (.string (bstr ps[j]))
/-- A slice of texts. -/
def SArg (w : World) (q : Option Addr) (g off : Nat) (ps : List (List UInt8)) : Prop := 0 < ps.length → q = some ⟨g, off, none⟩ ∧ StrsAt w g off ps ∧ g < w.heap.size
theorem StrsAt.block {w w' : World} {g off : Nat} {ps : List (List UInt8)} (h : StrsAt w g off ps) (hb : w'.heap[g]? = w.heap[g]?) : StrsAt w' g off ps := fun j hj => (World.cell?_of_block (a := ⟨g, off + j, none⟩) hb).trans (h j hj)
theorem SArg.below {w w' : World} {q : Option Addr} {g off : Nat} {ps : List (List UInt8)} (h : SArg w q g off ps) (hb : Below w.heap.size w w') : SArg w' q g off ps := fun h0 => by
  obtain ⟨a, b, c⟩ := h h0
  exact ⟨a, b.block (hb.block g c), Nat.lt_of_lt_of_le c hb.size⟩

/-- A block of bytes. -/
abbrev bCells (L : List UInt8) : Obj := .cells (Lib.byteCells L).toArray 5 (0, 0)
theorem orB_set {L : List UInt8} {p : Nat} (h : p / 8 < L.length) : orB L p = L.set (p / 8) (L[p / 8] ||| bitV p) := by
  unfold orB
  apply List.ext_getElem (by simp)
  intro i h1 h2
  rw [List.getElem_modify, List.getElem_set]
  by_cases e : p / 8 = i
  · subst e; simp
  · simp [e]
theorem or_cells (kb : UInt8) {L : List UInt8} {p : Nat} (h : p / 8 < L.length) : (Lib.byteCells (kb :: L)).toArray.setIfInBounds (1 + p / 8) (.int .u8 (((L[p / 8] ||| bitV p).toNat : Nat) : Int)) = (Lib.byteCells (kb :: orB L p)).toArray := by
  rw [orB_set h, Nat.add_comm 1]
  simp [Lib.byteCells, List.map_set]
/-- What a round of Make meets. -/
theorem make_facts (kb : UInt8) (L s : List UInt8) (z j : Nat) (hz : L.length = z) (hz0 : 0 < z) : ∃ A V X Y : Nat, A < z + 1 ∧ ((Lib.byteCells (kb :: L)).toArray)[A]? = some (.int .u8 (X : Int)) ∧ bits .or .u8 (X : Int) (V : Int) = (Y : Int) ∧
    (Lib.byteCells (kb :: L)).toArray.setIfInBounds A (.int .u8 (Y : Int)) = (Lib.byteCells (kb :: orB L (plc s (8 * z) j))).toArray ∧ plA (plc s (8 * z) j) = #[.int .i64 (A : Int), .int .u8 (V : Int)] := by
  have hp := plc_lt s (m := 8 * z) (by omega) j
  generalize plc s (8 * z) j = p at *
  have hd : p / 8 < L.length := by omega
  refine ⟨1 + p / 8, 2 ^ (p % 8), (L[p / 8]).toNat, (L[p / 8] ||| bitV p).toNat, by omega, ?_, ?_, or_cells kb hd, rfl⟩
  · rw [Nat.add_comm 1]
    simp [Lib.byteCells, hd]
  · have hV : 2 ^ (p % 8) < 256 := by
      have hr : p % 8 < 8 := Nat.mod_lt _ (by decide)
      generalize p % 8 = r at *
      have : ∀ r, r < 8 → 2 ^ r < 256 := by decide
      exact this r hr
    rw [u8_or_nat _ _ (L[p / 8]).toNat_lt hV, UInt8.toNat_or, bitV_nat]

/-- What the rounds of Make keep: w.heap.size: the filter's bytes, then the filter's box; b: the iterator's; D: the loop's; Ds: the marks of those before. -/
structure MJ (w : World) (b D : Nat) (RR : Loop) (Ds : List Nat) (kb : UInt8) (body s : List UInt8) (k z N j : Nat) (W : World) : Prop where
  bx : Bx W b s k z
  bo : W.heap[w.heap.size + 1]? = some (.cells #[.slice (some ⟨w.heap.size, 0, none⟩) N N] 88 (0, 0))
  fl : W.heap[w.heap.size]? = some (bCells (kb :: orL body (plcs s j (8 * z))))
  df : W.heap[D]? = some (.deferred (some []))
  rc : W.heap[D + 1]? = some (.loop RR)
  be : Below w.heap.size w W
  ms : ∀ d ∈ Ds, W.heap[d]? = some (.deferred (some []))
theorem MJ.abd {w : World} {b D : Nat} {RR : Loop} {Ds : List Nat} {kb : UInt8} {body s : List UInt8} {k z N j : Nat} {W W' : World} (h : MJ w b D RR Ds kb body s k z N j W) (hb : Below W.heap.size W W') : MJ w b D RR Ds kb body s k z N j W' :=
  ⟨h.bx.step hb, (hb.block _ (blk_lt h.bo)).trans h.bo, (hb.block _ (blk_lt h.fl)).trans h.fl, (hb.block _ (blk_lt h.df)).trans h.df, (hb.block _ (blk_lt h.rc)).trans h.rc, below2 h.be hb, fun d hd => (hb.block _ (blk_lt (h.ms d hd))).trans (h.ms d hd)⟩

/-- The marks of loops that are through. -/
abbrev mrk (D : Nat) : Deferred := { target := .collected D, args := #[] }
theorem leaves_marks {P : Program} {fn : Func} {tmps : Array Value} {R : Ending → World → Prop} {n B : Nat} {w : World} {v : Value} (hres : ∀ w, (results fn tmps).run P w = .ok v w) (hR : ∀ W', Below B w W' → R (.returned v) W') :
    ∀ (Ds : List Nat) (W : World), Ds.Nodup → (∀ d ∈ Ds, B ≤ d ∧ W.heap[d]? = some (.deferred (some []))) → Below B w W → LeavesInM Fence.wide n P fn tmps R (Ds.map mrk) .returning W := by
  intro Ds
  induction Ds with
  | nil =>
    intro W _ _ hb
    exact ⟨v, hres W, hR W hb⟩
  | cons d Ds ih =>
    intro W hn hd hb
    obtain ⟨h1, h2⟩ := hd d List.mem_cons_self
    rw [List.nodup_cons] at hn
    refine ⟨by simp, Or.inl ⟨d, _, rfl, run_takeDeferred h2, ih _ hn.2 (fun x hx => ?_) (below_put hb h1 _)⟩⟩
    obtain ⟨h3, h4⟩ := hd x (List.mem_cons_of_mem _ hx)
    have hne : x ≠ d := fun e => hn.1 (e ▸ hx)
    exact ⟨h3, (World.putObj_heap_other hne).trans h4⟩

/-- What is there ahead of a key. -/
structure LI (w : World) (z N : Nat) (kb : UInt8) (ps : List Nat) (Ds : List Nat) (W : World) : Prop where
  bo : W.heap[w.heap.size + 1]? = some (.cells #[.slice (some ⟨w.heap.size, 0, none⟩) N N] 88 (0, 0))
  fl : W.heap[w.heap.size]? = some (bCells (kb :: orL (zeros z) ps))
  be : Below w.heap.size w W
  ms : ∀ d ∈ Ds, w.heap.size + 2 ≤ d ∧ W.heap[d]? = some (.deferred (some []))
  nd : Ds.Nodup

/-- The loop of Make, m keys ahead of its end. -/
def MI (w : World) (q : Option Addr) (cap : Nat) (ks : List (List UInt8)) (z N k : Nat) (kb : UInt8) (m : Nat) (a : Act) (W : World) : Prop := ∃ (i : Nat) (Ds : List Nat) (u1 u2 u3 u4 u5 u8 u9 u10 u11 u12 u13 u14 u15 u16 u17 u18 u19 u20 u21 u22 u23 u24 u25 u26 u27 u28 u29 u30 u31 u32 u33 u34 u35 u36 u37 u38 u39 u40 u43 u44 u45 u46 u47 u48 u49 u50 u51 u52 u53 u54 u55 u56 u57 u58 u59 u60 u61 u62 u63 u64 : Value), a = { tmps := #[.slice q ks.length cap, u1, u2, u3, u4, u5, .int .i64 (z : Int), .pointer (some ⟨w.heap.size + 1, 0, none⟩), u8, u9, u10, u11, u12, u13, u14, u15, u16, u17, u18, u19, u20, u21, u22, u23, u24, u25, u26, u27, u28, u29, u30, u31, u32, u33, u34, u35, u36, u37, u38, u39, u40, .slice q ks.length cap, .int .i64 (ks.length : Int), u43, u44, u45, u46, u47, u48, u49, u50, u51, u52, u53, u54, u55, u56, u57, u58, u59, u60, u61, u62, u63, u64], defers := Ds.map mrk } ∧ u43 = .int .i64 (i : Int) ∧ i + m = ks.length ∧ LI w z N kb (allP (ks.take i) k (8 * z)) Ds W

/-- The numbers with which Make begins. -/
theorem make_nums (b n : Nat) (hb1 : 1 ≤ b) (hb : b ≤ 32) (hn : n ≤ 32768) : ∃ P1 P2 P3 N E1 E2 E3 : Nat, wrap64 ((b : Int) * (n : Int)) = (P1 : Int) ∧ wrap64 ((P1 : Int) + 7) = (P2 : Int) ∧ wrap64 ((P2 : Int) / 8) = (P3 : Int) ∧ max (P3 : Int) 8 = (szz b n : Int) ∧ wrap64 (1 + (szz b n : Int)) = (N : Int) ∧ N = szz b n + 1 ∧
    wrap64 ((b : Int) * 69) = (E1 : Int) ∧ wrap64 ((E1 : Int) / 100) = (E2 : Int) ∧ max (E2 : Int) 1 = (E3 : Int) ∧ min (E3 : Int) 8 = (kk b : Int) ∧ IntKind.u8.wrap (kk b : Int) = (kk b : Int) := by
  have h1 : b * n ≤ 32 * 32768 := Nat.mul_le_mul hb hn
  have hk := kk_le b
  refine ⟨b * n, b * n + 7, (b * n + 7) / 8, szz b n + 1, b * 69, b * 69 / 100, max (b * 69 / 100) 1, ?_, ?_, ?_, ?_, ?_, rfl, ?_, ?_, ?_, ?_, ?_⟩
  · rw [← Int.natCast_mul]
    generalize b * n = m at *
    unfold wrap64; omega
  · generalize b * n = m at *
    unfold wrap64; omega
  · generalize b * n = m at *
    unfold wrap64; omega
  · unfold szz
    generalize b * n = m at *
    omega
  · have := szz_le hb hn
    generalize szz b n = m at *
    unfold wrap64; omega
  · unfold wrap64; omega
  · unfold wrap64; omega
  · omega
  · unfold kk; omega
  · rw [IntKind.wrap_u8']; omega

theorem zs_set {N z : Nat} (hN : N = z + 1) (v : Value) : (zs N).setIfInBounds 0 v = (v :: Lib.byteCells (zeros z)).toArray := by
  apply Array.toList_inj.1
  rw [Array.toList_setIfInBounds, zs_toList, hN]
  rfl

set_option maxHeartbeats 4000000 in
set_option maxRecDepth 100000 in
theorem Make_ok (q : Option Addr) (gb off cap : Nat) (ks : List (List UInt8)) (b : Nat) (w : World) (hq : SArg w q gb off ks) (hb1 : 1 ≤ b) (hb : b ≤ 32) (hn : ks.length ≤ 32768) (hkl : ∀ s ∈ ks, s.length ≤ 9223372036854775807) :
    Calls Tryz.prog 58 #[.slice q ks.length cap, .int .i64 (b : Int)] w fun e w' => e = .returned (.tuple #[.string (bstr (mkF ks b)), .int .i64 0]) ∧ Below w.heap.size w w' := by
  obtain ⟨P1, P2, P3, N, E1, E2, E3, n1, n2, n3, n4, n5, hN, n6, n7, n8, n9, n10⟩ := make_nums b ks.length hb1 hb hn
  have hzp := szz_pos b ks.length
  have hzl := szz_le hb hn
  have hk1 := kk_pos b
  have hk8 := kk_le b
  have HM : Hid (mkF ks b = UInt8.ofNat (kk b) :: bodF ks (kk b) (szz b ks.length)) := rfl
  have HKN : Hid ((UInt8.ofNat (kk b)).toNat = kk b) := kk_nat b
  have hmr : ∀ W : World, (Instr.makeSlice 88 (.int .i64 (1 + (szz b ks.length : Int))) (.int .i64 (1 + (szz b ks.length : Int)))).run Tryz.prog W = .ok (.slice (some ⟨W.heap.size, 0, none⟩) N N) (W.alloc (.cells (zs N) 5)) := fun W => by
    rw [show (1 + (szz b ks.length : Int)) = (N : Int) by omega]
    exact make_run .i64 N (by omega) W
  generalize hz : szz b ks.length = z at *
  generalize hk : kk b = k at *
  have g1 : ¬ ((b : Int) < 1) := by omega
  have g2 : ¬ ((32 : Int) < (b : Int)) := by omega
  have g3 : ¬ ((32768 : Int) < (ks.length : Int)) := by omega
  have hN0 : 0 < N := by omega
  have hZ0 : (zs N)[0]? = some (.int .u8 0) := by rw [← Array.getElem?_toList, zs_toList, hN]; rfl
  have HZ : Hid (∀ v, (zs N).setIfInBounds 0 v = (v :: Lib.byteCells (zeros z)).toArray) := zs_set hN
  have HN : Hid _ := hN
  clear hN hz hk
  generalize zs N = Z at *
  refine calls_marks Tryz.func58 rfl ?_
  simp only [Tryz.ntmps58, List.size_toArray, List.length_cons, List.length_nil, Nat.reduceAdd, Nat.reduceSub, Array.replicate_succ, Array.replicate_zero, List.push_toArray, List.append_toArray, List.nil_append, List.cons_append]
  gi_wp2_with fail
  have ek : min (max ((b : Int) * 69 / 100) 1) 8 = (k : Int) := by
    have e6 : (b : Int) * 69 = (E1 : Int) := by rw [← n6]; unfold wrap64; omega
    have e7 : (E1 : Int) / 100 = (E2 : Int) := by rw [← n7]; unfold wrap64; omega
    rw [e6, e7, n8, n9]
  rw [ek]
  obtain ⟨W0, hW0⟩ : ∃ W0, W0 = (w.alloc (.cells (Z.setIfInBounds 0 (.int .u8 (k : Int))) 5)).alloc (.cells #[.slice (some ⟨w.heap.size, 0, none⟩) N N] 88) := ⟨_, rfl⟩
  rw [← hW0]
  obtain ⟨kb, hkb⟩ : ∃ kb, kb = UInt8.ofNat k := ⟨_, rfl⟩
  have hkn : kb.toNat = k := by rw [hkb]; exact HKN.out
  have HKB : Hid _ := hkb
  clear hkb
  have hI0 : LI w z N kb (allP (ks.take 0) k (8 * z)) [] W0 := by
    refine ⟨?_, ?_, ?_, ?_, List.nodup_nil⟩
    · rw [hW0]
      have := heap_alloc_new (w.alloc (.cells (Z.setIfInBounds 0 (.int .u8 (k : Int))) 5)) (.cells #[.slice (some ⟨w.heap.size, 0, none⟩) N N] 88)
      simpa using this
    · rw [hW0]
      refine (Below.heap_alloc _ _ _ (by simp)).trans ((heap_alloc_new w _).trans ?_)
      rw [HZ.out, ← hkn]
      rfl
    · rw [hW0]; exact ((Below.refl _ _).alloc (Nat.le_refl _) _).alloc (by simp) _
    · intro d hd; cases hd
  clear hW0 hmr hZ0 HZ ek n1 n2 n3 n4 n5 n6 n7 n8 n9 n10 hN0
  refine wpIn_loop_n (MI w q cap ks z N k kb) ks.length ?start ?round
  case start => exact ⟨0, [], _, _, _, _, _, _, _, _, _, _, _, _, _, _, _, _, _, _, _, _, _, _, _, _, _, _, _, _, _, _, _, _, _, _, _, _, _, _, _, _, _, _, _, _, _, _, _, _, _, _, _, _, _, _, _, _, _, _, _, _, rfl, rfl, by omega, hI0⟩
  case round =>
    clear hI0
    rintro m a W ⟨i, Ds, u1, u2, u3, u4, u5, u8, u9, u10, u11, u12, u13, u14, u15, u16, u17, u18, u19, u20, u21, u22, u23, u24, u25, u26, u27, u28, u29, u30, u31, u32, u33, u34, u35, u36, u37, u38, u39, u40, u43, u44, u45, u46, u47, u48, u49, u50, u51, u52, u53, u54, u55, u56, u57, u58, u59, u60, u61, u62, u63, u64, rfl, rfl, him, hI⟩
    have cb : W.cell? ⟨w.heap.size + 1, 0, none⟩ = some (.slice (some ⟨w.heap.size, 0, none⟩) N N) := (cells_block hI.bo).1 0
    cases m with
    | zero =>
      have hil : i = ks.length := by omega
      have hfin : kb :: orL (zeros z) (allP (ks.take i) k (8 * z)) = mkF ks b := by rw [HM.out, HKB.out, hil, List.take_length]; rfl
      have hfl := hI.fl
      rw [hfin] at hfl
      have hlen : (mkF ks b).length = N := by rw [← hfin, List.length_cons, orL_length, zeros_length, HN.out]
      have hown : W.ownsRow w.heap.size 5 1 (.slice (some ⟨w.heap.size, 0, none⟩) N N) N (Lib.byteCells (mkF ks b)) := by
        refine ⟨by rw [Lib.byteCells_length, hlen]; omega, .inr ⟨w.heap.size, N, _, rfl, Nat.le_refl _, hfl, Nat.le_refl _, by have := HN.out; unfold maxLen; omega, by rw [List.size_toArray, Lib.byteCells_length, hlen]; omega, ?_⟩⟩
        rw [List.take_of_length_le (by rw [Lib.byteCells_length, hlen]; omega)]
      have hcv := run_convert_own (P := Tryz.prog) hown Tryz.underlying88 Tryz.underlying5 Tryz.underlying9
      have hge : ¬ ((i : Int) < (ks.length : Int)) := by omega
      obtain ⟨FF, hFF⟩ : ∃ FF, FF = mkF ks b := ⟨_, rfl⟩
      rw [← hFF] at hcv
      have HFF : Hid _ := hFF
      clear hFF
      clear hfl hown hlen hfin hil
      gi_wp2
      exact leaves_marks (w := w) (B := w.heap.size) (v := .tuple #[.string (bstr FF), .int .i64 0]) (fun w => by simp [results, Tryz.results58, go_sem]) (fun W' h => ⟨by rw [HFF.out], h⟩) Ds W hI.nd (fun d hd => ⟨by have := (hI.ms d hd).1; omega, (hI.ms d hd).2⟩) hI.be
    | succ m =>
      have hlt : i < ks.length := by omega
      obtain ⟨rfl, hst, hgb⟩ := hq (by omega)
      have hW := hI.be
      have cs : W.cell? ⟨gb, off + i, none⟩ = some (.string (bstr ks[i])) := (hst.block (hW.block gb hgb)) i hlt
      have ckb : W.cell? ⟨w.heap.size, 0, none⟩ = some (.int .u8 (k : Int)) := by
        rw [(cells_block hI.fl).1 0, ← hkn]
        rfl
      have hsl : ks[i].length ≤ 9223372036854775807 := hkl _ (List.getElem_mem hlt)
      have HAP : Hid _ := allP_succ hlt k (8 * z)
      have hgo : (i : Int) < (ks.length : Int) := by omega
      have hpa := places_any ks[i] k z W
      have hN0 : 0 < N := by have := HN.out; omega
      have hlt2 := blk_lt hI.bo
      have hlt3 := blk_lt hI.fl
      generalize ks[i] = s at *
      clear hst
      gi_wp2_with fail
      refine ⟨trivial, (callsIn_wide.2 hpa).mono ?_⟩
      rintro e wf ⟨rfl, hbx, hbf⟩
      clear hpa cs ckb cb
      gi_wp2
      refine wp_range2 (by omega) rfl (enters_of Tryz.func123 (by kernel_rfl) rfl) ?_
      intro RR hRR
      have hbW : Below wf.heap.size wf ((wf.alloc (.deferred (some []))).alloc (.loop RR)) := ((Below.refl _ _).alloc (Nat.le_refl _) _).alloc (by simp) _
      have hW1 : ((wf.alloc (.deferred (some []))).alloc (.loop RR)).heap[wf.heap.size + 1]? = some (.loop RR) := by
        have := World.alloc_heap_new (wf.alloc (.deferred (some []))) (.loop RR)
        rwa [World.size_alloc] at this
      have hW2 : ((wf.alloc (.deferred (some []))).alloc (.loop RR)).heap[wf.heap.size]? = some (.deferred (some [])) := (Below.heap_alloc _ _ _ (by simp)).trans (World.alloc_heap_new wf _)
      obtain ⟨W1, hWW⟩ : ∃ W1, W1 = (wf.alloc (.deferred (some []))).alloc (.loop RR) := ⟨_, rfl⟩
      rw [← hWW] at hbW hW1 hW2 ⊢
      clear hWW
      have hb2 : Below W.heap.size W W1 := below2 hbf hbW
      have hsz := hbf.size
      obtain ⟨body, hbody⟩ : ∃ body, body = orL (zeros z) (allP (ks.take i) k (8 * z)) := ⟨_, rfl⟩
      have hbl : body.length = z := by rw [hbody, orL_length, zeros_length]
      have hJ0 : MJ w W.heap.size wf.heap.size RR Ds kb body s k z N 0 W1 := by
        refine ⟨hbx.step hbW, (hb2.block _ hlt2).trans hI.bo, ?_, hW2, hW1, below2 hI.be hb2, fun d hd => (hb2.block _ (blk_lt (hI.ms d hd).2)).trans (hI.ms d hd).2⟩
        rw [hb2.block _ hlt3, hI.fl, hbody]
        rfl
      have hds : ∀ d ∈ Ds, w.heap.size + 2 ≤ d ∧ d < W.heap.size := fun d hd => ⟨(hI.ms d hd).1, blk_lt (hI.ms d hd).2⟩
      have hpl := places1_any s k z W.heap.size (wf.heap.size + 1) (MJ w W.heap.size wf.heap.size RR Ds kb body s k z N) (fun _ => False) W1 hsl hk8 (by omega) hzl (fun j W W' h hb => h.abd hb) (fun j W h => h.bx) ?_ hJ0
      · refine hpl.mono ?_
        clear hpl hJ0 hW1 hW2 hbW hb2
        rintro e W2 ⟨⟨u, rfl⟩, hj | hj⟩
        · refine ⟨⟨_, rfl⟩, Or.inl ⟨hj.rc, ?_⟩⟩
          have hI2 : LI w z N kb (allP (ks.take (i + 1)) k (8 * z)) (wf.heap.size :: Ds) (W2.putObj (wf.heap.size + 1) (.loop { RR with state := .exhausted })) := by
            refine ⟨(World.putObj_heap_other (by omega)).trans hj.bo, ?_, below_put hj.be (by omega) _, ?_, ?_⟩
            · rw [World.putObj_heap_other (by omega), hj.fl, HAP.out, orL_append, hbody]
            · intro d hd
              rcases List.mem_cons.1 hd with rfl | hd
              · exact ⟨by omega, (World.putObj_heap_other (by omega)).trans hj.df⟩
              · have := hds d hd
                exact ⟨this.1, (World.putObj_heap_other (by omega)).trans (hj.ms d hd)⟩
            · refine List.nodup_cons.2 ⟨fun hm => ?_, hI.nd⟩
              have := hds _ hm
              omega
          generalize W2.putObj (wf.heap.size + 1) (.loop { RR with state := .exhausted }) = W3 at *
          gi_wp2
          unfold MI
          exact ⟨i + 1, wf.heap.size :: Ds, _, _, _, _, _, _, _, _, _, _, _, _, _, _, _, _, _, _, _, _, _, _, _, _, _, _, _, _, _, _, _, _, _, _, _, _, _, _, _, _, _, _, _, _, _, _, _, _, _, _, _, _, _, _, _, _, _, _, _, _, rfl, by go_num, by omega, hI2⟩
        · exact hj.elim
      · clear hJ0 hW1 hW2 hbW hb2
        have hlb := hbx.lt
        intro m j W2 hjk hj
        have key : ∀ RP : Ending → World → Prop, Hid (∀ W', MJ w W.heap.size wf.heap.size RR Ds kb body s k z N (j + 1) W' → RP (.returned (.bool true)) W') → YieldAt Fence.wide m Tryz.prog (wf.heap.size + 1) (plA (plc s (8 * z) j)) W2 RP := by
          intro RP hT
          have eRR : ({ RR with state := .ready, pending := none } : Loop) = RR := by
            have e1 := hRR.s
            have e2 := hRR.e
            cases RR
            simp_all
          have hll : (orL body (plcs s j (8 * z))).length = z := by rw [orL_length, hbl]
          obtain ⟨A, V, X, Y, hAz, hX, hor, hset, ep⟩ := make_facts kb (orL body (plcs s j (8 * z))) s z j hll (by omega)
          rw [ep]
          refine yield_round2 hj.rc hRR rfl ?_
          gi_wp2
          refine ⟨_, run_beginRound hj.rc hRR.s, ?_⟩
          have hlr := blk_lt hj.rc
          have hne1 : w.heap.size ≠ wf.heap.size + 1 := by omega
          have hne2 : w.heap.size + 1 ≠ wf.heap.size + 1 := by omega
          have hb1 : Below w.heap.size w (W2.putObj (wf.heap.size + 1) (.loop { RR with state := .busy })) := below_put hj.be (by omega) _
          have hbo : (W2.putObj (wf.heap.size + 1) (.loop { RR with state := .busy })).heap[w.heap.size + 1]? = _ := (World.putObj_heap_other hne2).trans hj.bo
          have hfl : (W2.putObj (wf.heap.size + 1) (.loop { RR with state := .busy })).heap[w.heap.size]? = _ := (World.putObj_heap_other hne1).trans hj.fl
          have hrc : (W2.putObj (wf.heap.size + 1) (.loop { RR with state := .busy })).heap[wf.heap.size + 1]? = some (.loop { RR with state := .busy }) := World.putObj_heap_same hlr
          have hoth : ∀ x, x ≠ wf.heap.size + 1 → (W2.putObj (wf.heap.size + 1) (.loop { RR with state := .busy })).heap[x]? = W2.heap[x]? := fun x hx => World.putObj_heap_other hx
          generalize W2.putObj (wf.heap.size + 1) (.loop { RR with state := .busy }) = Wb at *
          have cb : Wb.cell? ⟨w.heap.size + 1, 0, none⟩ = some (.slice (some ⟨w.heap.size, 0, none⟩) N N) := (cells_block hbo).1 0
          have cx : Wb.cell? ⟨w.heap.size, A, none⟩ = some (.int .u8 (X : Int)) := ((cells_block hfl).1 A).trans hX
          have fx : Wb.frozen? ⟨w.heap.size, A, none⟩ = false := (cells_block hfl).2 A
          have hAN : (A : Int) < (N : Int) := by have := HN.out; omega
          have hset2 := heap_set_same hfl (o := A) (.int .u8 (Y : Int))
          rw [hset] at hset2
          have HSET : Hid _ := hset2
          have HFL : Hid _ := hfl
          clear hset hset2 hX hfl hAz
          gi_wp2
          have hrc4 : (Wb.setCell ⟨w.heap.size, A, none⟩ (.int .u8 (Y : Int))).heap[wf.heap.size + 1]? = some (.loop { RR with state := .busy }) := (heap_set_other _ (Ne.symm hne1)).trans hrc
          refine ⟨_, _, run_endRound (r := { RR with state := .busy }) none hrc4, ?_⟩
          have e5 : ({ state := if (none : Option Code).isNone = true then LoopState.ready else LoopState.done, pending := none, fn := RR.fn, tmps := RR.tmps, params := RR.params, assign := RR.assign, body := RR.body, defers := RR.defers } : Loop) = RR := eRR
          show RP _ (World.putObj _ _ (Obj.loop _))
          rw [e5]
          have hoth2 : ∀ x, x ≠ wf.heap.size + 1 → x ≠ w.heap.size → ((Wb.setCell ⟨w.heap.size, A, none⟩ (.int .u8 (Y : Int))).putObj (wf.heap.size + 1) (.loop RR)).heap[x]? = W2.heap[x]? := fun x h1 h2 => (World.putObj_heap_other h1).trans ((heap_set_other _ h2).trans (hoth x h1))
          refine hT.out _ ⟨⟨(hoth2 _ (by omega) (by omega)).trans hj.bx.a, (hoth2 _ (by omega) (by omega)).trans hj.bx.r, (hoth2 _ (by omega) (by omega)).trans hj.bx.c⟩, (hoth2 _ hne2 (by omega)).trans hj.bo, ?_, (hoth2 _ (by omega) (by omega)).trans hj.df, World.putObj_heap_same (blk_lt hrc4), below_put (below_set0 hb1 (Nat.le_refl _) _) (by omega) _, fun d hd => (hoth2 d (by have := hds d hd; omega) (by have := hds d hd; omega)).trans (hj.ms d hd)⟩
          rw [World.putObj_heap_other hne1, HSET.out, plcs_succ, orL_append]
          rfl
        exact key _ (fun W' h => Or.inl ⟨rfl, h⟩)

end Go.Proofs.YtmpnofbhbglfpaaGreatDoor.Bl
