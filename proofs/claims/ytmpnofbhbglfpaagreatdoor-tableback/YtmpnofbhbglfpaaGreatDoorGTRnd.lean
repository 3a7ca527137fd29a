/-
  The blocks that are read of bodies, told one by one.
  strings.Builder once more: what is written to touches its own two blocks alone; lay, the closure that lays a frame.
  A drawn region inside a round of a range, its cells held: what calls nothing and defers nothing goes there as it goes outside.
-/
import Derived.Test.YtmpnofbhbglfpaaGreatDoorGTTel
import Derived.Test.YtmpnofbhbglfpaaGreatDoorGERd
import Derived.Sort.BigQuietIn
namespace Go.Proofs.YtmpnofbhbglfpaaGreatDoor
open Go.RowKit Go.BigFrame Go.Sort
attribute [local go_sem] Oper.semAt_some
attribute [local go_sem] size_bstr getElem_bstr toList_bstr append_bstr

/-- The cells of a cell's block. -/
def clC (c : Cl) : Array Value := #[.string (bstr c.row), .string (bstr c.col), .int .u64 c.ver, .bool c.gone, .string (bstr c.val)]
theorem own_cblk {w : World} {B n g cap m : Nat} {v : Value} {xs : List Value} (h : w.ownsRow B 39 5 v n xs) (hv : v = .slice (some ⟨g, 0, none⟩) m cap) : CBlk w g := by
  subst hv
  rcases h.2 with ⟨h0, _⟩ | ⟨g', cap', cur, hv, _, hg, _⟩
  · cases h0
  · cases hv
    exact ⟨cur, _, hg⟩
theorem good_len {L : List Cl} (h : Good L) : L.length ≤ 32768 := by
  have h1 := body_many L h.ok
  have h2 := h.len
  rw [blkB_len] at h2
  omega
theorem cells5 {w : World} {b : Nat} {c : Cl} {t : TypeId} (h : w.heap[b]? = some (.cells (clC c) t (0, 0))) : w.cell? ⟨b, 0, none⟩ = some (.string (bstr c.row)) ∧ w.cell? ⟨b, 1, none⟩ = some (.string (bstr c.col)) ∧ w.cell? ⟨b, 2, none⟩ = some (.int .u64 c.ver) ∧ w.cell? ⟨b, 3, none⟩ = some (.bool c.gone) ∧ w.cell? ⟨b, 4, none⟩ = some (.string (bstr c.val)) :=
  ⟨(Bl.cells_block h).1 0, (Bl.cells_block h).1 1, (Bl.cells_block h).1 2, (Bl.cells_block h).1 3, (Bl.cells_block h).1 4⟩
theorem froz5 {w : World} {b : Nat} {cs : Array Value} {t : TypeId} (h : w.heap[b]? = some (.cells cs t (0, 0))) : w.frozen? ⟨b, 0, none⟩ = false ∧ w.frozen? ⟨b, 1, none⟩ = false ∧ w.frozen? ⟨b, 2, none⟩ = false ∧ w.frozen? ⟨b, 3, none⟩ = false ∧ w.frozen? ⟨b, 4, none⟩ = false :=
  ⟨(Bl.cells_block h).2 0, (Bl.cells_block h).2 1, (Bl.cells_block h).2 2, (Bl.cells_block h).2 3, (Bl.cells_block h).2 4⟩
/-- A cell is stored into a block of its own. -/
def set5W (w : World) (b : Nat) (d : Cl) : World := ((((w.setCell ⟨b, 0, none⟩ (.string (bstr d.row))).setCell ⟨b, 1, none⟩ (.string (bstr d.col))).setCell ⟨b, 2, none⟩ (.int .u64 d.ver)).setCell ⟨b, 3, none⟩ (.bool d.gone)).setCell ⟨b, 4, none⟩ (.string (bstr d.val))
theorem set5_heap {w : World} {b : Nat} {c : Cl} {t : TypeId} (h : w.heap[b]? = some (.cells (clC c) t (0, 0))) (d : Cl) : (set5W w b d).heap[b]? = some (.cells (clC d) t (0, 0)) :=
  heap_set_same (heap_set_same (heap_set_same (heap_set_same (heap_set_same h _) _) _) _) _
theorem set5_kp (w : World) (b : Nat) (d : Cl) : Kp w (set5W w b d) (fun i => i = b) :=
  (((((Kp.refl w (fun i => i = b)).setCell _ (Or.inl rfl)).setCell _ (Or.inl rfl)).setCell _ (Or.inl rfl)).setCell _ (Or.inl rfl)).setCell _ (Or.inl rfl)
/-- What read has captured. -/
structure RBx (w : World) (b : Nat) (v : Value) : Prop where
  l : w.heap[b]? = some (.cells #[v] 65 (0, 0))
theorem RBx.below {w w' : World} {b : Nat} {v : Value} (h : RBx w b v) {B : Nat} (hb : Below B w w') (hB : b < B) : RBx w' b v := ⟨(hb.block _ hB).trans h.l⟩
theorem RBx.c0 {w : World} {b : Nat} {v : Value} (h : RBx w b v) : w.cell? ⟨b, 0, none⟩ = some v := (Bl.cells_block h.l).1 0

set_option maxHeartbeats 1000000 in
theorem tread_any (q : Option Addr) (n cap : Nat) (w : World) :
    Calls Tryz.prog 32 #[.slice q n cap] w fun e w' => e = .returned (.func (.func 72) #[] #[.pointer (some ⟨w.heap.size, 0, none⟩)]) ∧ RBx w' w.heap.size (.slice q n cap) ∧ w.heap.size < w'.heap.size ∧ Below w.heap.size w w' := by
  have hmf : ∀ (fn : Fn) (first cap : Array Value) (w : World), (Instr.makeFunc fn first cap).run Tryz.prog w = .ok (.func fn first cap) w := fun _ _ _ _ => rfl
  go_enter Tryz.func32, Tryz.ntmps32
  go_wp2
  go_ret
  exact ⟨rfl, ⟨heap_alloc_new w _⟩, by simp, (Below.refl _ _).alloc (Nat.le_refl _) _⟩

/-- As Tells; what is asked of the memory is K; and the cells that are told of a block are new since the one who is told was last known to be as it was. -/
def TellsK (gf : Nat) (caps : Array Value) (Bs : List (List Cl)) (K : World → Prop) : Prop :=
  ∀ (lr : Nat) (w : World) (J : (Nat → Prop) → Nat → World → Prop) (Jx : World → Prop), (∀ X j W W', J X j W → Kp W W' X → (∀ i, X i → CBlk W' i) → J X j W') → (∀ X j W, J X j W → K W) → (∀ X W, (∀ i, X i → w.heap.size ≤ i ∧ CBlk W i) → Below w.heap.size w W → J X 0 W) →
    (∀ m X j W B v, Bs[j]? = some B → (∀ i, X i → w.heap.size ≤ i ∧ i < W.heap.size ∧ CBlk W i) → TV W v B → J X j W → (∃ V g cap, J X j V ∧ Kp V W X ∧ v = .slice (some ⟨g, 0, none⟩) B.length cap ∧ V.heap.size ≤ g) → YieldAt Fence.wide m Tryz.prog lr #[v, .string (bstr (blkB B))] W fun e W' => (e = .returned (.bool true) ∧ J X (j + 1) W' ∧ ∀ i, X i → W'.heap[i]? = W.heap[i]?) ∨ (e = .returned (.bool false) ∧ Jx W')) →
    Calls Tryz.prog gf (#[.func (.yield lr) #[] #[]] ++ caps) w fun e W => (∃ u, e = .returned u) ∧ ((∃ X, J X Bs.length W) ∨ Jx W)
theorem TellsK.tells {gf : Nat} {caps : Array Value} {Bs : List (List Cl)} {K : World → Prop} {w0 : World} (h : TellsK gf caps Bs K) (hK : ∀ W, Below w0.heap.size w0 W → K W) : Tells gf caps Bs w0 := fun lr w J Jx hab hI hX0 hY => h lr w J Jx hab (fun X j W hj => hK W (hI X j W hj)) hX0 (fun m X j W B v a b c d _ => hY m X j W B v a b c d)

set_option maxHeartbeats 4000000 in
set_option maxRecDepth 100000 in
theorem read1_tellsK (q : Option Addr) (g off cap b : Nat) (bs : List (List UInt8)) (hq : 0 < bs.length → q = some ⟨g, off, none⟩) (hl : ∀ s ∈ bs, s.length ≤ 9223372036854775807) (hL : bs.length ≤ 4611686018427387904) :
    TellsK 72 #[.pointer (some ⟨b, 0, none⟩)] (rdB none bs) (fun W => RBx W b (.slice q bs.length cap) ∧ (0 < bs.length → StrsAt W g off bs)) := by
  intro lr w J Jx hab hI hX0 hY
  have hJz := hX0 (fun _ => False) w (fun _ h => h.elim) (Below.refl _ _)
  have hBw := (hI _ _ _ hJz).1
  have hb1 : Below w.heap.size w (w.alloc (.cells #[.string ⟨#[]⟩, .string ⟨#[]⟩, .int .u64 0, .bool false, .string ⟨#[]⟩] 39)) := (Below.refl _ _).alloc (Nat.le_refl _) _
  have c0 := (hBw.below hb1 (blk_lt hBw.l)).c0
  have hn1 : (w.alloc (.cells #[.string ⟨#[]⟩, .string ⟨#[]⟩, .int .u64 0, .bool false, .string ⟨#[]⟩] 39)).heap[w.heap.size]? = some (.cells #[.string ⟨#[]⟩, .string ⟨#[]⟩, .int .u64 0, .bool false, .string ⟨#[]⟩] 39 (0, 0)) := heap_alloc_new w _
  refine calls_in Tryz.func72 rfl ?_
  simp only [Tryz.ntmps72, List.size_toArray, List.length_cons, List.length_nil, Nat.reduceAdd, Nat.reduceSub, Array.replicate_succ, Array.replicate_zero, List.push_toArray, List.append_toArray, List.nil_append, List.cons_append]
  gi_wp2_with fail
  have hJ1 := hX0 (fun i => i = w.heap.size) _ (fun i h => ⟨by omega, by rw [h]; exact ⟨_, _, hn1⟩⟩) hb1
  obtain ⟨w1, hw1⟩ : ∃ w1, w1 = w.alloc (.cells #[.string ⟨#[]⟩, .string ⟨#[]⟩, .int .u64 0, .bool false, .string ⟨#[]⟩] 39) := ⟨_, rfl⟩
  rw [← hw1] at hn1 hJ1 ⊢
  clear hBw c0 hX0 hJz hb1 hw1
  refine wpIn_loop_n (fun k a wr => ∃ (i : Nat) (c : Cl) (p : Option Cl) (u2 u4 u5 u6 u7 u11 u12 u13 u14 u15 u16 u17 u18 u19 u20 u21 u22 u23 u24 u25 u26 u27 u28 u29 u30 u31 u32 u33 u34 u35 u36 u37 u38 u39 u40 u41 u42 u43 u44 u45 u46 u47 u48 u49 u50 : Value), a = { tmps := #[.func (.yield lr) #[] #[], .pointer (some ⟨b, 0, none⟩), u2, .pointer (some ⟨w.heap.size, 0, none⟩), u4, u5, u6, u7, .slice q bs.length cap, .int .i64 (bs.length : Int), .int .i64 (i : Int), u11, u12, u13, u14, u15, u16, u17, u18, u19, u20, u21, u22, u23, u24, u25, u26, u27, u28, u29, u30, u31, u32, u33, u34, u35, u36, u37, u38, u39, u40, u41, u42, u43, u44, u45, u46, u47, u48, u49, u50], defers := [] } ∧ i + k = bs.length ∧ (rdB none bs).drop i = rdB p (bs.drop i) ∧ i ≤ (rdB none bs).length ∧ ((i = 0 ∧ p = none) ∨ (0 < i ∧ p = some c)) ∧ wr.heap[w.heap.size]? = some (.cells (clC c) 39 (0, 0)) ∧ J (fun i => i = w.heap.size) i wr) bs.length ?start ?round
  case start => exact ⟨0, ⟨[], [], 0, false, []⟩, none, _, _, _, _, _, _, _, _, _, _, _, _, _, _, _, _, _, _, _, _, _, _, _, _, _, _, _, _, _, _, _, _, _, _, _, _, _, _, _, _, _, _, _, _, _, rfl, by omega, by simp, by omega, Or.inl ⟨rfl, rfl⟩, hn1, hJ1⟩
  case round =>
    clear hJ1 hn1
    rintro k a wr ⟨i, c, p, u2, u4, u5, u6, u7, u11, u12, u13, u14, u15, u16, u17, u18, u19, u20, u21, u22, u23, u24, u25, u26, u27, u28, u29, u30, u31, u32, u33, u34, u35, u36, u37, u38, u39, u40, u41, u42, u43, u44, u45, u46, u47, u48, u49, u50, rfl, hik, hdr, hil, hp, hlb, hJ⟩
    have hbw := hI _ _ _ hJ
    cases k with
    | zero =>
      have hge : ¬ ((i : Int) < (bs.length : Int)) := by omega
      have he : (rdB none bs).length = i := by
        rw [List.drop_of_length_le (l := bs) (by omega)] at hdr
        have : (rdB none bs).drop i = [] := by rw [hdr]; simp [rdB]
        have := List.drop_eq_nil_iff.1 this
        omega
      have HE : Hid _ := he
      clear he hdr hlb hp
      gi_wp2
      exact ⟨rfl, _, results_none rfl _ _ _, ⟨_, rfl⟩, Or.inl ⟨_, HE.out ▸ hJ⟩⟩
    | succ k =>
      have hlt : i < bs.length := by omega
      obtain rfl := hq (by omega)
      have hst := hbw.2 (by omega)
      have cs : wr.cell? ⟨g, off + i, none⟩ = some (.string (bstr bs[i])) := hst i hlt
      have hrd := Read_any bs[i] wr (hl _ (List.getElem_mem hlt))
      have hcons : bs.drop i = bs[i] :: bs.drop (i + 1) := List.drop_eq_getElem_cons hlt
      rw [hcons] at hdr
      have hgo : (i : Int) < (bs.length : Int) := by omega
      have HD : Hid _ := hdr
      have HHB : Hid _ := hab
      have HY : Hid _ := hY
      have HP : Hid _ := hp
      have HLB : Hid _ := hlb
      clear hdr hab hY hp hlb hcons
      generalize bs[i] = s at *
      gi_wp2_with fail
      refine ⟨trivial, (callsIn_wide.2 hrd).mono ?_⟩
      rintro e w1 ⟨⟨L, ql, cl, rfl, hG, hbk, hown⟩ | ⟨rfl, hno⟩, hb1⟩
      · subst hbk
        clear hrd cs
        have hJ1 := HHB.out _ _ _ _ hJ (Kp.of_below _ hb1) (fun j hj => by rw [hj]; exact ⟨_, _, (hb1.block _ (blk_lt HLB.out)).trans HLB.out⟩)
        have hlb1 : w1.heap[w.heap.size]? = some (.cells (clC c) 39 (0, 0)) := (hb1.block _ (blk_lt HLB.out)).trans HLB.out
        by_cases hL : L = []
        · subst hL
          have he : (rdB none bs).length = i := by
            have h1 := HD.out
            rw [rdB_no hG (Or.inl rfl)] at h1
            have := List.drop_eq_nil_iff.1 h1
            omega
          have HE : Hid _ := he
          clear he HD hown
          gi_wp2
          refine wpIn_wide.2 ?_
          refine wp_region_quiet_below (by kernel_rfl) (by kernel_rfl) ?_
          repeat (go_big_quiet_step (fail))
          refine wpQuiet_nil ?_
          intro _ hw'
          obtain ⟨⟨dq, osq⟩, hw''⟩ := hw'
          subst hw''
          have hb2 := below_regrown w1 dq osq

          have hJ2 := HHB.out _ _ _ _ hJ1 (Kp.of_below _ hb2) (fun j hj => by rw [hj]; exact ⟨_, _, (hb2.block _ (Nat.lt_of_lt_of_le (blk_lt HLB.out) hb1.size)).trans ((hb1.block _ (blk_lt HLB.out)).trans HLB.out)⟩)
          generalize grow (redrawn w1 dq) osq = w2 at *
          gi_wp2
          refine bodyPost_ret (results_none rfl _ _ _) rfl ?_
          exact ⟨⟨_, rfl⟩, Or.inl ⟨_, HE.out ▸ hJ2⟩⟩
        · obtain ⟨g1, cap1, hv, hg1, hgl1, hlc, hmx, hcr, hfz⟩ := own_crow hown hL
          clear hmx hfz
          have hcb : CBlk w1 g1 := own_cblk hown hv
          cases hv
          have hpos : 0 < L.length := List.length_pos_iff.2 hL
          have hL32 : L.length ≤ 32768 := good_len hG
          have hlz : ((L.length : Int) == 0) = false := by simp; omega
          rcases HP.out with ⟨hi0, hpn⟩ | ⟨hi0, hpn⟩
          · have hD := HD.out
            rw [hpn, rdB_yes hG hL rfl] at hD
            have HD2 : Hid _ := hD
            have hzn : decide (0 < i) = false := by simp; omega
            have HI0 : Hid _ := hi0
            clear hD HD hown hi0
            have hlc5 := cells5 hlb1
            obtain ⟨l0, l1, l2, l3, l4⟩ := hlc5
            have hh := hcr 0 hpos
            rw [Nat.zero_mul, Nat.zero_add] at hh
            have hhd : L[0] = L.head hL := List.getElem_zero hpos
            rw [hhd] at hh
            obtain ⟨h0, h1, h2, h3, h4⟩ := hh
            have hcm := Cmp_any c.row c.col c.ver c.gone c.val (L.head hL).row (L.head hL).col (L.head hL).ver (L.head hL).gone (L.head hL).val
            have k0 := fun d os => cell_regrown l0 d os
            have k1 := fun d os => cell_regrown l1 d os
            have k2 := fun d os => cell_regrown l2 d os
            have k3 := fun d os => cell_regrown l3 d os
            have k4 := fun d os => cell_regrown l4 d os
            have m0 := fun d os => cell_regrown h0 d os
            have m1 := fun d os => cell_regrown h1 d os
            have m2 := fun d os => cell_regrown h2 d os
            have m3 := fun d os => cell_regrown h3 d os
            have m4 := fun d os => cell_regrown h4 d os

            gi_wp2
            refine wpIn_wide.2 ?_
            refine wp_region_quiet_below (by kernel_rfl) (by kernel_rfl) ?_
            repeat (go_big_quiet_step (first | (go_at_call 48; with_reducible exact Calls.regrown_of (hcm _))))
            refine wpQuiet_nil ?_
            intro _ hw'
            obtain ⟨⟨dq, osq⟩, hw''⟩ := hw'
            subst hw''
            have hb2 := below_regrown w1 dq osq
            clear k0 k1 k2 k3 k4 m0 m1 m2 m3 m4 hcm l0 l1 l2 l3 l4 h0 h1 h2 h3 h4 hhd

            have hJ2 := HHB.out _ _ _ _ hJ1 (Kp.of_below _ hb2) (fun j hj => by rw [hj]; exact ⟨_, _, (hb2.block _ (Nat.lt_of_lt_of_le (blk_lt HLB.out) hb1.size)).trans ((hb1.block _ (blk_lt HLB.out)).trans HLB.out)⟩)
            have hlb2 := (hb2.block _ (blk_lt hlb1)).trans hlb1
            have hcr2 := hcr.step hb2 hgl1
            have hcb2 := hcb.same (hb2.block g1 hgl1)
            have hne1 : g1 ≠ w.heap.size := by have := blk_lt HLB.out; omega
            generalize grow (redrawn w1 dq) osq = w2 at *
            obtain ⟨n, hn⟩ : ∃ n, n = L.length - 1 := ⟨_, rfl⟩
            have hni : (L.length : Int) - 1 = (n : Int) := by omega
            have hnl : (n : Int) < (L.length : Int) := by omega
            have hA := hcr2 n (by omega)
            rw [Nat.zero_add] at hA
            obtain ⟨d, hd⟩ : ∃ d, d = L[n]'(by omega) := ⟨_, rfl⟩
            rw [← hd] at hA
            have hlast : L.getLast? = some d := by rw [hd, List.getLast?_eq_getElem?, ← hn, List.getElem?_eq_getElem (by omega)]
            obtain ⟨e0, e1, e2, e3, e4⟩ := id hA
            obtain ⟨f0, f1, f2, f3, f4⟩ := froz5 hlb2
            obtain ⟨l0, l1, l2, l3, l4⟩ := cells5 hlb2
            have hs5 := set5_heap hlb2 d
            have hK5 := set5_kp w2 w.heap.size d
            have hJ3 := HHB.out _ _ _ _ hJ2 hK5 (fun j hj => by rw [hj]; exact ⟨_, _, hs5⟩)
            have hg5 : (set5W w2 w.heap.size d).heap[g1]? = w2.heap[g1]? := hK5.block g1 hcb2.lt hne1
            have hTV : TV (set5W w2 w.heap.size d) (.slice (some ⟨g1, 0, none⟩) L.length cl) L := ⟨g1, 0, cl, rfl, hcr2.blk hg5, hcb2.same hg5, hlc⟩
            have hLi : (rdB none bs)[i]? = some L := by
              have h1 : ((rdB none bs).drop i)[0]? = some L := by rw [HD2.out]; rfl
              rw [List.getElem?_drop] at h1
              exact h1
            have hdr3 : (rdB none bs).drop (i + 1) = rdB (some d) (bs.drop (i + 1)) := by
              rw [← List.drop_drop, HD2.out, hlast]
              rfl
            have hil3 : i + 1 ≤ (rdB none bs).length := by
              have := (List.getElem?_eq_some_iff.1 hLi).1
              omega
            obtain ⟨fn, tmps, assign, body, hyr, hR⟩ := HY.out (3 - 1) (fun j => j = w.heap.size) i (set5W w2 w.heap.size d) L _ hLi (fun j hj => ⟨by omega, by rw [hj]; exact blk_lt hs5, by rw [hj]; exact ⟨_, _, hs5⟩⟩) hTV hJ3 ⟨wr, g1, _, hJ, (Kp.of_below _ (below2 hb1 hb2)).trans hK5 (fun _ h => Or.inl h), rfl, hg1⟩
            have HS5 : Hid _ := hs5
            have HR : Hid _ := hR
            have HD3 : Hid _ := hdr3
            have HIL3 : Hid _ := hil3
            unfold set5W at hyr
            clear hil3 hG hq hst hgl1 hg1 hne1 hlc hn hd hlast hA hs5 hK5 hlb2 hcr2 hcb2 hJ2 hJ1 hlb1 hb1 hb2 hcr hcb hbw hJ hzn hR hdr3 hJ3 hg5 hTV hLi
            gi_wp2_with fail
            clear hyr
            refine RoundIn.mono HR.out ?_
            rintro e w3 (⟨rfl, hJ4, hX4⟩ | ⟨rfl, hJ4⟩)
            · have hlb4 := (hX4 _ rfl).trans HS5.out
              have HJ4 : Hid _ := hJ4
              have HL4 : Hid _ := hlb4
              clear hX4 hJ4 hlb4
              gi_wp2
              exact ⟨k, rfl, i + 1, d, some d, _, _, _, _, _, _, _, _, _, _, _, _, _, _, _, _, _, _, _, _, _, _, _, _, _, _, _, _, _, _, _, _, _, _, _, _, _, _, _, _, _, _, _, _, _, rfl, by omega, HD3.out, HIL3.out, Or.inr ⟨by omega, rfl⟩, HL4.out, HJ4.out⟩
            · gi_wp2
              refine bodyPost_ret (results_none rfl _ _ _) rfl ?_
              exact ⟨⟨_, rfl⟩, Or.inr hJ4⟩
          · have hzn : decide (0 < i) = true := by simp; omega
            by_cases hcc : ccl c (L.head hL) < 0
            · have hD := HD.out
              rw [hpn, rdB_yes hG hL (by cases L with | nil => exact absurd rfl hL | cons x L => exact decide_eq_true hcc)] at hD
              have HD2 : Hid _ := hD
              clear hD HD hown
              have hlc5 := cells5 hlb1
              obtain ⟨l0, l1, l2, l3, l4⟩ := hlc5
              have hh := hcr 0 hpos
              rw [Nat.zero_mul, Nat.zero_add] at hh
              have hhd : L[0] = L.head hL := List.getElem_zero hpos
              rw [hhd] at hh
              obtain ⟨h0, h1, h2, h3, h4⟩ := hh
              have hcm := Cmp_any c.row c.col c.ver c.gone c.val (L.head hL).row (L.head hL).col (L.head hL).ver (L.head hL).gone (L.head hL).val
              have k0 := fun d os => cell_regrown l0 d os
              have k1 := fun d os => cell_regrown l1 d os
              have k2 := fun d os => cell_regrown l2 d os
              have k3 := fun d os => cell_regrown l3 d os
              have k4 := fun d os => cell_regrown l4 d os
              have m0 := fun d os => cell_regrown h0 d os
              have m1 := fun d os => cell_regrown h1 d os
              have m2 := fun d os => cell_regrown h2 d os
              have m3 := fun d os => cell_regrown h3 d os
              have m4 := fun d os => cell_regrown h4 d os


              change cc c.row c.col c.ver (L.head hL).row (L.head hL).col (L.head hL).ver < 0 at hcc
              generalize cc c.row c.col c.ver (L.head hL).row (L.head hL).col (L.head hL).ver = D at *
              have hcd : decide ((0 : Int) ≤ D) = false := by simp; omega
              gi_wp2
              refine wpIn_wide.2 ?_
              refine wp_region_quiet_below (by kernel_rfl) (by kernel_rfl) ?_
              repeat (go_big_quiet_step (first | (go_at_call 48; with_reducible exact Calls.regrown_of (hcm _))))
              refine wpQuiet_nil ?_
              intro _ hw'
              obtain ⟨⟨dq, osq⟩, hw''⟩ := hw'
              subst hw''
              have hb2 := below_regrown w1 dq osq
              clear k0 k1 k2 k3 k4 m0 m1 m2 m3 m4 hcm l0 l1 l2 l3 l4 h0 h1 h2 h3 h4 hhd

              have hJ2 := HHB.out _ _ _ _ hJ1 (Kp.of_below _ hb2) (fun j hj => by rw [hj]; exact ⟨_, _, (hb2.block _ (Nat.lt_of_lt_of_le (blk_lt HLB.out) hb1.size)).trans ((hb1.block _ (blk_lt HLB.out)).trans HLB.out)⟩)
              have hlb2 := (hb2.block _ (blk_lt hlb1)).trans hlb1
              have hcr2 := hcr.step hb2 hgl1
              have hcb2 := hcb.same (hb2.block g1 hgl1)
              have hne1 : g1 ≠ w.heap.size := by have := blk_lt HLB.out; omega
              generalize grow (redrawn w1 dq) osq = w2 at *
              obtain ⟨n, hn⟩ : ∃ n, n = L.length - 1 := ⟨_, rfl⟩
              have hni : (L.length : Int) - 1 = (n : Int) := by omega
              have hnl : (n : Int) < (L.length : Int) := by omega
              have hA := hcr2 n (by omega)
              rw [Nat.zero_add] at hA
              obtain ⟨d, hd⟩ : ∃ d, d = L[n]'(by omega) := ⟨_, rfl⟩
              rw [← hd] at hA
              have hlast : L.getLast? = some d := by rw [hd, List.getLast?_eq_getElem?, ← hn, List.getElem?_eq_getElem (by omega)]
              obtain ⟨e0, e1, e2, e3, e4⟩ := id hA
              obtain ⟨f0, f1, f2, f3, f4⟩ := froz5 hlb2
              obtain ⟨l0, l1, l2, l3, l4⟩ := cells5 hlb2
              have hs5 := set5_heap hlb2 d
              have hK5 := set5_kp w2 w.heap.size d
              have hJ3 := HHB.out _ _ _ _ hJ2 hK5 (fun j hj => by rw [hj]; exact ⟨_, _, hs5⟩)
              have hg5 : (set5W w2 w.heap.size d).heap[g1]? = w2.heap[g1]? := hK5.block g1 hcb2.lt hne1
              have hTV : TV (set5W w2 w.heap.size d) (.slice (some ⟨g1, 0, none⟩) L.length cl) L := ⟨g1, 0, cl, rfl, hcr2.blk hg5, hcb2.same hg5, hlc⟩
              have hLi : (rdB none bs)[i]? = some L := by
                have h1 : ((rdB none bs).drop i)[0]? = some L := by rw [HD2.out]; rfl
                rw [List.getElem?_drop] at h1
                exact h1
              have hdr3 : (rdB none bs).drop (i + 1) = rdB (some d) (bs.drop (i + 1)) := by
                rw [← List.drop_drop, HD2.out, hlast]
                rfl
              have hil3 : i + 1 ≤ (rdB none bs).length := by
                have := (List.getElem?_eq_some_iff.1 hLi).1
                omega
              obtain ⟨fn, tmps, assign, body, hyr, hR⟩ := HY.out (3 - 1) (fun j => j = w.heap.size) i (set5W w2 w.heap.size d) L _ hLi (fun j hj => ⟨by omega, by rw [hj]; exact blk_lt hs5, by rw [hj]; exact ⟨_, _, hs5⟩⟩) hTV hJ3 ⟨wr, g1, _, hJ, (Kp.of_below _ (below2 hb1 hb2)).trans hK5 (fun _ h => Or.inl h), rfl, hg1⟩
              have HS5 : Hid _ := hs5
              have HR : Hid _ := hR
              have HD3 : Hid _ := hdr3
              have HIL3 : Hid _ := hil3
              unfold set5W at hyr
              clear hil3 hG hq hst hgl1 hg1 hne1 hlc hn hd hlast hA hs5 hK5 hlb2 hcr2 hcb2 hJ2 hJ1 hlb1 hb1 hb2 hcr hcb hbw hJ hzn hR hdr3 hJ3 hg5 hTV hLi
              gi_wp2_with fail
              clear hyr
              refine RoundIn.mono HR.out ?_
              rintro e w3 (⟨rfl, hJ4, hX4⟩ | ⟨rfl, hJ4⟩)
              · have hlb4 := (hX4 _ rfl).trans HS5.out
                have HJ4 : Hid _ := hJ4
                have HL4 : Hid _ := hlb4
                clear hX4 hJ4 hlb4
                gi_wp2
                exact ⟨k, rfl, i + 1, d, some d, _, _, _, _, _, _, _, _, _, _, _, _, _, _, _, _, _, _, _, _, _, _, _, _, _, _, _, _, _, _, _, _, _, _, _, _, _, _, _, _, _, _, _, _, _, rfl, by omega, HD3.out, HIL3.out, Or.inr ⟨by omega, rfl⟩, HL4.out, HJ4.out⟩
              · gi_wp2
                refine bodyPost_ret (results_none rfl _ _ _) rfl ?_
                exact ⟨⟨_, rfl⟩, Or.inr hJ4⟩
            · have he : (rdB none bs).length = i := by
                have h1 := HD.out
                rw [hpn, rdB_no hG (Or.inr (by cases L with | nil => exact absurd rfl hL | cons x L => exact decide_eq_false hcc))] at h1
                have := List.drop_eq_nil_iff.1 h1
                omega
              have HE : Hid _ := he
              clear he HD hown
              have hlc5 := cells5 hlb1
              obtain ⟨l0, l1, l2, l3, l4⟩ := hlc5
              have hh := hcr 0 hpos
              rw [Nat.zero_mul, Nat.zero_add] at hh
              have hhd : L[0] = L.head hL := List.getElem_zero hpos
              rw [hhd] at hh
              obtain ⟨h0, h1, h2, h3, h4⟩ := hh
              have hcm := Cmp_any c.row c.col c.ver c.gone c.val (L.head hL).row (L.head hL).col (L.head hL).ver (L.head hL).gone (L.head hL).val
              have k0 := fun d os => cell_regrown l0 d os
              have k1 := fun d os => cell_regrown l1 d os
              have k2 := fun d os => cell_regrown l2 d os
              have k3 := fun d os => cell_regrown l3 d os
              have k4 := fun d os => cell_regrown l4 d os
              have m0 := fun d os => cell_regrown h0 d os
              have m1 := fun d os => cell_regrown h1 d os
              have m2 := fun d os => cell_regrown h2 d os
              have m3 := fun d os => cell_regrown h3 d os
              have m4 := fun d os => cell_regrown h4 d os


              have hcc' : 0 ≤ cc c.row c.col c.ver (L.head hL).row (L.head hL).col (L.head hL).ver := Int.not_lt.1 hcc
              clear hcc
              generalize cc c.row c.col c.ver (L.head hL).row (L.head hL).col (L.head hL).ver = D at *
              have hcd : decide ((0 : Int) ≤ D) = true := by simp; omega
              gi_wp2
              refine wpIn_wide.2 ?_
              refine wp_region_quiet_below (by kernel_rfl) (by kernel_rfl) ?_
              repeat (go_big_quiet_step (first | (go_at_call 48; with_reducible exact Calls.regrown_of (hcm _))))
              refine wpQuiet_nil ?_
              intro _ hw'
              obtain ⟨⟨dq, osq⟩, hw''⟩ := hw'
              subst hw''
              have hb2 := below_regrown w1 dq osq
              clear k0 k1 k2 k3 k4 m0 m1 m2 m3 m4 hcm l0 l1 l2 l3 l4 h0 h1 h2 h3 h4 hhd


              have hJ2 := HHB.out _ _ _ _ hJ1 (Kp.of_below _ hb2) (fun j hj => by rw [hj]; exact ⟨_, _, (hb2.block _ (Nat.lt_of_lt_of_le (blk_lt HLB.out) hb1.size)).trans ((hb1.block _ (blk_lt HLB.out)).trans HLB.out)⟩)
              generalize grow (redrawn w1 dq) osq = w2 at *
              gi_wp2
              refine bodyPost_ret (results_none rfl _ _ _) rfl ?_
              exact ⟨⟨_, rfl⟩, Or.inl ⟨_, HE.out ▸ hJ2⟩⟩
      · have hJ1 := HHB.out _ _ _ _ hJ (Kp.of_below _ hb1) (fun j hj => by rw [hj]; exact ⟨_, _, (hb1.block _ (blk_lt HLB.out)).trans HLB.out⟩)
        have he : (rdB none bs).length = i := by
          have h1 := HD.out
          rw [rdB_none hno] at h1
          have := List.drop_eq_nil_iff.1 h1
          omega
        have HE : Hid _ := he
        clear he hrd cs HD
        gi_wp2
        refine wpIn_wide.2 ?_
        refine wp_region_quiet_below (by kernel_rfl) (by kernel_rfl) ?_
        repeat (go_big_quiet_step (fail))
        refine wpQuiet_nil ?_
        intro _ hw'
        obtain ⟨⟨dq, osq⟩, hw''⟩ := hw'
        subst hw''
        have hb2 := below_regrown w1 dq osq

        have hJ2 := HHB.out _ _ _ _ hJ1 (Kp.of_below _ hb2) (fun j hj => by rw [hj]; exact ⟨_, _, (hb2.block _ (Nat.lt_of_lt_of_le (blk_lt HLB.out) hb1.size)).trans ((hb1.block _ (blk_lt HLB.out)).trans HLB.out)⟩)
        generalize grow (redrawn w1 dq) osq = w2 at *
        gi_wp2
        refine bodyPost_ret (results_none rfl _ _ _) rfl ?_
        exact ⟨⟨_, rfl⟩, Or.inl ⟨_, HE.out ▸ hJ2⟩⟩

theorem read1_tells (q : Option Addr) (g off cap b : Nat) (bs : List (List UInt8)) (w0 : World) (hq : 0 < bs.length → q = some ⟨g, off, none⟩ ∧ StrsAt w0 g off bs ∧ g < w0.heap.size) (hB : RBx w0 b (.slice q bs.length cap)) (hl : ∀ s ∈ bs, s.length ≤ 9223372036854775807) (hL : bs.length ≤ 4611686018427387904) :
    Tells 72 #[.pointer (some ⟨b, 0, none⟩)] (rdB none bs) w0 := (read1_tellsK q g off cap b bs (fun h => (hq h).1) hl hL).tells fun W hb => ⟨hB.below hb (blk_lt hB.l), fun h => by
      obtain ⟨_, h1, h2⟩ := hq h
      exact fun j hj => (World.cell?_of_block (a := ⟨g, off + j, none⟩) (hb.block g h2)).trans (h1 j hj)⟩

end Go.Proofs.YtmpnofbhbglfpaaGreatDoor

namespace Go.Proofs.YtmpnofbhbglfpaaGreatDoor
open Go.RowKit
attribute [local go_sem] size_bstr getElem_bstr toList_bstr append_bstr

theorem own_kept {w w' : World} {B sz : Nat} {e : TypeId} {v : Value} {n : Nat} {xs : List Value} (h : w.ownsRow B e sz v n xs) (hk : ∀ i, v.ownBlock = some i → w'.heap[i]? = w.heap[i]?) : w'.ownsRow B e sz v n xs := by
  rcases h.2 with h0 | ⟨g, cap, cur, hv, hbg, hg, r⟩
  · exact ⟨h.1, .inl h0⟩
  · exact ⟨h.1, .inr ⟨g, cap, cur, hv, hbg, (hk g (by rw [hv]; rfl)).trans hg, r⟩⟩
theorem append_str_at {P : Program} {w w' : World} {base : Nat} {t u ty e : TypeId} {i : TypeInfo} (ht : P.underlying t = some (.slice e)) (hu : P.underlying u = some .string) (hi : P.info? e = some i) (hz : i.zero = some (.int .u8 0)) (hsize : i.size = 1) (hby : i.bytes = 1)
    {v v' : Value} {n : Nat} {xs : List Value} (hown : w.ownsRow base e 1 v n xs) {s : ByteArray} (h63 : n + s.size ≤ maxLen) (hbytes : n + s.size ≤ 140737488355328) (hr : (Builtin.append_ #[t, u] ty #[v, .string s]).run P w = .ok v' w') : ∀ k, v'.ownBlock = some k → v.ownBlock = some k ∨ w.heap.size ≤ k := by
  have hsmall : n + s.size ≤ 9223372036854775807 := by simp only [maxLen] at h63; omega
  have hxl : xs.length = n := by simpa using hown.1
  intro k hk
  rcases hown.2 with ⟨rfl, rfl⟩ | ⟨g, cap, cur, rfl, hbg, hg, hnc, hcm, hcs, htake⟩
  · by_cases hm : s.size = 0
    · have hf := Lib.run_firstCells_string (P := P) w 1 s
      rw [hm] at hf
      simp [Builtin.append_, run_underlying ht, run_underlying hu, sizeOf, typeInfo, hi, hsize, Builtin.lenOf, hm, hf] at hr
      obtain ⟨rfl, rfl⟩ := hr
      simp [Value.ownBlock] at hk
    · have hr2 := run_append_nil_string (P := P) w t u ty e i (.int .u8 0) ht hu hi hz s (by omega) (by omega) (by rw [hby]; omega)
      rw [hr2] at hr
      cases hr
      simp [Value.ownBlock] at hk
      exact Or.inr (by omega)
  · by_cases hroom : n + s.size ≤ cap
    · have hcs' : cur.size = cap := by simpa using hcs
      have hr2 := Lib.run_append_room_string (P := P) w t u ty e i ht hu hi hsize g n cap cur hg s hroom (by omega)
      rw [hr2] at hr
      cases hr
      exact Or.inl hk
    · have holds : ∀ j u, xs[j]? = some u → w.cell? ((⟨g, 0, none⟩ : Addr).add j) = some u := hown.cells (g := g) rfl
      have hr2 := Lib.run_append_grow_string (P := P) w t u ty e i (.int .u8 0) ht hu hi hz ⟨g, 0, none⟩ n cap xs (by rw [hsize]; simpa using hxl) holds s (by omega) (by omega) (by rw [hby]; exact growslice_fits (by omega) (by omega))
      rw [hr2] at hr
      cases hr
      simp [Value.ownBlock] at hk
      exact Or.inr (by omega)
theorem wpList_app_str {P : Program} {w : World} {ops : Array Oper} {rest : List Oper} {o : Oper} {a : Act} {Q : Exit → Act → World → Prop} (hgd : o.guard = none) (sl x : Operand) (t u : TypeId)
    (ho : o.op = .call { callee := .builtin .append, args := #[sl, x], argTypes := #[t, u] })
    (base : Nat) (e : TypeId) (i : TypeInfo) (ht : P.underlying t = some (.slice e)) (hu : P.underlying u = some .string) (hi : P.info? e = some i) (hz : i.zero = some (.int .u8 0))
    (hsize : i.size = 1) (hby : i.bytes = 1)
    (v : Value) (n : Nat) (xs : List Value) (hs : a.eval sl = v) (hown : w.ownsRow base e 1 v n xs) (s : ByteArray) (hx : a.eval x = .string s)
    (h63 : n + s.size ≤ maxLen) (hbytes : n + s.size ≤ 140737488355328) (hbase : base ≤ w.heap.size)
    (h : ∀ v' w', w'.ownsRow base e 1 v' (n + s.size) (xs ++ Lib.strCells s) → w.grownBy w' v.ownBlock → (∀ k, v'.ownBlock = some k → v.ownBlock = some k ∨ w.heap.size ≤ k) → wpList P ops Q rest (a.put o.dst v') w') : wpList P ops Q (o :: rest) a w := by
  refine wpList_plain hgd fun K hK => ?_
  obtain ⟨v', w', hr, h2, h3, h4⟩ := Lib.run_append_own_string (P := P) w base t u o.type e i ht hu hi hz hsize hby v n xs hown s h63 hbytes hbase
  have h5 := append_str_at (P := P) ht hu hi hz hsize hby hown h63 hbytes hr
  unfold Oper.wp execOp
  simp only [ho, resolve, invoke, builtin, Sem.run_bind, Sem.run_pure, Result.andThen_ok, List.map_toArray, List.map_cons, List.map_nil, hs, hx, hr]
  exact hK _ _ (h v' w' h2 h3 h5)

/-- A builder at b, its row v, both from B on. -/
structure Bd (w : World) (B b : Nat) (v : Value) (l : List UInt8) : Prop where
  blk : ∃ p, (p = .pointer none ∨ p = .pointer (some ⟨b, 0, none⟩)) ∧ w.heap[b]? = some (.cells #[p, v] 99 (0, 0))
  row : w.ownsRow B 5 1 v l.length (Lib.byteCells l)
  ne : v.ownBlock ≠ some b
theorem Bd.lt {w : World} {B b : Nat} {v : Value} {l : List UInt8} (h : Bd w B b v l) : b < w.heap.size := by obtain ⟨p, _, h⟩ := h.blk; exact blk_lt h
theorem Bd.kept {w w' : World} {B b : Nat} {v : Value} {l : List UInt8} (h : Bd w B b v l) (h1 : w'.heap[b]? = w.heap[b]?) (h2 : ∀ i, v.ownBlock = some i → w'.heap[i]? = w.heap[i]?) : Bd w' B b v l := by
  obtain ⟨p, hp, hb⟩ := h.blk
  exact ⟨⟨p, hp, h1.trans hb⟩, own_kept h.row h2, h.ne⟩
theorem Bd.below {w w' : World} {B b : Nat} {v : Value} {l : List UInt8} (h : Bd w B b v l) (hb : Below w.heap.size w w') : Bd w' B b v l :=
  h.kept (hb.block _ h.lt) fun i hi => hb.block i (own_blk_lt h.row hi).1
theorem Bd.isB {w : World} {b : Nat} {v : Value} {l : List UInt8} (h : Bd w 0 b v l) : IsB 0 b l w := by
  obtain ⟨p, hp, hb⟩ := h.blk
  have hr : w.ownsRow 0 5 1 v (Lib.byteCells l).length (Lib.byteCells l) := by rw [Lib.byteCells_length]; exact h.row
  rcases hp with rfl | rfl
  · exact .inl ⟨by omega, v, hb, hr, h.ne⟩
  · exact .inr ⟨by omega, v, hb, hr, h.ne⟩
theorem Bd.base {w : World} {B b : Nat} {v : Value} {l : List UInt8} (h : Bd w B b v l) : Bd w 0 b v l := ⟨h.blk, own_base h.row (by omega), h.ne⟩
/-- What a builder's blocks are. -/
def BdO (b : Nat) (v : Value) : Nat → Prop := fun i => i = b ∨ v.ownBlock = some i

set_option maxHeartbeats 2000000 in
set_option maxRecDepth 100000 in
theorem WriteString_bd (B b : Nat) (v : Value) (l s : List UInt8) (w : World) (h : Bd w B b v l) (hlen : l.length + s.length ≤ 140737488355328) (hBw : B ≤ w.heap.size) :
    Calls Tryz.prog 54 #[.pointer (some ⟨b, 0, none⟩), .string (bstr s)] w fun e w' => ∃ v', e = .returned (.tuple #[.int .i64 s.length, .nilIface]) ∧ Bd w' B b v' (l ++ s) ∧ Kp w w' (BdO b v) ∧ ∀ i, v'.ownBlock = some i → v.ownBlock = some i ∨ w.heap.size ≤ i := by
  obtain ⟨i0, hi, hz0, hz1, hz2⟩ := info_parts Tryz.infoByte
  have hsz := size_bstr s
  have hcc : Calls Tryz.prog 101 #[.pointer (some ⟨b, 0, none⟩)] w fun e w' => e = .returned (.tuple #[]) ∧ w'.heap[b]? = some (.cells #[.pointer (some ⟨b, 0, none⟩), v] 99 (0, 0)) ∧ w'.heap.size = w.heap.size ∧ Kp w w' (BdO b v) ∧ ∀ i, i ≠ b → w'.heap[i]? = w.heap[i]? := by
    obtain ⟨p, rfl | rfl, hb⟩ := h.blk
    · refine (copyCheck_fresh b w ((Bl.cells_block hb).1 0) (by simp [World.shape?, hb]) ((Bl.cells_block hb).2 0)).mono ?_
      rintro e w' ⟨rfl, rfl⟩
      exact ⟨rfl, heap_set_same hb _, by simp, (Kp.refl w _).setCell _ (Or.inl (Or.inl rfl)), fun i hi => heap_set_other _ hi⟩
    · refine (copyCheck_used b w ((Bl.cells_block hb).1 0)).mono ?_
      rintro e w' ⟨rfl, rfl⟩
      exact ⟨rfl, hb, rfl, Kp.refl _ _, fun _ _ => rfl⟩
  go_enter Tryz.func54, Tryz.ntmps54
  go_wp2_with fail
  refine hcc.mono ?_
  rintro e w1 ⟨rfl, hbk, hsw, hK1, hot⟩
  have hne := h.ne
  have hown : w1.ownsRow B 5 1 v l.length (Lib.byteCells l) := own_kept h.row fun i hi => hot i (fun e => hne (e ▸ hi))
  have hlv := fun i (hi : v.ownBlock = some i) => (own_blk_lt h.row hi).1
  clear hcc h
  have c0 : w1.cell? ⟨b, 0, none⟩ = some (.pointer (some ⟨b, 0, none⟩)) := by rw [Lib.cell_of_heap hbk]; rfl
  have c1 : w1.cell? ⟨b, 1, none⟩ = some v := by rw [Lib.cell_of_heap hbk]; rfl
  go_wp2_with (at_builtin; refine wpList_app_str rfl _ _ 88 9 rfl B 5 i0 Tryz.underlying88 Tryz.underlying9 hi hz0 hz1 hz2 _ _ _ rfl hown (bstr s) rfl ?c3 ?c4 ?c5 ?_)
  case c3 => unfold maxLen; omega
  case c4 => omega
  case c5 => omega
  intro v' w2 hown' hgrow hnv
  have hlt : b < w1.heap.size := lt_of_block hbk
  have hb2 : w2.heap[b]? = some (.cells #[.pointer (some ⟨b, 0, none⟩), v] 99 (0, 0)) := by
    rw [hgrow.block b hlt (fun e => hne e.symm)]
    exact hbk
  have d0 : w2.cell? ⟨b, 0, none⟩ = some (.pointer (some ⟨b, 0, none⟩)) := by rw [Lib.cell_of_heap hb2]; rfl
  have d1 : w2.cell? ⟨b, 1, none⟩ = some v := by rw [Lib.cell_of_heap hb2]; rfl
  have f1 : w2.frozen? ⟨b, 1, none⟩ = false := Lib.frozen_of_heap hb2 1
  obtain ⟨ao, n', cap, rfl⟩ : ∃ ao n' cap, v' = .slice ao n' cap := by
    rcases hown'.2 with ⟨hv, _⟩ | ⟨g, cap, cur, hv, _⟩
    · exact ⟨_, _, _, hv⟩
    · exact ⟨_, _, _, hv⟩
  go_wp2
  go_ret2
  have hst : Lib.strCells (bstr s) = Lib.byteCells s := by rw [strCells_eq, data_bstr]
  have hnb : Value.ownBlock (.slice ao n' cap) ≠ some b := fun e => by
    rcases hnv b e with h | h
    · exact hne h
    · omega
  refine ⟨.slice ao n' cap, by rw [← hsz]; rfl, ⟨⟨_, Or.inr rfl, heap_set_same hb2 _⟩, ?_, hnb⟩, ?_, fun i hi => ?_⟩
  · refine own_kept (w := w2) ?_ fun i hi => heap_set_other _ (fun e => hnb (e ▸ hi))
    rw [byteCells_append, List.length_append, ← hst, ← hsz]
    exact hown'
  · refine Kp.setCell (hK1.trans (Kp.of_grown (S := fun i => v.ownBlock = some i) hgrow (fun k hk => hk)) (fun i hi => Or.inl (Or.inr hi))) _ (Or.inl (Or.inl rfl))
  · rcases hnv i hi with h | h
    · exact Or.inl h
    · exact Or.inr (by omega)

/-- What the closure that lays a frame has captured: whether anything is wrong, and the file. -/
abbrev layV (b eb : Nat) : Value := .func (.func 50) #[] #[.pointer (some ⟨eb, 0, none⟩), .pointer (some ⟨b, 0, none⟩)]

set_option maxHeartbeats 2000000 in
set_option maxRecDepth 100000 in
theorem lay1_any (B b eb : Nat) (v : Value) (l s : List UInt8) (w : World) (h : Bd w B b v l) (hf : w.heap[eb]? = some (.cells #[.int .i64 0] 24 (0, 0))) (ht : Tabs w) (hs : s.length ≤ 1048576) (hl : l.length ≤ 10000000000) (hBw : B ≤ w.heap.size) :
    Calls Tryz.prog 50 #[.string (bstr s), .pointer (some ⟨eb, 0, none⟩), .pointer (some ⟨b, 0, none⟩)] w fun e w' => ∃ v', e = .returned (.tuple #[.int .i64 (l.length : Int), .int .i64 ((frm s).length : Int)]) ∧ Bd w' B b v' (l ++ frm s) ∧ Kp w w' (BdO b v) ∧ (∀ i, v'.ownBlock = some i → v.ownBlock = some i ∨ w.heap.size ≤ i) := by
  have hfr := Frame_ok s w hs ht
  have hfl : 0 < (frm s).length := by rw [frm_length]; omega
  have hfm : (frm s).length ≤ 1048584 := by rw [frm_length]; omega
  generalize frm s = X at *
  go_enter Tryz.func50, Tryz.ntmps50
  go_wp2_with fail
  refine hfr.mono ?_
  rintro e w1 ⟨rfl, hb1⟩
  have h1 := h.below hb1
  have hf1 := (hb1.block _ (blk_lt hf)).trans hf
  have hK1 : Kp w w1 (BdO b v) := Kp.of_below _ hb1
  have hs1 := hb1.size
  clear hfr ht
  obtain ⟨w2, hw2⟩ : ∃ w2, w2 = w1.alloc (.cells #[.int .i64 0, .int .i64 0] 24) := ⟨_, rfl⟩
  have hb2 : Below w1.heap.size w1 w2 := by rw [hw2]; exact (Below.refl _ _).alloc (Nat.le_refl _) _
  have hn2 : w2.heap[w1.heap.size]? = some (.cells #[.int .i64 0, .int .i64 0] 24 (0, 0)) := by rw [hw2]; exact heap_alloc_new w1 _
  have h2 := h1.below hb2
  have hf2 := (hb2.block _ (blk_lt hf1)).trans hf1
  have hK2 : Kp w w2 (BdO b v) := hK1.trans (Kp.of_below (fun _ => False) hb2) (fun _ h => h.elim)
  have c1 : w1.cell? ⟨eb, 0, none⟩ = some (.int .i64 0) := (Bl.cells_block hf1).1 0
  have hor := orE_any w1.heap.size w2 ((Bl.cells_block hn2).1 0) ((Bl.cells_block hn2).1 1)
  have hs2 := hb2.size
  clear h h1 hf hf1 hK1 hb1 hb2
  go_wp2_with fail
  rw [← hw2]
  refine hor.mono ?_
  rintro e w3 ⟨rfl, rfl⟩
  have c2 : w3.cell? ⟨eb, 0, none⟩ = some (.int .i64 0) := (Bl.cells_block hf2).1 0
  have f2 : w3.frozen? ⟨eb, 0, none⟩ = false := (Bl.cells_block hf2).2 0
  have hno : w3.setCell ⟨eb, 0, none⟩ (.int .i64 0) = w3 := setCell_noop c2
  have hln := Len_any 0 b l w3 h2.base.isB
  have hwr := WriteString_bd B b v l X w3 h2 (by omega) (by omega)
  have hsz : w.heap.size ≤ w3.heap.size := by omega
  clear hor c1 hn2 hw2 hf2
  go_wp2_with fail
  refine hln.mono ?_
  rintro e w4 ⟨rfl, rfl⟩
  go_wp2_with fail
  refine hwr.mono ?_
  rintro e w4 ⟨v', rfl, h4, hK4, hnv⟩
  go_wp2
  go_ret2
  exact ⟨v', rfl, h4, hK2.trans hK4 (fun i hi => Or.inl hi), fun i hi => (hnv i hi).imp id (fun h => by omega)⟩

theorem cellsByte : Tryz.prog.cellsOf 5 = 1 := by kernel_rfl

set_option maxHeartbeats 1000000 in
set_option maxRecDepth 100000 in
/-- What a builder holds: its row is frozen, nothing else is touched. -/
theorem String_bd (B b : Nat) (v : Value) (l : List UInt8) (w : World) (h : Bd w B b v l) (hl : l = [] → v = .slice none 0 0) :
    Calls Tryz.prog 57 #[.pointer (some ⟨b, 0, none⟩)] w fun e w' => e = .returned (.string (bstr l)) ∧ Kp w w' (fun i => v.ownBlock = some i) := by
  obtain ⟨p, _, hbk⟩ := h.blk
  by_cases h0 : l = []
  · have hv := hl h0
    subst hv h0
    have hUS : ∀ (W : World) (q : Option Addr), (Builtin.unsafeString_ #[151, 3] 9 #[.pointer q, .int .i64 0]).run Tryz.prog W = .ok (.string .empty) W := fun W q => Lib.run_unsafeString_none W _ _ _ q
    have c1 : w.drew.cell? ⟨b, 1, none⟩ = some (.slice none 0 0) := by
      have : w.drew.heap[b]? = some (.cells #[p, .slice none 0 0] 99 (0, 0)) := hbk
      rw [Lib.cell_of_heap this]; rfl
    have hSD : (Builtin.unsafeSliceData_ #[88] 151 #[.slice none 0 0]).run Tryz.prog w.drew = .ok (.pointer none) w.drew := rfl
    clear h hl
    go_enter Tryz.func57, Tryz.ntmps57
    go_wp2
    go_region
    all_goals (go_wp2; go_ret; exact ⟨rfl, (Kp.refl w _).drew⟩)
  · have hown := h.row
    obtain ⟨g, cap, cur, rfl, hbg, hg, hnc, hcm, hcs, htake⟩ : ∃ g cap cur, v = .slice (some ⟨g, 0, none⟩) l.length cap ∧ B ≤ g ∧ w.heap[g]? = some (.cells cur 5 (0, 0)) ∧ l.length ≤ cap ∧ cap ≤ maxLen ∧ cur.size = cap * 1 ∧ cur.toList.take (l.length * 1) = Lib.byteCells l := by
      rcases hown.2 with ⟨_, hz⟩ | ⟨g, cap, cur, hv, r⟩
      · exact absurd (List.eq_nil_of_length_eq_zero hz) h0
      · exact ⟨g, cap, cur, hv, r⟩
    have hl0 : l.length ≠ 0 := by simpa using h0
    have c1 : w.drew.cell? ⟨b, 1, none⟩ = some (.slice (some ⟨g, 0, none⟩) l.length cap) := by
      have : w.drew.heap[b]? = some (.cells #[p, .slice (some ⟨g, 0, none⟩) l.length cap] 99 (0, 0)) := hbk
      rw [Lib.cell_of_heap this]; rfl
    have hSD : (Builtin.unsafeSliceData_ #[88] 151 #[.slice (some ⟨g, 0, none⟩) l.length cap]).run Tryz.prog w.drew = .ok (.pointer (some ⟨g, 0, none⟩)) w.drew :=
      Lib.run_unsafeSliceData_row _ _ _ _ _ _ (by omega)
    have hUS : (Builtin.unsafeString_ #[151, 3] 9 #[.pointer (some ⟨g, 0, none⟩), .int .i64 l.length]).run Tryz.prog w.drew = .ok (.string ⟨l.toArray⟩) (w.drew.freeze ⟨g, 0, none⟩ l.length) := by
      refine Lib.run_unsafeString_row w.drew 151 3 9 5 Tryz.underlying151 cellsByte g cur.size (by have hg' : w.drew.heap[g]? = some (.cells cur 5 (0, 0)) := hg; simp [World.shape?, hg']) l h0 (by omega) (by unfold maxLen at hcm; omega) ?_
      intro j x hx
      have := hown.cells (g := g) rfl j (.int .u8 x.toNat) (by simp [Lib.byteCells, hx])
      exact this
    have hk : Kp w (w.drew.freeze ⟨g, 0, none⟩ l.length) (fun i => Value.ownBlock (.slice (some ⟨g, 0, none⟩) l.length cap) = some i) := by
      unfold World.freeze
      rw [if_neg hl0]
      refine ⟨rfl, rfl, rfl, by simp, fun i _ hn => ?_⟩
      have hne : g ≠ i := fun e => hn (by rw [e]; rfl)
      show (w.heap.modify g _)[i]? = _
      rw [Array.getElem?_modify, if_neg hne]
    have HK : Hid _ := hk
    clear h hl hown hcm hcs htake hk hg hbk hbg
    go_enter Tryz.func57, Tryz.ntmps57
    go_wp2
    go_region
    all_goals (go_wp2; go_ret; exact ⟨rfl, HK.out⟩)

end Go.Proofs.YtmpnofbhbglfpaaGreatDoor

namespace Go.Proofs.YtmpnofbhbglfpaaGreatDoor
open Go.RowKit Go.BigFrame Go.Sort

section
variable {F : Fence} {n : Nat} {P : Program} {ops : Array Oper} {Q : Exit → Act → World → Prop} {md : Region.Mode}
def noDefer (o : Oper) : Bool := match o.op with
  | .defer _ => false
  | _ => true
theorem noDefer_ne {o : Oper} (h : noDefer o = true) : ∀ c, o.op ≠ .defer c := fun c e => by
  unfold noDefer at h
  rw [e] at h
  cases h
theorem uponIn_inRound {l : Nat} {o : Oper} {a : Act} {K : Act → World → Prop} (r : Result Next) (h : o.uponIn F n P a K Q r) : o.uponIn (F.inRound l) n P a K Q r := by
  cases r with
  | ok x w => cases x <;> exact h
  | halt x w => cases x <;> exact h
theorem wpOpIn_inRound {l : Nat} (hro : F.round = none) (hd : ∀ (i : Nat) (o : Oper), ops[i]? = some o → noDefer o = true) {i : Nat} {K : Act → World → Prop} {a : Act} {w : World} (h : wpOpIn F n P ops Q i K a w) : wpOpIn (F.inRound l) n P ops Q i K a w := by
  unfold wpOpIn at *
  cases ho : ops[i]? with
  | none => simpa [ho] using h
  | some o =>
    simp only [ho] at h ⊢
    split
    · rename_i hw
      simp only [hw, if_true] at h
      refine ⟨h.1, ?_⟩
      have h2 := h.2
      rw [hro, Oper.semAt_none] at h2
      rw [Fence.inRound_round, Oper.semAt_some l _ o (noDefer_ne (hd i o ho))]
      exact uponIn_inRound _ h2
    · rename_i hw
      simp only [hw] at h
      exact h
theorem wpAnyIn_inRound {l : Nat} (hro : F.round = none) (hd : ∀ (i : Nat) (o : Oper), ops[i]? = some o → noDefer o = true) : ∀ (fuel : Nat) (listed : Array Bool) (a : Act) (w : World), wpAnyIn F n P md ops Q fuel listed a w → wpAnyIn (F.inRound l) n P md ops Q fuel listed a w
  | 0, _, _, _, h => h
  | fuel + 1, _, _, _, h => ⟨h.1, fun i hi => wpOpIn_mono (fun a w => wpAnyIn_inRound hro hd fuel _ a w) (wpOpIn_inRound hro hd (h.2 i hi))⟩
theorem uponIn_wide {o : Oper} {a : Act} {K : Act → World → Prop} (r : Result Next) (h : o.upon P a K Q r) : o.uponIn Fence.wide n P a K Q r := by
  cases r with
  | ok x w =>
    cases x with
    | enter f args => exact ⟨fun h => (by cases h), callsIn_wide.2 h⟩
    | row row args =>
      refine ⟨fun h => (by cases h), fun c cs _ => ?_⟩
      obtain ⟨v, w', r, s⟩ := h c cs
      exact ⟨v, w', r, stepsIn_wide.2 s⟩
    | round => exact (h : False).elim
    | _ => exact h
  | halt x w => cases x <;> exact h
theorem wpOpIn_wide (hLO : ¬ LetsOut Q) {i : Nat} {K : Act → World → Prop} {a : Act} {w : World} (h : wpOp P ops Q i K a w) : wpOpIn Fence.wide n P ops Q i K a w := by
  unfold wpOp at h
  unfold wpOpIn
  cases ho : ops[i]? with
  | none => simpa [ho] using h
  | some o =>
    simp only [ho] at h ⊢
    split
    · rename_i hw
      simp only [hw, if_true] at h
      rcases h with h | h
      · refine ⟨fun _ _ => trivial, ?_⟩
        rw [show Fence.wide.round = none from rfl, Oper.semAt_none]
        exact uponIn_wide _ h
      · exact absurd h.2 hLO
    · rename_i hw
      simp only [hw] at h
      exact ⟨fun _ _ => trivial, h⟩
theorem wpAnyIn_wide (hLO : ¬ LetsOut Q) : ∀ (fuel : Nat) (listed : Array Bool) (a : Act) (w : World), wpAny P md ops Q fuel listed a w → wpAnyIn Fence.wide n P md ops Q fuel listed a w
  | 0, _, _, _, h => h
  | fuel + 1, _, _, _, h => ⟨h.1, fun i hi => wpOpIn_mono (fun a w => wpAnyIn_wide hLO fuel _ a w) (wpOpIn_wide hLO (h.2 i hi))⟩
/-- Only the way on. -/
def Nrm (Q : Exit → Act → World → Prop) : Exit → Act → World → Prop
  | .normal, a, w => Q .normal a w
  | _, _, _ => False
/-- One walk with S held serves every order, inside a round. -/
theorem held_round {l0 id : Nat} {a : Act} {w : World} {S : World → Prop} (hd : ops.toList.all noDefer = true) (hm : P.follows .mixedOrders = true) (hS : S w.drew)
    (h : S w.drew → wpAnyH P .any ops (Nrm Q) S ops.size (Array.replicate ops.size false) a w.drew) : (Code.region id ops true).wpIn (Fence.wide.inRound l0) n P Q a w := by
  have hd' : ∀ (i : Nat) (o : Oper), ops[i]? = some o → noDefer o = true := fun i o ho => by
    rw [← Array.getElem?_toList] at ho
    exact List.all_eq_true.1 hd o (List.mem_of_getElem? ho)
  have hLO : ¬ LetsOut (Nrm Q) := fun ⟨_, _, h⟩ => h
  refine wpIn_mono (Q := Nrm Q) (wpIn_region_any hm (wpAnyIn_inRound rfl hd' _ _ _ _ (wpAnyIn_wide hLO _ _ _ _ (wpAny_of_held _ _ _ _ (h hS))))) ?_
  intro e a w hq
  cases e with
  | normal => exact hq
  | _ => exact (hq : False).elim
end

end Go.Proofs.YtmpnofbhbglfpaaGreatDoor
