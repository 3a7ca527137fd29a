/-
  What table's From hands out, gone through: the cells from a place on are told, one by one, whatever is done meanwhile.
-/
import Derived.Test.YtmpnofbhbglfpaaGreatDoorTFrmM
import Derived.Shelf.RegionOpen
namespace Go.Proofs.YtmpnofbhbglfpaaGreatDoor
open Go.RowKit
attribute [local go_sem] Oper.semAt_some
attribute [local go_sem] size_bstr toList_bstr

/-- Cells that are told: what is asked of one who is told them. X: blocks of the teller's own. -/
def CTells (gf : Nat) (caps : Array Value) (cs : List Cl) (K : World → Prop) : Prop :=
  ∀ (lr : Nat) (w : World) (J : (Nat → Prop) → Nat → World → Prop) (Jx : (Nat → Prop) → World → Prop), (∀ X j W W', J X j W → Kp W W' X → J X j W') → (∀ (X X' : Nat → Prop) j W, J X j W → (∀ i, X' i → X i ∨ W.heap.size ≤ i) → J X' j W) → (∀ X j W, J X j W → K W) → (∀ X W W', Jx X W → Kp W W' X → Jx X W') → J (fun _ => False) 0 w →
    (∀ m X j W c, cs[j]? = some c → (∀ i, X i → w.heap.size ≤ i ∧ i < W.heap.size) → J X j W → YieldAt Fence.wide m Tryz.prog lr #[clV c] W fun e W' => (e = .returned (.bool true) ∧ J X (j + 1) W' ∧ ∀ i, X i → W'.heap[i]? = W.heap[i]?) ∨ (e = .returned (.bool false) ∧ Jx X W' ∧ ∀ i, X i → W'.heap[i]? = W.heap[i]?)) →
    Calls Tryz.prog gf (#[.func (.yield lr) #[] #[]] ++ caps) w fun e W => (∃ u, e = .returned u) ∧ ((∃ X, J X cs.length W) ∨ ∃ X, Jx X W)

/-- The blocks of From's iterator: yield's box, read's, those of the range. -/
def Own4 (y rb D : Nat) : Nat → Prop := fun i => i = y ∨ i = rb ∨ i = D ∨ i = D + 1
/-- Between two blocks that are told. -/
structure FJ (J : (Nat → Prop) → Nat → World → Prop) (y rb D lr : Nat) (RR : Loop) (rv : Value) (S : Nat) (X : Nat → Prop) (n : Nat) (W : World) : Prop where
  j : J (fun i => X i ∨ Own4 y rb D i) n W
  r : W.heap[D + 1]? = some (.loop RR)
  d : W.heap[D]? = some (.deferred (some []))
  y : W.heap[y]? = some (.cells #[.func (.yield lr) #[] #[]] 85 (0, 0))
  b : RBx W rb rv
  x : ∀ i, X i → S ≤ i
theorem FJ.abd {J : (Nat → Prop) → Nat → World → Prop} {y rb D lr : Nat} {RR : Loop} {rv : Value} {S : Nat} {X : Nat → Prop} {n : Nat} {W W' : World} (hab : ∀ X j W W', J X j W → Kp W W' X → J X j W') (hS : y < S ∧ rb < S ∧ D + 1 < S) (h : FJ J y rb D lr RR rv S X n W) (hk : Kp W W' X) : FJ J y rb D lr RR rv S X n W' := by
  have hn : ∀ i, i < S → ¬ X i := fun i hi hx => by have := h.x i hx; omega
  exact ⟨hab _ _ _ _ h.j (hk.mono fun i hi => Or.inl (Or.inl hi)), (hk.block _ (blk_lt h.r) (hn _ hS.2.2)).trans h.r, (hk.block _ (blk_lt h.d) (hn _ (by omega))).trans h.d, (hk.block _ (blk_lt h.y) (hn _ hS.1)).trans h.y, ⟨(hk.block _ (blk_lt h.b.l) (hn _ hS.2.1)).trans h.b.l⟩, h.x⟩
/-- Within a block that is told: gl has its cells. -/
structure FR (J : (Nat → Prop) → Nat → World → Prop) (y rb D lr : Nat) (RR : Loop) (rv : Value) (X : Nat → Prop) (gl : Nat) (W : World) (n : Nat) (Wx : World) : Prop where
  j : J (fun i => X i ∨ Own4 y rb D i ∨ i = gl) n Wx
  r : Wx.heap[D + 1]? = some (.loop { RR with state := .busy })
  d : Wx.heap[D]? = some (.deferred (some []))
  y : Wx.heap[y]? = some (.cells #[.func (.yield lr) #[] #[]] 85 (0, 0))
  b : RBx Wx rb rv
  g : Wx.heap[gl]? = W.heap[gl]?
  x : ∀ i, X i → Wx.heap[i]? = W.heap[i]?
theorem lt_same {W W' : World} {i : Nat} (h : W'.heap[i]? = W.heap[i]?) (hi : i < W.heap.size) : i < W'.heap.size := by
  rw [Array.getElem?_eq_getElem hi] at h
  exact blk_lt h
theorem FR.below {J : (Nat → Prop) → Nat → World → Prop} {y rb D lr : Nat} {RR : Loop} {rv : Value} {X : Nat → Prop} {gl : Nat} {W : World} {n : Nat} {Wx Wy : World} (hab : ∀ X j W W', J X j W → Kp W W' X → J X j W') (hl : (∀ i, X i → i < W.heap.size) ∧ gl < W.heap.size) (h : FR J y rb D lr RR rv X gl W n Wx) (hb : Below Wx.heap.size Wx Wy) : FR J y rb D lr RR rv X gl W n Wy :=
  ⟨hab _ _ _ _ h.j (Kp.of_below _ hb), (hb.block _ (blk_lt h.r)).trans h.r, (hb.block _ (blk_lt h.d)).trans h.d, (hb.block _ (blk_lt h.y)).trans h.y, ⟨(hb.block _ (blk_lt h.b.l)).trans h.b.l⟩, (hb.block _ (lt_same h.g hl.2)).trans h.g, fun i hi => (hb.block _ (lt_same (h.x i hi) (hl.1 i hi))).trans (h.x i hi)⟩
theorem FR.lt {J : (Nat → Prop) → Nat → World → Prop} {y rb D lr : Nat} {RR : Loop} {rv : Value} {X : Nat → Prop} {gl : Nat} {W : World} {n : Nat} {Wx : World} (hl : (∀ i, X i → i < W.heap.size) ∧ gl < W.heap.size) (h : FR J y rb D lr RR rv X gl W n Wx) {i : Nat} (hi : X i ∨ Own4 y rb D i ∨ i = gl) : i < Wx.heap.size := by
  rcases hi with hi | (rfl | rfl | rfl | rfl) | rfl
  · exact lt_same (h.x i hi) (hl.1 i hi)
  · exact blk_lt h.y
  · exact blk_lt h.b.l
  · exact blk_lt h.d
  · exact blk_lt h.r
  · exact lt_same h.g hl.2
/-- Behind a yield. -/
theorem FR.told {J : (Nat → Prop) → Nat → World → Prop} {y rb D lr : Nat} {RR : Loop} {rv : Value} {X : Nat → Prop} {gl : Nat} {W : World} {n m : Nat} {Wx Wy : World} (h : FR J y rb D lr RR rv X gl W n Wx) (hj : J (fun i => X i ∨ Own4 y rb D i ∨ i = gl) m Wy) (hk : ∀ i, (X i ∨ Own4 y rb D i ∨ i = gl) → Wy.heap[i]? = Wx.heap[i]?) : FR J y rb D lr RR rv X gl W m Wy :=
  ⟨hj, (hk _ (Or.inr (Or.inl (Or.inr (Or.inr (Or.inr rfl)))))).trans h.r, (hk _ (Or.inr (Or.inl (Or.inr (Or.inr (Or.inl rfl)))))).trans h.d, (hk _ (Or.inr (Or.inl (Or.inl rfl)))).trans h.y, ⟨(hk _ (Or.inr (Or.inl (Or.inr (Or.inl rfl))))).trans h.b.l⟩, (hk _ (Or.inr (Or.inr rfl))).trans h.g, fun i hi => (hk i (Or.inl hi)).trans (h.x i hi)⟩
/-- The iterator was left. -/
def FX (Jx : (Nat → Prop) → World → Prop) (D : Nat) (RR : Loop) (W : World) : Prop := (∃ X : Nat → Prop, Jx X W ∧ X D ∧ X (D + 1)) ∧ W.heap[D + 1]? = some (.loop { RR with state := .done, pending := some .ret }) ∧ W.heap[D]? = some (.deferred (some []))

theorem TB.bodies {w : World} {tb : Nat} {vb vl : Value} {Bs : List (List Cl)} (h : TB w tb vb vl Bs) : ∃ q g cap, vb = .slice q Bs.length cap ∧ (0 < Bs.length → q = some ⟨g, 0, none⟩ ∧ StrsAt w g 0 (Bs.map blkB) ∧ g < w.heap.size) ∧ Bs.length ≤ cap := by
  obtain ⟨q, g, cap, q2, g2, cap2, e1, a1, e2, a2⟩ := h.parts
  have hr := h.rb
  rw [e1] at hr
  refine ⟨q, g, cap, e1, fun h0 => ?_, ?_⟩
  · exact a1 (by rw [List.length_map]; exact h0)
  · rcases hr.2 with ⟨hv, h0⟩ | ⟨g', cap', cur, hv, _, _, hnc, _⟩
    · omega
    · cases hv
      exact hnc
theorem two_ways {e : Ending} {P Q : Prop} (h : (e = .returned (.bool true) ∧ P) ∨ (e = .returned (.bool false) ∧ Q)) : ∃ b : Bool, e = .returned (.bool b) ∧ Hid ((b = true ∧ P) ∨ (b = false ∧ Q)) := by
  rcases h with ⟨h1, h2⟩ | ⟨h1, h2⟩
  · exact ⟨true, h1, Or.inl ⟨rfl, h2⟩⟩
  · exact ⟨false, h1, Or.inr ⟨rfl, h2⟩⟩
theorem filter_take_no {l : List Cl} {f : Cl → Bool} {i : Nat} (h : i < l.length) (hf : f l[i] = false) : (l.take (i + 1)).filter f = (l.take i).filter f := by
  rw [List.take_succ_eq_append_getElem h, List.filter_append]
  simp [hf]
theorem filter_take_yes {l : List Cl} {f : Cl → Bool} {i : Nat} (h : i < l.length) (hf : f l[i] = true) : (l.take (i + 1)).filter f = (l.take i).filter f ++ [l[i]] := by
  rw [List.take_succ_eq_append_getElem h, List.filter_append]
  simp [hf]
/-- The cell that is told next. -/
theorem frm_next {Bs : List (List Cl)} {B : List Cl} {p : List UInt8 × List UInt8} {j i : Nat} (hB : Bs[j]? = some B) (hi : i < B.length) (hf : naP (plP B[i]) p = true) : (frmL Bs p)[(frmL (Bs.take j) p).length + ((B.take i).filter fun c => naP (plP c) p).length]? = some B[i] := by
  have hj := (List.getElem?_eq_some_iff.1 hB)
  obtain ⟨hl, hb⟩ := hj
  have e : Bs = Bs.take j ++ ([B] ++ Bs.drop (j + 1)) := by
    conv => lhs; rw [← List.take_append_drop j Bs, List.drop_eq_getElem_cons hl, hb]
    rfl
  have e2 : frmL Bs p = frmL (Bs.take j) p ++ (((B.take i).filter fun c => naP (plP c) p) ++ (B[i] :: ((B.drop (i + 1)).filter fun c => naP (plP c) p) ++ frmL (Bs.drop (j + 1)) p)) := by
    conv => lhs; rw [e, frmL_append, frmL_append, frmL_one]
    congr 1
    rw [← List.append_assoc]
    congr 1
    conv => lhs; rw [← List.take_append_drop i B, List.filter_append, List.drop_eq_getElem_cons hi, List.filter_cons_of_pos (p := fun c => naP (plP c) p) hf]
  rw [e2, List.getElem?_append_right (by omega), Nat.add_sub_cancel_left, List.getElem?_append_right (by omega), Nat.sub_self]
  rfl
theorem frm_cnt {Bs : List (List Cl)} {B : List Cl} {p : List UInt8 × List UInt8} {j : Nat} (hB : Bs[j]? = some B) : (frmL (Bs.take (j + 1)) p).length = (frmL (Bs.take j) p).length + ((B.take B.length).filter fun c => naP (plP c) p).length := by
  obtain ⟨hl, hb⟩ := List.getElem?_eq_some_iff.1 hB
  rw [List.take_succ_eq_append_getElem hl, hb, frmL_append, frmL_one, List.length_append, List.take_length]

set_option maxHeartbeats 8000000 in
set_option maxRecDepth 100000 in
theorem from1_tells (b pb tb : Nat) (vb vl : Value) (Bs : List (List Cl)) (row col : List UInt8) (hG : GB Bs) (hn : Bs.length ≤ 1000000000) :
    CTells 40 #[.pointer (some ⟨b, 0, none⟩), .pointer (some ⟨pb, 0, none⟩)] (frmL Bs (row, col)) (fun W => FrX W b pb (some ⟨tb, 0, none⟩) row col ∧ TB W tb vb vl Bs) := by
  intro lr w J Jx hab hgr hI habx hJ hY
  obtain ⟨hX, hT⟩ := hI _ _ _ hJ
  obtain ⟨q, g, cap, e1, a1, hcap⟩ := hT.bodies
  subst e1
  have hnf : ∀ w : World, (binOp .eql 85 (.func (.yield lr) #[] #[]) .nilFunc).run Tryz.prog w = .ok (.bool false) w := fun w => by first | rfl | kernel_rfl | simp [binOp, Op.equal, Op.equalIn, Op.maxDepth, go_sem]
  have hb1 : Below w.heap.size w (w.alloc (.cells #[.func (.yield lr) #[] #[]] 85)) := (Below.refl _ _).alloc (Nat.le_refl _) _
  have hy1 : (w.alloc (.cells #[.func (.yield lr) #[] #[]] 85)).heap[w.heap.size]? = some (.cells #[.func (.yield lr) #[] #[]] 85 (0, 0)) := heap_alloc_new _ _
  generalize hw1 : w.alloc (.cells #[.func (.yield lr) #[] #[]] 85) = w1 at *
  have hc := hT.cells
  have hS : ∀ W, Below w.heap.size w W → W.cell? ⟨b, 0, none⟩ = some (.pointer (some ⟨tb, 0, none⟩)) ∧ W.cell? ⟨tb, 0, none⟩ = some (.slice q Bs.length cap) ∧ W.cell? ⟨pb, 0, none⟩ = some (.string (bstr row)) ∧ W.cell? ⟨pb, 1, none⟩ = some (.string (bstr col)) := fun W hb =>
    ⟨(Bl.cells_block (hX.below hb).t).1 0, (hT.below hb).cells.1, (Bl.cells_block (hX.below hb).p).1 0, (Bl.cells_block (hX.below hb).p).1 1⟩
  have hyc : w1.cell? ⟨w.heap.size, 0, none⟩ = some (.func (.yield lr) #[] #[]) := by simp [World.cell?, hy1]
  have c0 := (hS w1 hb1).1
  have hbd : Below w.heap.size w w1.drew := below2 hb1 ((Below.refl _ _).drew)
  have s0 := hS w1.drew hbd
  have hfst := fun W (hb : Below w.heap.size w W) => first_any tb _ vl Bs (row, col) W (hT.below hb) hn
  have HTL : Hid (∀ r : Nat, r ≤ Bs.length → ∃ q3 : Option Addr, Hid (q3 = if cap = r then q else q.map (·.add (r * 1))) ∧ ∀ W, (Instr.slice 65 (.slice q Bs.length cap) (some (.int .i64 (r : Int))) none none).run Tryz.prog W = .ok (.slice q3 (Bs.length - r) (cap - r)) W) := fun r hr => ⟨_, rfl, fun W => etail_run (P := Tryz.prog) (t := 65) (q := q) (len := Bs.length) (cap := cap) (n := r) (s := 1) Tryz.underlying65 (fun W => Tryz.sizeOf9 W) hr W⟩
  have HS : Hid _ := hS
  have HJ : Hid _ := hJ
  have HY : Hid _ := hY
  have HAB : Hid _ := hab
  have HGR : Hid _ := hgr
  have HI : Hid _ := hI
  have HAX : Hid _ := habx
  clear hS hJ hY hab hgr hI habx hc
  refine calls_marks Tryz.func40 rfl ?_
  simp only [Tryz.ntmps40, List.size_toArray, List.length_cons, List.length_nil, Nat.reduceAdd, Nat.reduceSub, Array.replicate_succ, Array.replicate_zero, List.push_toArray, List.append_toArray, List.nil_append, List.cons_append]
  gi_wp2_with fail
  refine wpIn_wide.2 ?_
  go_region_held3 (fun W => W.cell? ⟨b, 0, none⟩ = some (.pointer (some ⟨tb, 0, none⟩)) ∧ W.cell? ⟨tb, 0, none⟩ = some (.slice q Bs.length cap) ∧ W.cell? ⟨pb, 0, none⟩ = some (.string (bstr row)) ∧ W.cell? ⟨pb, 1, none⟩ = some (.string (bstr col)))
    (first | with_reducible exact s0 | with_reducible exact s1 | with_reducible exact s2)
    (first
      | (go_at_call 37; with_reducible refine (hfst _ hbd).mono ?_; rintro e W1 ⟨r, rfl, hr, hr1, hr2, hb2⟩; have hb2' := below2 hbd hb2; have s1 := HS.out W1 hb2'; obtain ⟨q3, HQ3, htl⟩ := HTL.out r hr)
      | (go_at_call 32; with_reducible refine (tread_any _ _ _ _).mono ?_; rintro e W2 ⟨rfl, hrb, hsz2, hb3⟩; have hb3' := below2 hb2' hb3; have s2 := HS.out W2 hb3'))
  clear hfst htl s0 s1 s2 c0 hyc hnf
  gi_wp2_with fail
  refine wp_range2 (by omega) rfl (enters_of Tryz.func72 (by kernel_rfl) rfl) ?_
  intro RR hRR
  have hbd1 : Below w1.heap.size w1 W1 := ⟨hb2.os, hb2.tape, hb2.output, hb2.size, hb2.block⟩
  have hbW : Below W2.heap.size W2 ((W2.alloc (.deferred (some []))).alloc (.loop RR)) := ((Below.refl _ _).alloc (Nat.le_refl _) _).alloc (by simp) _
  have hWa : ((W2.alloc (.deferred (some []))).alloc (.loop RR)).heap[W2.heap.size + 1]? = some (.loop RR) := by
    have := World.alloc_heap_new (W2.alloc (.deferred (some []))) (.loop RR)
    rwa [World.size_alloc] at this
  have hWb : ((W2.alloc (.deferred (some []))).alloc (.loop RR)).heap[W2.heap.size]? = some (.deferred (some [])) := (Below.heap_alloc _ _ _ (by simp)).trans (World.alloc_heap_new W2 _)
  obtain ⟨W3, hWW⟩ : ∃ W3, W3 = (W2.alloc (.deferred (some []))).alloc (.loop RR) := ⟨_, rfl⟩
  have hsz3 : W3.heap.size = W2.heap.size + 1 + 1 := by rw [hWW]; simp
  rw [← hWW] at hbW hWa hWb ⊢
  clear hWW hw1
  have hb1W := below2 (below2 hbd1 hb3) hbW
  have hbwW := below2 hb1 hb1W
  have hy3 := (hb1W.block _ (blk_lt hy1)).trans hy1
  have hrb3 := hrb.below hbW (blk_lt hrb.l)
  have z1 := hb1.size
  have z2 := hbd1.size
  have z3 := hb3.size
  have zy := blk_lt hy1
  have hGd : GB (Bs.drop r) := by
    have h := hG
    rw [← List.take_append_drop r Bs] at h
    exact h.right
  have hbl : ((Bs.drop r).map blkB).length = Bs.length - r := by simp
  have htk := read1_tellsK q3 g r (cap - r) W1.heap.size ((Bs.drop r).map blkB) (fun h0 => by
    rw [hbl] at h0
    rw [HQ3.out, if_neg (by omega), (a1 (by omega)).1]
    simp [Addr.add]
    intro h; omega) (fun s hs => by
    obtain ⟨B, hB, rfl⟩ := List.mem_map.1 hs
    have := (hGd.good B hB).1.long
    omega) (by rw [hbl]; omega)
  rw [rdB_map hGd, hbl] at htk
  have hlast := hWa
  have HMT : Hid ((frmL ((Bs.drop r).take (Bs.drop r).length) (row, col)).length = (frmL Bs (row, col)).length) := by
    show _ = _
    rw [List.take_length, from_math hG hr hr1]
  have HNX : Hid (∀ j B i (hi : i < B.length), (Bs.drop r)[j]? = some B → naP (plP B[i]) (row, col) = true → (frmL Bs (row, col))[(frmL ((Bs.drop r).take j) (row, col)).length + ((B.take i).filter fun c => naP (plP c) (row, col)).length]? = some B[i]) := fun j B i hi hB hf => by
    have := frm_next hB hi hf
    rwa [from_math hG hr hr1] at this
  have hSS : w.heap.size < W3.heap.size ∧ W1.heap.size < W3.heap.size ∧ W2.heap.size + 1 < W3.heap.size := by omega
  have hte := htk (W2.heap.size + 1) W3 (fun X j W => FJ J w.heap.size W1.heap.size W2.heap.size lr RR (.slice q3 (Bs.length - r) (cap - r)) W3.heap.size X (frmL ((Bs.drop r).take j) (row, col)).length W) (FX Jx W2.heap.size RR) (fun X j W W' h hk _ => h.abd HAB.out hSS hk) (fun X j W h => ⟨h.b, fun h0 => ?_⟩) (fun X W hx hb => ?_) ?_
  · refine hte.mono ?_
    clear hte htk
    rintro e W4 ⟨⟨u, rfl⟩, ⟨X, hj⟩ | hj⟩
    · refine ⟨⟨_, rfl⟩, Or.inl ⟨hj.r, ?_⟩⟩
      have hd4 : (W4.putObj (W2.heap.size + 1) (.loop { RR with state := .exhausted })).heap[W2.heap.size]? = some (.deferred (some [])) := (World.putObj_heap_other (by omega)).trans hj.d
      refine ⟨by simp, .inl ⟨_, _, rfl, run_takeDeferred hd4, ?_⟩⟩
      refine ⟨_, results_none rfl _ _ _, ⟨_, rfl⟩, Or.inl ⟨fun i => X i ∨ Own4 w.heap.size W1.heap.size W2.heap.size i, ?_⟩⟩
      have h5 := hj.j
      rw [HMT.out] at h5
      exact HAB.out _ _ _ _ h5 (((Kp.refl _ _).put _ (Or.inl (Or.inr (Or.inr (Or.inr (Or.inr rfl)))))).put _ (Or.inl (Or.inr (Or.inr (Or.inr (Or.inl rfl))))))
    · obtain ⟨⟨X, hx, hxD, hxE⟩, h1, h2⟩ := hj
      refine ⟨⟨_, rfl⟩, Or.inr ⟨.ret, h1, ?_⟩⟩
      have hd4 : (W4.putObj (W2.heap.size + 1) (.loop { RR with state := .exhausted, pending := some .ret })).heap[W2.heap.size]? = some (.deferred (some [])) := (World.putObj_heap_other (by omega)).trans h2
      gi_wp2
      refine ⟨by simp, .inl ⟨_, _, rfl, run_takeDeferred hd4, ?_⟩⟩
      exact ⟨_, results_none rfl _ _ _, ⟨_, rfl⟩, Or.inr ⟨X, HAX.out _ _ _ hx (((Kp.refl _ _).put _ (Or.inl hxE)).put _ (Or.inl hxD))⟩⟩
  · obtain ⟨_, hTW⟩ := HI.out _ _ _ h.j
    obtain ⟨q', g', cap', e', a', _⟩ := hTW.bodies
    cases e'
    obtain ⟨h9, h1, _⟩ := a' (by omega)
    obtain ⟨h8, _, _⟩ := a1 (by omega)
    rw [h8] at h9
    cases h9
    intro k hk
    have hk2 : r + k < (Bs.map blkB).length := by rw [hbl] at hk; rw [List.length_map]; omega
    have h3 := h1 (r + k) hk2
    have e : ((Bs.drop r).map blkB)[k] = (Bs.map blkB)[r + k] := by simp
    rw [Nat.zero_add] at h3
    rw [e]
    exact h3
  · have h1 := HGR.out _ (fun i => X i ∨ Own4 w.heap.size W1.heap.size W2.heap.size i) _ _ HJ.out (fun i hi => Or.inr (by
      rcases hi with hi | rfl | rfl | rfl | rfl
      · have := (hx i hi).1; omega
      · omega
      · omega
      · omega
      · omega))
    have h2 := HAB.out _ _ _ _ h1 (Kp.of_below _ (below2 hbwW hb))
    refine ⟨?_, (hb.block _ (by omega)).trans hWa, (hb.block _ (by omega)).trans hWb, (hb.block _ (by omega)).trans hy3, hrb3.below hb (by omega), fun i hi => (hx i hi).1⟩
    show J _ (frmL ((Bs.drop r).take 0) (row, col)).length W
    rw [List.take_zero, frmL_nil]
    exact h2
  · clear htk hy3 hWa hWb hrb3 hy1 hrb hlast
    intro m X j W B v hBj hXl hTV hj hV
    obtain ⟨V, gl, capl, hjV, hkV, rfl, hgl⟩ := hV
    obtain ⟨rvl, hrvl⟩ : ∃ rvl, rvl = Value.slice q3 (Bs.length - r) (cap - r) := ⟨_, rfl⟩
    rw [← hrvl] at hj hjV ⊢
    obtain ⟨D, hD⟩ : ∃ D, D = W2.heap.size := ⟨_, rfl⟩
    obtain ⟨rb, hrbe⟩ : ∃ rb, rb = W1.heap.size := ⟨_, rfl⟩
    rw [← hD, ← hrbe] at hSS hj hjV ⊢
    have hd1 : w.heap.size < D := by omega
    have hd2 : rb < D := by omega
    have hd3 : w.heap.size < rb := by omega
    have HD3 : Hid (W3.heap.size = D + 1 + 1) := by show _ = _; omega
    clear hD hrbe
    obtain ⟨n0, hn0⟩ : ∃ n0, n0 = (frmL ((Bs.drop r).take j) (row, col)).length := ⟨_, rfl⟩
    have hcnt := frm_cnt (p := (row, col)) hBj
    rw [← hn0] at hj hjV hcnt
    have hnx := HNX.out j B
    rw [← hn0] at hnx
    have key : ∀ RP : Ending → World → Prop, Hid (∀ W', FJ J w.heap.size rb D lr RR rvl W3.heap.size X (frmL ((Bs.drop r).take (j + 1)) (row, col)).length W' → (∀ i, X i → W'.heap[i]? = W.heap[i]?) → RP (.returned (.bool true)) W') → Hid (∀ W', FX Jx D RR W' → RP (.returned (.bool false)) W') → YieldAt Fence.wide m Tryz.prog (D + 1) #[.slice (some ⟨gl, 0, none⟩) B.length capl, .string (bstr (blkB B))] W RP := by
      intro RP hT1 hF1
      have eRR : ({ RR with state := .ready, pending := none } : Loop) = RR := by
        have e1 := hRR.s
        have e2 := hRR.e
        cases RR
        simp_all
      obtain ⟨gl', off, capl', hvv, hcr, hcb, hlc⟩ := hTV.out
      cases hvv
      have hjg : J (fun i => X i ∨ Own4 w.heap.size rb D i ∨ i = gl) n0 W := by
        have h1 := HGR.out _ (fun i => X i ∨ Own4 w.heap.size rb D i ∨ i = gl) _ _ hjV.j (fun i hi => by
          rcases hi with hi | hi | rfl
          · exact Or.inl (Or.inl hi)
          · exact Or.inl (Or.inr hi)
          · exact Or.inr hgl)
        exact HAB.out _ _ _ _ h1 (hkV.mono fun i hi => Or.inl (Or.inl hi))
      have hlim : (∀ i, X i → i < W.heap.size) ∧ gl < W.heap.size := ⟨fun i hi => (hXl i hi).2.1, hcb.lt⟩
      have hlo : ∀ i, (X i ∨ Own4 w.heap.size rb D i ∨ i = gl) → w.heap.size ≤ i := fun i hi => by
        rcases hi with hi | (rfl | rfl | rfl | rfl) | rfl
        · have := (hXl i hi).1; have := HD3.out; omega
        · omega
        · omega
        · omega
        · omega
        · have := blk_lt hjV.y; omega
      have hgD : gl ≠ D + 1 := fun e => by
        obtain ⟨cur, fz, h⟩ := hcb
        rw [e, hj.r] at h
        cases h
      have hB32 : B.length ≤ 32768 := good_len (hGd.good B (List.mem_of_getElem? hBj)).1
      have hFR0 : FR J w.heap.size rb D lr RR rvl X gl W (n0 + ((B.take 0).filter fun c => naP (plP c) (row, col)).length) (W.putObj (D + 1) (.loop { RR with state := .busy })) := by
        refine ⟨?_, World.putObj_heap_same (blk_lt hj.r), (World.putObj_heap_other (by omega)).trans hj.d, (World.putObj_heap_other (by omega)).trans hj.y, ⟨(World.putObj_heap_other (by omega)).trans hj.b.l⟩, World.putObj_heap_other hgD, fun i hi => World.putObj_heap_other (by have := hj.x i hi; have := HD3.out; omega)⟩
        rw [List.take_zero]
        exact HAB.out _ _ _ _ hjg ((Kp.refl _ _).put _ (Or.inl (Or.inr (Or.inl (Or.inr (Or.inr (Or.inr rfl)))))))
      have hjr := hj.r
      have HJX : Hid _ := hj.x
      have HCNT : Hid _ := hcnt
      have HNXX : Hid _ := hnx
      have HFR0 : Hid _ := hFR0
      have HLO : Hid _ := hlo
      have HBJ : Hid _ := hBj
      have HXL : Hid _ := hXl
      have HRR : Hid _ := hRR
      clear hj hjV hkV hcnt hnx hFR0 hTV hjg hlo hBj hXl HNX HMT
      refine yield_round2 hjr hRR rfl ?_
      clear hRR
      gi_wp2
      refine ⟨_, run_beginRound hjr HRR.out.s, ?_⟩
      replace HFR0 := HFR0.out
      generalize W.putObj (D + 1) (.loop { RR with state := .busy }) = Wb at *
      have HF0 : Hid _ := HFR0
      clear HFR0 hjr
      gi_wp2_with fail
      refine wpIn_loop_n (fun k a Wx => ∃ (i : Nat) (u4 u5 u6 u7 u8 u9 u10 u11 u12 u13 u14 u15 u16 u17 u18 u19 u20 u21 u22 u23 u26 u27 u28 u29 u30 u31 u32 u33 u34 u35 u36 u37 u38 u39 u40 u41 : Value), a = { tmps := #[.func (.yield lr) #[] #[], .pointer (some ⟨b, 0, none⟩), .pointer (some ⟨pb, 0, none⟩), .pointer (some ⟨w.heap.size, 0, none⟩), u4, u5, u6, u7, u8, u9, u10, u11, u12, u13, u14, u15, u16, u17, u18, u19, u20, u21, u22, u23, .slice (some ⟨gl, 0, none⟩) B.length capl, .int .i64 (B.length : Int), u26, u27, u28, u29, u30, u31, u32, u33, u34, u35, u36, u37, u38, u39, u40, u41], defers := [] } ∧ u26 = .int .i64 (i : Int) ∧ i + k = B.length ∧ FR J w.heap.size rb D lr RR rvl X gl W (n0 + ((B.take i).filter fun c => naP (plP c) (row, col)).length) Wx) B.length ?start ?round
      case start => exact ⟨0, _, _, _, _, _, _, _, _, _, _, _, _, _, _, _, _, _, _, _, _, _, _, _, _, _, _, _, _, _, _, _, _, _, _, _, _, rfl, rfl, by omega, HF0.out⟩
      case round =>
        clear HF0
        rintro k a Wx ⟨i, u4, u5, u6, u7, u8, u9, u10, u11, u12, u13, u14, u15, u16, u17, u18, u19, u20, u21, u22, u23, u26, u27, u28, u29, u30, u31, u32, u33, u34, u35, u36, u37, u38, u39, u40, u41, rfl, rfl, hik, hFR⟩
        cases k with
        | zero =>
          have hge : ¬ ((i : Int) < (B.length : Int)) := by omega
          have hiB : i = B.length := by omega
          have HIB : Hid _ := hiB
          clear hiB
          gi_wp2
          refine ⟨_, _, run_endRound (r := { RR with state := .busy }) none hFR.r, ?_⟩
          refine hT1.out _ ⟨?_, (World.putObj_heap_same (blk_lt hFR.r)).trans (congrArg (fun r => some (Obj.loop r)) eRR), (World.putObj_heap_other (by omega)).trans hFR.d, (World.putObj_heap_other (by omega)).trans hFR.y, ⟨(World.putObj_heap_other (by omega)).trans hFR.b.l⟩, HJX.out⟩ (fun p hp => (World.putObj_heap_other (by have := HJX.out p hp; have := HD3.out; omega)).trans (hFR.x p hp))
          have h1 := HGR.out _ (fun i => X i ∨ Own4 w.heap.size rb D i) _ _ hFR.j (fun i hi => Or.inl (by rcases hi with h | h; exact Or.inl h; exact Or.inr (Or.inl h)))
          rw [HCNT.out, ← HIB.out]
          exact HAB.out _ _ _ _ h1 ((Kp.refl _ _).put _ (Or.inl (Or.inr (Or.inr (Or.inr (Or.inr rfl))))))
        | succ k =>
          have hlt : i < B.length := by omega
          have hgo : (i : Int) < (B.length : Int) := by omega
          have hA := (hcr.blk hFR.g) i hlt
          rw [Nat.zero_add] at hA
          obtain ⟨c, hc⟩ : ∃ c, c = B[i] := ⟨_, rfl⟩
          rw [← hc] at hA
          have HC : Hid _ := hc
          clear hc
          obtain ⟨cr, ck, cv, cg, cx⟩ := c
          obtain ⟨a0, a1', a2, a3, a4⟩ := hA
          simp only at a0 a1' a2 a3 a4
          have hof : ∀ W, Calls Tryz.prog 41 #[.agg #[.string (bstr cr), .string (bstr ck), .int .u64 cv, .bool cg, .string (bstr cx)]] W fun e w' => e = .returned (.agg #[.string (bstr cr), .string (bstr ck)]) ∧ Below W.heap.size W w' := fun W => of_any ⟨cr, ck, cv, cg, cx⟩ W
          have hah : ∀ W, Calls Tryz.prog 42 #[.agg #[.string (bstr cr), .string (bstr ck)], .agg #[.string (bstr row), .string (bstr col)]] W fun e w' => e = .returned (.bool (decide (cc cr ck 0 row col 0 < 0))) ∧ Below W.heap.size W w' := fun W => ahead_any (cr, ck) (row, col) W
          have hbc : Below Wx.heap.size Wx (Wx.alloc (.cells #[.string (bstr cr), .string (bstr ck), .int .u64 cv, .bool cg, .string (bstr cx)] 39)) := (Below.refl _ _).alloc (Nat.le_refl _) _
          have hcA := CellAt.new Wx 39 cr ck cv cg cx
          have hnb := heap_alloc_new Wx (.cells #[.string (bstr cr), .string (bstr ck), .int .u64 cv, .bool cg, .string (bstr cx)] 39)
          obtain ⟨d, hd⟩ : ∃ d, d = decide (cc cr ck 0 row col 0 < 0) := ⟨_, rfl⟩
          rw [← hd] at hah
          have hnp : naP (plP B[i]) (row, col) = !d := by rw [← HC.out, hd]; rfl
          have hstep : ∀ Wf, Below (Wx.alloc (.cells #[.string (bstr cr), .string (bstr ck), .int .u64 cv, .bool cg, .string (bstr cx)] 39)).heap.size (Wx.alloc (.cells #[.string (bstr cr), .string (bstr ck), .int .u64 cv, .bool cg, .string (bstr cx)] 39)) Wf → (Wf.cell? ⟨pb, 0, none⟩ = some (.string (bstr row)) ∧ Wf.cell? ⟨pb, 1, none⟩ = some (.string (bstr col))) ∧ Wf.cell? ⟨w.heap.size, 0, none⟩ = some (.func (.yield lr) #[] #[]) ∧ (Wf.cell? ⟨Wx.heap.size, 0, none⟩ = some (.string (bstr cr)) ∧ Wf.cell? ⟨Wx.heap.size, 1, none⟩ = some (.string (bstr ck)) ∧ Wf.cell? ⟨Wx.heap.size, 2, none⟩ = some (.int .u64 cv) ∧ Wf.cell? ⟨Wx.heap.size, 3, none⟩ = some (.bool cg) ∧ Wf.cell? ⟨Wx.heap.size, 4, none⟩ = some (.string (bstr cx))) ∧ FR J w.heap.size rb D lr RR rvl X gl W (n0 + ((B.take i).filter fun c => naP (plP c) (row, col)).length) Wf := by
            intro Wf hbf
            have hf := hFR.below HAB.out hlim (below2 hbc hbf)
            have hs := (HI.out _ _ _ hf.j).1
            have hn := (hbf.block _ (blk_lt hnb)).trans hnb
            exact ⟨⟨(Bl.cells_block hs.p).1 0, (Bl.cells_block hs.p).1 1⟩, (Bl.cells_block hf.y).1 0, ⟨(Bl.cells_block hn).1 0, (Bl.cells_block hn).1 1, (Bl.cells_block hn).1 2, (Bl.cells_block hn).1 3, (Bl.cells_block hn).1 4⟩, hf⟩
          obtain ⟨⟨x0, x1⟩, xy, ⟨x2, x3, x4, x5, x6⟩, xf⟩ := hstep _ (Below.refl _ _)
          have HST : Hid _ := hstep
          have HXF : Hid _ := xf
          have HNP : Hid _ := hnp
          clear hstep hFR hbc hcA hnb hd hnp xf
          have hmx : Tryz.prog.follows .mixedOrders = true := by kernel_rfl
          gi_wp2_with fail
          obtain ⟨Wc, hWc⟩ : ∃ Wc, Wc = Wx.alloc (.cells #[.string (bstr cr), .string (bstr ck), .int .u64 cv, .bool cg, .string (bstr cx)] 39) := ⟨_, rfl⟩
          rw [← hWc] at x0 x1 xy x2 x3 x4 x5 x6 HST HXF ⊢
          clear hWc
          cases d with
          | true =>
            gi_region_with_o (first
              | (refine ⟨trivial, fun h => (by cases h), ?_⟩; refine (CallsIn.inRound _ (callsIn_wide.2 (hof _))).mono ?_; rintro e W5 ⟨rfl, hb5⟩; have hb5' : Below Wc.heap.size Wc W5 := ⟨hb5.os, hb5.tape, hb5.output, hb5.size, hb5.block⟩; obtain ⟨⟨m0, m1⟩, _, _, _⟩ := HST.out W5 hb5')
              | (refine ⟨trivial, fun h => (by cases h), ?_⟩; refine (CallsIn.inRound _ (callsIn_wide.2 (hah _))).mono ?_; rintro e W6 ⟨rfl, hb6⟩; have hb6' := below2 hb5' hb6; obtain ⟨_, _, _, f6⟩ := HST.out W6 hb6')
              | (refine ⟨fun _ h => (by cases h), ?_⟩))
            all_goals (
              gi_wp2
              refine ⟨k, rfl, i + 1, _, _, _, _, _, _, _, _, _, _, _, _, _, _, _, _, _, _, _, _, _, _, _, _, _, _, _, _, _, _, _, _, _, _, _, _, rfl, by go_num, by omega, ?_⟩
              rw [filter_take_no hlt HNP.out]
              exact f6)
          | false =>
            have hnx := HNXX.out i hlt HBJ.out (by rw [HNP.out]; rfl)
            rw [← HC.out] at hnx
            have HNEXT : Hid _ := hnx
            clear hnx
            gi_region_with_o (first
              | (refine ⟨trivial, fun h => (by cases h), ?_⟩; refine (CallsIn.inRound _ (callsIn_wide.2 (hof _))).mono ?_; rintro e W5 ⟨rfl, hb5⟩; have hb5' : Below Wc.heap.size Wc W5 := ⟨hb5.os, hb5.tape, hb5.output, hb5.size, hb5.block⟩; obtain ⟨⟨m0, m1⟩, _, _, _⟩ := HST.out W5 hb5')
              | (refine ⟨trivial, fun h => (by cases h), ?_⟩; refine (CallsIn.inRound _ (callsIn_wide.2 (hah _))).mono ?_; rintro e W6 ⟨rfl, hb6⟩; have hb6' := below2 hb5' hb6; obtain ⟨_, y6, ⟨k0, k1, k2, k3, k4⟩, f6⟩ := HST.out W6 hb6'; obtain ⟨fn, tmps, assign, body, hyr, hR⟩ := HY.out (m - 1) (fun i => X i ∨ Own4 w.heap.size rb D i ∨ i = gl) _ W6 ⟨cr, ck, cv, cg, cx⟩ HNEXT.out (fun i hi => ⟨HLO.out i hi, f6.lt hlim hi⟩) f6.j)
              | (refine ⟨fun h => (by cases h), ?_⟩; refine RoundIn.mono hR ?_; intro e W7 hq; obtain ⟨bt, rfl, hq2⟩ := two_ways hq; clear hq))
            all_goals (
              rcases hq2.out with ⟨rfl, hJ7, hX7⟩ | ⟨rfl, hJ7, hX7⟩
              · have f7 := f6.told hJ7 hX7
                clear hyr hR hq2
                gi_wp2
                refine ⟨k, rfl, i + 1, _, _, _, _, _, _, _, _, _, _, _, _, _, _, _, _, _, _, _, _, _, _, _, _, _, _, _, _, _, _, _, _, _, _, _, _, rfl, by go_num, by omega, ?_⟩
                rw [filter_take_yes hlt (by rw [HNP.out]; rfl), List.length_append, List.length_singleton, ← Nat.add_assoc]
                exact f7
              · have h7r := (hX7 _ (Or.inr (Or.inl (Or.inr (Or.inr (Or.inr rfl)))))).trans f6.r
                have h7d := (hX7 _ (Or.inr (Or.inl (Or.inr (Or.inr (Or.inl rfl)))))).trans f6.d
                clear hyr hR hq2
                gi_wp2
                refine ⟨_, _, run_endRound (r := { RR with state := .busy }) (some .ret) h7r, ?_⟩
                exact hF1.out _ ⟨⟨_, HAX.out _ _ _ hJ7 ((Kp.refl _ _).put _ (Or.inl (Or.inr (Or.inl (Or.inr (Or.inr (Or.inr rfl))))))), Or.inr (Or.inl (Or.inr (Or.inr (Or.inl rfl)))), Or.inr (Or.inl (Or.inr (Or.inr (Or.inr rfl))))⟩, World.putObj_heap_same (blk_lt h7r), (World.putObj_heap_other (by omega)).trans h7d⟩)
    exact key _ (fun W' h1 h2 => Or.inl ⟨rfl, h1, h2⟩) (fun W' h => Or.inr ⟨rfl, h⟩)

end Go.Proofs.YtmpnofbhbglfpaaGreatDoor
