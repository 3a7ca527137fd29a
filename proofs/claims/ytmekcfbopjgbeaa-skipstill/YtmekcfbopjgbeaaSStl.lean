/-
  SkipStill, walked.
-/
import Derived.Test.YtmekcfbopjgbeaaSPutW
import Derived.Test.YtmekcfbopjgbeaaSAlk
import Derived.Sort.BigQuietIn
namespace Go.Proofs.Ytmekcfbopjgbeaa
open Go.RowKit
attribute [local go_sem] Oper.semAt_some
attribute [local go_sem] size_bstr toList_bstr ls_def
attribute [local go_sem high] cell_eql5 cell_neq5 cell_guard

/-- Something kept aside, that no search may take up. -/
structure Kep (P : Prop) : Prop where
  out : P
theorem cut_same {P G : Prop} (h : Kep P → G) (p : P) : G := h ⟨p⟩
/-- What the law's going through keeps: blocks Y that are as they were in W0, the count, all else above. -/
structure SJ (w W0 : World) (Y : Nat → Prop) (nb n0 : Nat) (T : List Tw) (F : Nat → Prop) (j : Nat) (W : World) : Prop where
  be : Below w.heap.size w W
  fo : ∀ i, F i → w.heap.size ≤ i
  sz : W0.heap.size ≤ W.heap.size
  fx : ∀ i, Y i → i < W0.heap.size ∧ ¬ F i ∧ W.heap[i]? = W0.heap[i]?
  nn : W.heap[nb]? = some (.cells #[.int .i64 (j : Int)] 3 (0, 0))
  nf : ¬ F nb
  ln : T.length ≤ n0 + 2 * j
theorem SJ.abd (w W0 : World) (Y : Nat → Prop) (nb n0 : Nat) : Abd (SJ w W0 Y nb n0) := by
  intro T F F' j W W' h hK hF
  have hsz := h.sz
  have key : ∀ i, i < W.heap.size → ¬ F i → ¬ F' i := fun i hi hn hf => by
    rcases hF i hf with q | q
    · exact hn q
    · omega
  refine ⟨h.be.trans (hK.below h.be.size h.fo), fun i hi => ?_, Nat.le_trans h.sz hK.size, fun i hi => ?_, (hK.block _ (blk_lt h.nn) h.nf).trans h.nn, key _ (blk_lt h.nn) h.nf, h.ln⟩
  · rcases hF i hi with q | q
    · exact h.fo i q
    · exact Nat.le_trans h.be.size q
  · obtain ⟨h1, h2, h3⟩ := h.fx i hi
    exact ⟨h1, key i (by omega) h2, (hK.block i (by omega) h2).trans h3⟩

set_option maxHeartbeats 4000000 in
set_option maxRecDepth 100000 in
theorem Still_rp (q : Option Addr) (b off cap : Nat) (cs : List Cl) (qa : Option Addr) (ba offa capa : Nat) (ha : List UInt8) (c : Cl) (w : World)
    (hq : 0 < cs.length → q = some ⟨b, off, none⟩ ∧ CRow w b off cs ∧ b < w.heap.size) (hcap : cs.length ≤ cap) (hcl : cs.length ≤ 4611686018427387904)
    (hqa : 0 < ha.length → qa = some ⟨ba, offa, none⟩ ∧ BRow w ba offa ha) (hla : ha.length ≤ 9223372036854775807) (RP0 : Ending → World → Prop) (hRP : Hid (∀ W, Below w.heap.size w W → RP0 (.returned (.bool true)) W)) :
    Calls Try.prog 6 #[.slice q cs.length cap, .slice qa ha.length capa, clV c] w RP0 := by
  obtain ⟨wa, hwa⟩ : ∃ wa, wa = (w.alloc (.cells #[.string (bstr c.row), .string (bstr c.col), .int .u64 c.ver, .bool c.gone, .string (bstr c.val)] 34)).alloc (.cells #[.bool false] 4) := ⟨_, rfl⟩
  have hba : Below w.heap.size w ((w.alloc (.cells #[.string (bstr c.row), .string (bstr c.col), .int .u64 c.ver, .bool c.gone, .string (bstr c.val)] 34)).alloc (.cells #[.bool false] 4)) := ((Below.refl _ _).alloc (Nat.le_refl _) _).alloc (by simp) _
  have hca : ((w.alloc (.cells #[.string (bstr c.row), .string (bstr c.col), .int .u64 c.ver, .bool c.gone, .string (bstr c.val)] 34)).alloc (.cells #[.bool false] 4)).heap[w.heap.size]? = some (.cells #[.string (bstr c.row), .string (bstr c.col), .int .u64 c.ver, .bool c.gone, .string (bstr c.val)] 34 (0, 0)) := (Below.heap_alloc _ _ _ (by simp)).trans (heap_alloc_new w _)
  have hra : ((w.alloc (.cells #[.string (bstr c.row), .string (bstr c.col), .int .u64 c.ver, .bool c.gone, .string (bstr c.val)] 34)).alloc (.cells #[.bool false] 4)).heap[w.heap.size + 1]? = some (.cells #[.bool false] 4 (0, 0)) := by
    have := heap_alloc_new (w.alloc (.cells #[.string (bstr c.row), .string (bstr c.col), .int .u64 c.ver, .bool c.gone, .string (bstr c.val)] 34)) (.cells #[.bool false] 4)
    simpa using this
  have hwk := works8_any ((w.alloc (.cells #[.string (bstr c.row), .string (bstr c.col), .int .u64 c.ver, .bool c.gone, .string (bstr c.val)] 34)).alloc (.cells #[.bool false] 4))
  rw [← hwa] at hba hca hra hwk
  refine calls_marks Try.func6 rfl ?_
  simp only [Try.ntmps6, List.size_toArray, List.length_cons, List.length_nil, Nat.reduceAdd, Nat.reduceSub, Array.replicate_succ, Array.replicate_zero, List.push_toArray, List.append_toArray, List.nil_append, List.cons_append]
  gi_wp2
  rw [← hwa]
  refine ⟨trivial, ?_⟩
  refine (callsIn_wide.2 hwk).mono ?_
  rintro e w0 ⟨rfl, hb0⟩
  clear hwk hwa
  obtain ⟨M, hM⟩ : ∃ M, M = cs.take 100 := ⟨_, rfl⟩
  have hMl : (min (cs.length : Int) 100).toNat = M.length := by rw [hM, List.length_take]; omega
  have hMn : M.length ≤ 100 := by rw [hM, List.length_take]; omega
  have hbw0 : Below w.heap.size w w0 := below2 hba hb0
  have hMq : 0 < M.length → q = some ⟨b, off, none⟩ ∧ CRow w0 b off M ∧ b < w0.heap.size := fun h0 => by
    have hp : 0 < cs.length := by rw [hM, List.length_take] at h0; omega
    obtain ⟨h1, h2, h3⟩ := hq hp
    refine ⟨h1, ?_, Nat.lt_of_lt_of_le h3 hbw0.size⟩
    rw [hM]
    exact (h2.step hbw0 h3).take 100
  have hqa' : 0 < ha.length → qa = some ⟨ba, offa, none⟩ ∧ BRow w0 ba offa ha := fun h0 => ⟨(hqa h0).1, (hqa h0).2.below hbw0 h0 (Nat.le_refl _)⟩
  have hpx := put_any q b off cap M qa ba offa capa ha false w0 hMq hqa' (by omega) hla
  have HM : Hid _ := hM
  clear hM hqa hqa' hMq hq
  gi_wp2
  refine ⟨trivial, ?_⟩
  refine (callsIn_wide.2 hpx).mono ?_
  rintro e wx ⟨rfl, Tx, vx, hPx⟩
  clear hpx hMl
  obtain ⟨l, hl⟩ : ∃ l, l = w0.heap.size + 1 := ⟨_, rfl⟩
  obtain ⟨hd, hhd⟩ : ∃ hd, hd = w0.heap.size := ⟨_, rfl⟩
  have hLx := hPx.ls
  have hOx := hPx.ow
  have hTn : Tx.length ≤ 100 := Nat.le_trans hPx.ln hMn
  have hbx := hPx.be
  rw [← hl, ← hhd] at hLx hOx
  rw [← hl]
  clear hPx hl
  have hby : Below wx.heap.size wx (wx.alloc (.cells #[.pointer (some ⟨l, 0, none⟩)] 23)) := (Below.refl _ _).alloc (Nat.le_refl _) _
  have hxy : (wx.alloc (.cells #[.pointer (some ⟨l, 0, none⟩)] 23)).heap[wx.heap.size]? = some (.cells #[.pointer (some ⟨l, 0, none⟩)] 23 (0, 0)) := heap_alloc_new _ _
  obtain ⟨wy, hwy⟩ : ∃ wy, wy = wx.alloc (.cells #[.pointer (some ⟨l, 0, none⟩)] 23) := ⟨_, rfl⟩
  rw [← hwy] at hby hxy
  have hLy := hLx.below hby
  have hls := list_any l hd Tx vx wy hLy (by omega)
  have HWY : Hid _ := hwy
  clear hLx hwy
  gi_wp2
  rw [← HWY.out]
  refine ⟨trivial, ?_⟩
  refine (callsIn_wide.2 hls).mono ?_
  rintro e w1 ⟨r, v1, rfl, hr1, hL1, hK1, hO1, hrO⟩
  clear hls
  obtain ⟨L, hL⟩ : ∃ L, L = Tx.map (fun t => t.c) := ⟨_, rfl⟩
  have hLl : L.length = Tx.length := by rw [hL]; simp
  rw [← hL, ← hLl] at hr1
  have HL : Hid _ := hL
  have HLL : Hid _ := hLl
  have hLn : L.length ≤ 100 := by omega
  clear hL hLl
  obtain ⟨p, capr, g, rfl, hg⟩ := own_slice hr1
  have hb2 : Below w1.heap.size w1 ((w1.alloc (.cells #[.slice p L.length capr] 25)).alloc (.cells #[.int .i64 0] 3)) := ((Below.refl _ _).alloc (Nat.le_refl _) _).alloc (by simp) _
  have hbb2 : ((w1.alloc (.cells #[.slice p L.length capr] 25)).alloc (.cells #[.int .i64 0] 3)).heap[w1.heap.size]? = some (.cells #[.slice p L.length capr] 25 (0, 0)) := (Below.heap_alloc _ _ _ (by simp)).trans (heap_alloc_new w1 _)
  have hnb2 : ((w1.alloc (.cells #[.slice p L.length capr] 25)).alloc (.cells #[.int .i64 0] 3)).heap[w1.heap.size + 1]? = some (.cells #[.int .i64 0] 3 (0, 0)) := by
    have := heap_alloc_new (w1.alloc (.cells #[.slice p L.length capr] 25)) (.cells #[.int .i64 0] 3)
    simpa using this
  obtain ⟨w2, hw2⟩ : ∃ w2, w2 = (w1.alloc (.cells #[.slice p L.length capr] 25)).alloc (.cells #[.int .i64 0] 3) := ⟨_, rfl⟩
  rw [← hw2] at hb2 hbb2 hnb2
  have HW2 : Hid _ := hw2
  have hsz2 : Hid (w2.heap.size = w1.heap.size + 1 + 1) := by
    rw [hw2]
    show _ = _
    simp
  clear hw2
  have hx1 := (hK1.block wx.heap.size (blk_lt hxy) (hLy.other hxy (by decide))).trans hxy
  have hx2 := (hb2.block _ (blk_lt hx1)).trans hx1
  have hx2c : w2.cell? ⟨wx.heap.size, 0, none⟩ = some (.pointer (some ⟨l, 0, none⟩)) := by simp [World.cell?, hx2]
  have hal := All_any (some ⟨l, 0, none⟩) w2
  rw [HW2.out] at hx2c
  gi_wp2
  rw [← HW2.out]
  refine ⟨trivial, ?_⟩
  refine (callsIn_wide.2 hal).mono ?_
  rintro e w3 ⟨rfl, hbx3, hb3⟩
  clear hal hx2c HW2 HWY
  gi_wp2
  refine wp_range2 (by omega) rfl (enters_of Try.func45 (by kernel_rfl) rfl) ?_
  intro RR hRR
  have hbW : Below w3.heap.size w3 ((w3.alloc (.deferred (some []))).alloc (.loop RR)) := ((Below.refl _ _).alloc (Nat.le_refl _) _).alloc (by simp) _
  have hWl : ((w3.alloc (.deferred (some []))).alloc (.loop RR)).heap[w3.heap.size + 1]? = some (.loop RR) := by
    have := World.alloc_heap_new (w3.alloc (.deferred (some []))) (.loop RR)
    rwa [World.size_alloc] at this
  have hWd : ((w3.alloc (.deferred (some []))).alloc (.loop RR)).heap[w3.heap.size]? = some (.deferred (some [])) := (Below.heap_alloc _ _ _ (by simp)).trans (World.alloc_heap_new w3 _)
  obtain ⟨W1, hWW⟩ : ∃ W1, W1 = (w3.alloc (.deferred (some []))).alloc (.loop RR) := ⟨_, rfl⟩
  rw [← hWW] at hbW hWl hWd ⊢
  clear hWW
  have hb23 := below2 hb2 hb3
  have hb1W := below2 hb23 hbW
  have z0 := blk_lt hra
  have z1 := hb0.size
  have z2 := hbx.size
  have z3 := hby.size
  have z4 := hK1.size
  have z5 := hsz2.out
  have z6 := hb3.size
  have z7 := blk_lt hx1
  have hlow : ∀ i, i < w0.heap.size → W1.heap[i]? = w0.heap[i]? := fun i hi => (hb1W.block i (by omega)).trans ((hK1.block i (by omega) (fun h => by have := hOx i h; omega)).trans ((hby.block i (by omega)).trans (hbx.block i hi)))
  have hcW := (hlow _ (by omega)).trans ((hb0.block _ (blk_lt hca)).trans hca)
  have hrW := (hlow _ (by omega)).trans ((hb0.block _ (blk_lt hra)).trans hra)
  have hxW := (hb1W.block _ z7).trans hx1
  have hb2W := below2 hb3 hbW
  have hbbW := (hb2W.block _ (blk_lt hbb2)).trans hbb2
  have hnbW := (hb2W.block _ (blk_lt hnb2)).trans hnb2
  have hgW : 0 < L.length → p = some ⟨g, 0, none⟩ ∧ CRow W1 g 0 L ∧ g < w1.heap.size := fun h0 => ⟨(hg h0).1, (hg h0).2.1.step hb1W (hg h0).2.2, (hg h0).2.2⟩
  have hO1' : ∀ i, Ow l hd Tx v1 i → w0.heap.size ≤ i := fun i hi => by
    rcases hO1 i hi with q | q
    · have := hOx i q; omega
    · omega
  have hbwW : Below w.heap.size w W1 := by
    have h1 := hbx.mono hbw0.size
    have h2 := hby.mono (show w.heap.size ≤ wx.heap.size by omega)
    have h3 := hK1.below (B := w.heap.size) (by omega) (fun i hi => by have := hOx i hi; omega)
    have h4 := hb1W.mono (show w.heap.size ≤ w1.heap.size by omega)
    exact (((hbw0.trans h1).trans h2).trans h3).trans h4
  obtain ⟨Y, hY⟩ : ∃ Y : Nat → Prop, Y = fun i => i = w.heap.size ∨ i = w.heap.size + 1 ∨ i = wx.heap.size ∨ i = w1.heap.size ∨ (Value.slice p L.length capr).ownBlock = some i ∨ i = w3.heap.size ∨ i = w3.heap.size + 1 := ⟨_, rfl⟩
  have y0 : Y w.heap.size := by rw [hY]; simp
  have y1 : Y (w.heap.size + 1) := by rw [hY]; simp
  have y2 : Y wx.heap.size := by rw [hY]; simp
  have y3 : Y w1.heap.size := by rw [hY]; simp
  have y4 : ∀ i, (Value.slice p L.length capr).ownBlock = some i → Y i := fun i hi => by rw [hY]; exact Or.inr (Or.inr (Or.inr (Or.inr (Or.inl hi))))
  have y5 : Y w3.heap.size := by rw [hY]; simp
  have y6 : Y (w3.heap.size + 1) := by rw [hY]; simp
  have hJ0 : SJ w W1 Y (w1.heap.size + 1) 100 ([] ++ Tx) (Ow l hd ([] ++ Tx) v1) 0 W1 := by
    refine ⟨hbwW, fun i hi => ?_, Nat.le_refl _, fun i hi => ?_, hnbW, fun h => ?_, by simpa using hTn⟩
    · have := hO1' i hi; omega
    · have hl := blk_lt hWl
      rw [hY] at hi
      refine ⟨?_, ?_, rfl⟩
      · rcases hi with rfl | rfl | rfl | rfl | hi | rfl | rfl
        · exact blk_lt hcW
        · exact blk_lt hrW
        · exact blk_lt hxW
        · exact blk_lt hbbW
        · have := (own_blk_lt hr1 hi).1; omega
        · omega
        · exact hl
      · intro h
        have h1 := hL1.lt h
        have h2 := hO1' i h
        rcases hi with rfl | rfl | rfl | rfl | hi | rfl | rfl
        · omega
        · omega
        · exact hL1.other hx1 (by decide) h
        · omega
        · exact hrO i hi h
        · omega
        · omega
    · have h1 := hL1.lt h
      omega
  have HY : Hid _ := hY
  have hYn : ¬ Y (w1.heap.size + 1) := fun h => by
    rw [hY] at h
    rcases h with h | h | h | h | h | h | h
    · omega
    · omega
    · omega
    · omega
    · have := (own_blk_lt hr1 h).1; omega
    · omega
    · omega
  clear hY
  have hB : ∀ t ∈ Tx, 0 ≤ ccl t.c (plC [] []) := fun t ht => ccl_first (hL1.may t ht)
  have hfr := from1_any l hd w2.heap.size (w3.heap.size + 1) [] Tx v1 [] [] W1 (SJ w W1 Y (w1.heap.size + 1) 100) (fun _ _ _ => False) (SJ.abd w W1 Y (w1.heap.size + 1) 100) (fun _ _ _ _ _ h _ _ => h) (hbx3.step hbW) (hL1.below hb1W) (by simp) hB ?_ hJ0
  · refine hfr.mono ?_
    rintro e W2 ⟨⟨u, rfl⟩, T', v', hL', hj | hj⟩
    · have h6 := (hj.fx _ y6).2.2.trans hWl
      refine ⟨⟨_, rfl⟩, Or.inl ⟨h6, ?_⟩⟩
      have hnn := hj.nn
      rw [← HLL.out] at hnn
      have hkp : ∀ i, i ≠ w3.heap.size + 1 → (W2.putObj (w3.heap.size + 1) (.loop { RR with state := .exhausted })).heap[i]? = W2.heap[i]? := fun i hi => World.putObj_heap_other hi
      have n3 := (hkp (w1.heap.size + 1) (by omega)).trans hnn
      have b3 := (hkp w1.heap.size (by omega)).trans ((hj.fx _ y3).2.2.trans hbbW)
      have r3 := (hkp (w.heap.size + 1) (by omega)).trans ((hj.fx _ y1).2.2.trans hrW)
      have d3 := (hkp w3.heap.size (by omega)).trans ((hj.fx _ y5).2.2.trans hWd)
      have hbe := hj.be
      have hB3 : Below w.heap.size w (W2.putObj (w3.heap.size + 1) (.loop { RR with state := .exhausted })) := by
        have hk : Kp W2 (W2.putObj (w3.heap.size + 1) (.loop { RR with state := .exhausted })) (fun i => i = w3.heap.size + 1) := (Kp.refl _ _).put _ (Or.inl rfl)
        exact hbe.trans (hk.below hbe.size (fun i e => by omega))
      generalize W2.putObj (w3.heap.size + 1) (.loop { RR with state := .exhausted }) = W3 at *
      have cn : W3.cell? ⟨w1.heap.size + 1, 0, none⟩ = some (.int .i64 (L.length : Int)) := by simp [World.cell?, n3]
      have cb : W3.cell? ⟨w1.heap.size, 0, none⟩ = some (.slice p L.length capr) := by simp [World.cell?, b3]
      have cr : W3.cell? ⟨w.heap.size + 1, 0, none⟩ = some (.bool false) := by simp [World.cell?, r3]
      have fr : W3.frozen? ⟨w.heap.size + 1, 0, none⟩ = false := by simp [World.frozen?, r3]
      have hwd : w3.heap.size ≠ w.heap.size + 1 := by omega
      have hwd2 : w.heap.size ≤ w3.heap.size := by omega
      clear z0 z1 z2 z3 z4 z5 z6 z7
      gi_wp2
      have d4 := (heap_set_other (w := W3) (b := w.heap.size + 1) (o := 0) (i := w3.heap.size) (.bool true) hwd).trans d3
      have r4 := heap_set_same r3 (o := 0) (.bool true)
      refine ⟨by simp, .inl ⟨_, _, rfl, run_takeDeferred d4, ?_⟩⟩
      have r5 : ((W3.setCell ⟨w.heap.size + 1, 0, none⟩ (.bool true)).putObj w3.heap.size (.deferred none)).cell? ⟨w.heap.size + 1, 0, none⟩ = some (.bool true) := by
        simp [World.cell?, World.putObj_heap_other (Ne.symm hwd), r4]
      refine ⟨.bool true, by simp [results, Try.results6, go_sem, r5], hRP.out _ ?_⟩
      have hk : Kp W3 ((W3.setCell ⟨w.heap.size + 1, 0, none⟩ (.bool true)).putObj w3.heap.size (.deferred none)) (fun i => i = w.heap.size + 1 ∨ i = w3.heap.size) := ((Kp.refl _ _).setCell _ (Or.inl (Or.inl rfl))).put _ (Or.inl (Or.inr rfl))
      exact hB3.trans (hk.below hB3.size (fun i e => by omega))
    · exact hj.elim
  · clear hJ0
    intro m k X T' F j d W hc hm hX hS hj
    have key : ∀ RP : Ending → World → Prop, Hid (∀ W' T'' F', Stt l hd k T'' F' ((Tx.map (fun t => t.c)).drop (j + 1)) W' → SJ w W1 Y (w1.heap.size + 1) 100 T'' (Un F' X) (j + 1) W' → (∀ i, X i → ¬ F' i ∧ W'.heap[i]? = W.heap[i]?) → RP (.returned (.bool true)) W') → YieldAt Fence.wide m Try.prog (w3.heap.size + 1) #[clV d] W RP := by
      intro RP hT
      have h6 := (hj.fx _ y6).2.2.trans hWl
      have hb : Below W.heap.size W (W.alloc (.cells #[.string (bstr d.row), .string (bstr d.col), .int .u64 d.ver, .bool d.gone, .string (bstr d.val)] 34)) := (Below.refl _ _).alloc (Nat.le_refl _) _
      have hda : (W.alloc (.cells #[.string (bstr d.row), .string (bstr d.col), .int .u64 d.ver, .bool d.gone, .string (bstr d.val)] 34)).heap[W.heap.size]? = some (.cells #[.string (bstr d.row), .string (bstr d.col), .int .u64 d.ver, .bool d.gone, .string (bstr d.val)] 34 (0, 0)) := heap_alloc_new _ _
      refine yield_round2 h6 hRR rfl ?_
      rw [← HL.out] at hc
      have HC : Hid _ := hc
      clear hc
      gi_wp2
      generalize hWa : W.alloc (.cells #[.string (bstr d.row), .string (bstr d.col), .int .u64 d.ver, .bool d.gone, .string (bstr d.val)] 34) = Wa at *
      have h6a := (hb.block _ (blk_lt h6)).trans h6
      refine ⟨_, run_beginRound h6a hRR.s, ?_⟩
      have hjl : j < L.length := by
        rcases Nat.lt_or_ge j L.length with a | a
        · exact a
        · have hcc := HC.out
          rw [List.getElem?_eq_none a] at hcc; cases hcc
      have hne : W.heap.size ≠ w3.heap.size + 1 := by have := blk_lt h6; omega
      have hKb : Kp W (Wa.putObj (w3.heap.size + 1) (.loop { RR with state := .busy })) (fun i => i = w3.heap.size + 1) := (Kp.of_below _ hb).put _ (Or.inl rfl)
      have hdb := (World.putObj_heap_other (w := Wa) (o := .loop { RR with state := .busy }) hne).trans hda
      have h6b : (Wa.putObj (w3.heap.size + 1) (.loop { RR with state := .busy })).heap[w3.heap.size + 1]? = some (.loop { RR with state := .busy }) := World.putObj_heap_same (blk_lt h6a)
      generalize Wa.putObj (w3.heap.size + 1) (.loop { RR with state := .busy }) = Wb at *
      have hfx : ∀ i, Y i → i ≠ w3.heap.size + 1 → Wb.heap[i]? = W1.heap[i]? := fun i hi hn => (hKb.block i (Nat.lt_of_lt_of_le (hj.fx i hi).1 hj.sz) hn).trans (hj.fx i hi).2.2
      have cb := (hfx _ y0 (by omega)).trans hcW
      have xb := (hfx _ y2 (by omega)).trans hxW
      have bb := (hfx _ y3 (by omega)).trans hbbW
      have nb := (hKb.block _ (blk_lt hj.nn) (by omega)).trans hj.nn
      obtain ⟨rfl, hgR, hgl⟩ := hgW (by omega)
      have hgb := hfx g (y4 g rfl) (by omega)
      have hgR' : CRow Wb g 0 L := hgR.same fun o => by simp only [World.cell?, hgb]
      have hLj : L[j] = d := by
        have hcc := HC.out
        rw [List.getElem?_eq_getElem hjl] at hcc
        simpa using hcc
      obtain ⟨g0, g1, g2, g3, g4⟩ := hgR' j hjl
      rw [hLj] at g0 g1 g2 g3 g4
      simp only [Nat.zero_add] at g0 g1 g2 g3 g4
      have heq := eqC_self d
      have cn : Wb.cell? ⟨w1.heap.size + 1, 0, none⟩ = some (.int .i64 (j : Int)) := by simp [World.cell?, nb]
      have cbb : Wb.cell? ⟨w1.heap.size, 0, none⟩ = some (.slice (some ⟨g, 0, none⟩) L.length capr) := by simp [World.cell?, bb]
      have hjz : (j : Int) < (L.length : Int) := by omega
      have hjd : decide ((L.length : Int) ≤ (j : Int)) = false := by simp; omega
      have d0 : Wb.cell? ⟨W.heap.size, 0, none⟩ = some (.string (bstr d.row)) := by simp [World.cell?, hdb]
      have d1 : Wb.cell? ⟨W.heap.size, 1, none⟩ = some (.string (bstr d.col)) := by simp [World.cell?, hdb]
      have d2 : Wb.cell? ⟨W.heap.size, 2, none⟩ = some (.int .u64 d.ver) := by simp [World.cell?, hdb]
      have d3 : Wb.cell? ⟨W.heap.size, 3, none⟩ = some (.bool d.gone) := by simp [World.cell?, hdb]
      have d4 : Wb.cell? ⟨W.heap.size, 4, none⟩ = some (.string (bstr d.val)) := by simp [World.cell?, hdb]
      have HLJ : Hid _ := hLj
      have hmx : Try.prog.follows .mixedOrders = true := by kernel_rfl
      have hFlt : ∀ i, F i → i < W.heap.size := fun i hi => by
        obtain ⟨_, _, _, _, _, hSS⟩ := hS
        exact hSS.lt i hi
      have e5 : ({ state := if (none : Option Code).isNone = true then LoopState.ready else LoopState.done, pending := none, fn := RR.fn, tmps := RR.tmps, params := RR.params, assign := RR.assign, body := RR.body, defers := RR.defers } : Loop) = RR := by
        have e1 := hRR.s
        have e2 := hRR.e
        cases RR
        simp_all
      have hWbs := hKb.size
      have hDW := blk_lt h6
      have hnW := blk_lt hj.nn
      have hnn1 : w1.heap.size + 1 ≠ w3.heap.size + 1 := by omega
      have fin : ∀ Wp T'' F', Stt l hd k T'' F' ((Tx.map (fun t => t.c)).drop (j + 1)) Wp → Kp Wb Wp (fun i => F i ∨ i = W.heap.size) → (∀ i, F' i → F i ∨ W.heap.size ≤ i) → T''.length ≤ T'.length + 2 →
          (Wp.setCell ⟨w1.heap.size + 1, 0, none⟩ (.int .i64 ((j : Int) + 1))).heap[w3.heap.size + 1]? = some (.loop { RR with state := .busy }) ∧ RP (.returned (.bool true)) ((Wp.setCell ⟨w1.heap.size + 1, 0, none⟩ (.int .i64 ((j : Int) + 1))).putObj (w3.heap.size + 1) (.loop RR)) := by
        intro Wp T'' F' hSp hKp hFp hlp
        have hD6 : ¬ F (w3.heap.size + 1) := fun h => (hj.fx _ y6).2.1 (Or.inl h)
        have hFn : ¬ F (w1.heap.size + 1) := fun h => hj.nf (Or.inl h)
        have a6 : Wp.heap[w3.heap.size + 1]? = _ := (hKp.block _ (by omega) (fun h => by
          rcases h with h | h
          · exact hD6 h
          · omega)).trans h6b
        have a7 := (heap_set_other (w := Wp) (b := w1.heap.size + 1) (o := 0) (.int .i64 ((j : Int) + 1)) (Ne.symm hnn1)).trans a6
        have hKW : Kp W Wp (fun i => F i ∨ i = w3.heap.size + 1) := (hKb.mono fun i hi => Or.inl (Or.inr hi)).trans hKp (fun i hi => by
          rcases hi with hi | hi
          · exact Or.inl (Or.inl hi)
          · exact Or.inr (by omega))
        have hKW2 : Kp W ((Wp.setCell ⟨w1.heap.size + 1, 0, none⟩ (.int .i64 ((j : Int) + 1))).putObj (w3.heap.size + 1) (.loop RR)) (fun i => F i ∨ i = w3.heap.size + 1 ∨ i = w1.heap.size + 1) := ((hKW.mono fun i hi => Or.inl (by
          rcases hi with hi | hi
          · exact Or.inl hi
          · exact Or.inr (Or.inl hi))).setCell _ (Or.inl (Or.inr (Or.inr rfl)))).put _ (Or.inl (Or.inr (Or.inl rfl)))
        have np := (hKW.block _ hnW (fun h => by
          rcases h with h | h
          · exact hFn h
          · exact hnn1 h)).trans hj.nn
        have hF6 : ¬ F' (w3.heap.size + 1) := fun h => by
          rcases hFp _ h with h | h
          · exact hD6 h
          · omega
        have hF7 : ¬ F' (w1.heap.size + 1) := fun h => by
          rcases hFp _ h with h | h
          · exact hFn h
          · omega
        refine ⟨a7, hT.out _ T'' F' (hSp.kept (by simp) fun i hi => ?_) ?_ fun i hi => ⟨fun h => ?_, ?_⟩⟩
        · have i1 : i ≠ w3.heap.size + 1 := fun e => hF6 (e ▸ hi)
          have i2 : i ≠ w1.heap.size + 1 := fun e => hF7 (e ▸ hi)
          rw [World.putObj_heap_other i1, heap_set_other _ i2]
        · refine ⟨?_, fun i hi => ?_, Nat.le_trans hj.sz hKW2.size, fun i hi => ?_, ?_, fun h => ?_, ?_⟩
          · refine hj.be.trans (hKW2.below hj.be.size fun i hi => ?_)
            rcases hi with hi | rfl | rfl
            · exact hj.fo i (Or.inl hi)
            · omega
            · omega
          · rcases hi with hi | hi
            · rcases hFp i hi with h | h
              · exact hj.fo i (Or.inl h)
              · exact Nat.le_trans hj.be.size h
            · exact hj.fo i (Or.inr hi)
          · obtain ⟨h1, h2, h3⟩ := hj.fx i hi
            have hi1 : i ≠ w1.heap.size + 1 := fun e => hYn (e ▸ hi)
            refine ⟨h1, fun h => ?_, ?_⟩
            · rcases h with h | h
              · rcases hFp i h with h | h
                · exact h2 (Or.inl h)
                · have := hj.sz; omega
              · exact h2 (Or.inr h)
            · by_cases hi6 : i = w3.heap.size + 1
              · subst hi6
                rw [World.putObj_heap_same (blk_lt a7)]
                exact hWl.symm
              · refine (hKW2.block i (by have := hj.sz; omega) (fun h => ?_)).trans h3
                rcases h with h | h | h
                · exact h2 (Or.inl h)
                · exact hi6 h
                · exact hi1 h
          · rw [World.putObj_heap_other hnn1, heap_set_same np]
            rfl
          · rcases h with h | h
            · exact hF7 h
            · exact hj.nf (Or.inr h)
          · have := hj.ln; omega
        · rcases hFp i h with h | h
          · exact (hX i hi).2 h
          · have := (hX i hi).1; omega
        · refine hKW2.block i (hX i hi).1 (fun h => ?_)
          rcases h with h | h | h
          · exact (hX i hi).2 h
          · exact (hj.fx _ y6).2.1 (Or.inr (h ▸ hi))
          · exact hj.nf (Or.inr (h ▸ hi))
      clear hLj hgb hgR' hgR hWa
      gi_wp2
      apply cut_same
      case h =>
        intro main
        gi_region_o
        all_goals exact main.out
      clear g0 g1 g2 g3 g4 d0 d1 d2 d3 d4 hjd heq cbb cn hmx
      have cbc : Wb.drew.heap[w.heap.size]? = _ := cb
      have xbc : Wb.drew.heap[wx.heap.size]? = _ := xb
      have nbc : Wb.drew.heap[w1.heap.size + 1]? = _ := nb
      have hdc : Wb.drew.heap[W.heap.size]? = _ := hdb
      have hKc : Kp Wb Wb.drew (fun i => F i ∨ i = W.heap.size) := (Kp.refl _ _).drew
      have hSc : Stt l hd k T' F ((Tx.map (fun t => t.c)).drop (j + 1)) Wb.drew := hS.kept hKb.drew.size fun i hi => hKb.drew.block i (hFlt i hi) (fun e => (hj.fx _ y6).2.1 (Or.inl (e ▸ hi)))
      clear hS cb xb bb nb hdb
      generalize Wb.drew = Wc at *
      have hz3 : (j : Int).tmod 3 = ((j % 3 : Nat) : Int) := by rw [Int.tmod_eq_emod_of_nonneg (by omega)]; omega
      have hz3' : (j : Int) % 3 = ((j % 3 : Nat) : Int) := by omega
      have hz12 : (j : Int).tmod 12 = ((j % 12 : Nat) : Int) := by rw [Int.tmod_eq_emod_of_nonneg (by omega)]; omega
      have hz12' : (j : Int) % 12 = ((j % 12 : Nat) : Int) := by omega
      have hm12 : j % 12 < 12 := Nat.mod_lt _ (by omega)
      obtain ⟨m3, hm3⟩ : ∃ m3, m3 = j % 3 := ⟨_, rfl⟩
      obtain ⟨m12, hq12⟩ : ∃ m12, m12 = j % 12 := ⟨_, rfl⟩
      rw [← hm3] at hz3 hz3'
      rw [← hq12] at hz12 hz12' hm12
      clear hm3 hq12
      have hjn : ¬ L.length ≤ j := by omega
      have cn : Wc.cell? ⟨w1.heap.size + 1, 0, none⟩ = some (.int .i64 (j : Int)) := by simp [World.cell?, nbc]
      by_cases h3 : m3 = 0
      · subst h3
        have hv : 0 ≤ d.ver ∧ d.ver ≤ 1099511627776 := by
          unfold mayCl mayC storedB at hm
          simp at hm
          omega
        have hv1 : d.ver + 1 ≤ 18446744073709551615 := by omega
        have hv0 : 0 ≤ d.ver + 1 := by omega
        have d2 : Wc.cell? ⟨W.heap.size, 2, none⟩ = some (.int .u64 d.ver) := by simp [World.cell?, hdc]
        have f2 : Wc.frozen? ⟨W.heap.size, 2, none⟩ = false := by simp [World.frozen?, hdc]
        have hdd : (Wc.setCell ⟨W.heap.size, 2, none⟩ (.int .u64 (d.ver + 1))).heap[W.heap.size]? = some (.cells #[.string (bstr d.row), .string (bstr d.col), .int .u64 (d.ver + 1), .bool d.gone, .string (bstr d.val)] 34 (0, 0)) := by
          rw [heap_set_same hdc]
          rfl
        have xW : wx.heap.size ≠ W.heap.size := by have := (hj.fx _ y2).1; have := hj.sz; omega
        have cW : w.heap.size ≠ W.heap.size := by have := (hj.fx _ y0).1; have := hj.sz; omega
        have nW : w1.heap.size + 1 ≠ W.heap.size := by omega
        have xd := (heap_set_other (w := Wc) (b := W.heap.size) (o := 2) (.int .u64 (d.ver + 1)) xW).trans xbc
        have cd := (heap_set_other (w := Wc) (b := W.heap.size) (o := 2) (.int .u64 (d.ver + 1)) cW).trans cbc
        have nd := (heap_set_other (w := Wc) (b := W.heap.size) (o := 2) (.int .u64 (d.ver + 1)) nW).trans nbc
        have hSd : Stt l hd k T' F ((Tx.map (fun t => t.c)).drop (j + 1)) (Wc.setCell ⟨W.heap.size, 2, none⟩ (.int .u64 (d.ver + 1))) := hSc.kept (by simp) fun i hi => heap_set_other _ (fun e => by have := hFlt i hi; omega)
        have hKd : Kp Wb (Wc.setCell ⟨W.heap.size, 2, none⟩ (.int .u64 (d.ver + 1))) (fun i => F i ∨ i = W.heap.size) := hKc.setCell _ (Or.inl (Or.inr rfl))
        obtain ⟨Wd, hWd2⟩ : ∃ Wd, Wd = Wc.setCell ⟨W.heap.size, 2, none⟩ (.int .u64 (d.ver + 1)) := ⟨_, rfl⟩
        rw [← hWd2] at hdd xd cd nd hSd hKd
        have hln := hj.ln
        have hp1 := Put_wk l hd k T' F _ ⟨d.row, d.col, d.ver + 1, d.gone, d.val⟩ (1 + m12) Wd hSd (by omega) (by omega) (by omega)
        rw [show ((1 + m12 : Nat) : Int) = 1 + (m12 : Int) by omega] at hp1
        have e0 : Wd.cell? ⟨W.heap.size, 0, none⟩ = some (.string (bstr d.row)) := by simp [World.cell?, hdd]
        have e1 : Wd.cell? ⟨W.heap.size, 1, none⟩ = some (.string (bstr d.col)) := by simp [World.cell?, hdd]
        have e2 : Wd.cell? ⟨W.heap.size, 2, none⟩ = some (.int .u64 (d.ver + 1)) := by simp [World.cell?, hdd]
        have e3 : Wd.cell? ⟨W.heap.size, 3, none⟩ = some (.bool d.gone) := by simp [World.cell?, hdd]
        have e4 : Wd.cell? ⟨W.heap.size, 4, none⟩ = some (.string (bstr d.val)) := by simp [World.cell?, hdd]
        have ex : Wd.cell? ⟨wx.heap.size, 0, none⟩ = some (.pointer (some ⟨l, 0, none⟩)) := by simp [World.cell?, xd]
        have en : Wd.cell? ⟨w1.heap.size + 1, 0, none⟩ = some (.int .i64 (j : Int)) := by simp [World.cell?, nd]
        rw [hWd2] at e0 e1 e2 e3 e4 ex en
        have HWD : Hid _ := hWd2
        clear hWd2
        gi_wp2
        rw [← HWD.out]
        refine ⟨trivial, fun h => (by cases h), ?_⟩
        refine (CallsIn.inRound (w3.heap.size + 1) (callsIn_wide.2 hp1)).mono ?_
        rintro e We ⟨⟨x1, rfl⟩, T1, F1, hS1, hl1, hKe, hF1⟩
        have hnF : ∀ i, Y i → ¬ F i := fun i hi h => (hj.fx i hi).2.1 (Or.inl h)
        have xe := (hKe.block _ (blk_lt xd) (hnF _ y2)).trans xd
        have ce := (hKe.block _ (blk_lt cd) (hnF _ y0)).trans cd
        have hp2 : Calls Try.prog 10 #[.pointer (some ⟨l, 0, none⟩), clV c, .int .i64 2] We _ := Put_wk l hd k T1 F1 _ c 2 We hS1 (by omega) (by omega) (by omega)
        have ex2 : We.cell? ⟨wx.heap.size, 0, none⟩ = some (.pointer (some ⟨l, 0, none⟩)) := by simp [World.cell?, xe]
        have q0 : We.cell? ⟨w.heap.size, 0, none⟩ = some (.string (bstr c.row)) := by simp [World.cell?, ce]
        have q1 : We.cell? ⟨w.heap.size, 1, none⟩ = some (.string (bstr c.col)) := by simp [World.cell?, ce]
        have q2 : We.cell? ⟨w.heap.size, 2, none⟩ = some (.int .u64 c.ver) := by simp [World.cell?, ce]
        have q3 : We.cell? ⟨w.heap.size, 3, none⟩ = some (.bool c.gone) := by simp [World.cell?, ce]
        have q4 : We.cell? ⟨w.heap.size, 4, none⟩ = some (.string (bstr c.val)) := by simp [World.cell?, ce]
        clear hp1 e0 e1 e2 e3 e4 ex en d2 f2 hv hv1 hv0 cn HWD
        gi_wp2
        refine ⟨trivial, fun h => (by cases h), ?_⟩
        refine (CallsIn.inRound (w3.heap.size + 1) (callsIn_wide.2 hp2)).mono ?_
        rintro e Wg ⟨⟨x2, rfl⟩, T2, F2, hS2, hl2, hKg, hF2⟩
        clear hp2 q0 q1 q2 q3 q4 ex2
        have sd := hKd.size
        have se := hKe.size
        have hKz : Kp Wb Wg (fun i => F i ∨ i = W.heap.size) := (hKd.trans hKe (fun i hi => Or.inl (Or.inl hi))).trans hKg (fun i hi => by
          rcases hF1 i hi with h | h
          · exact Or.inl (Or.inl h)
          · exact Or.inr (by omega))
        have hFz : ∀ i, F2 i → F i ∨ W.heap.size ≤ i := fun i hi => by
          rcases hF2 i hi with h | h
          · rcases hF1 i h with h | h
            · exact Or.inl h
            · exact Or.inr (by omega)
          · exact Or.inr (by omega)
        obtain ⟨hr4, hgo⟩ := fin Wg T2 F2 hS2 hKz hFz (by omega)
        have ng : Wg.heap[w1.heap.size + 1]? = some (.cells #[.int .i64 (j : Int)] 3 (0, 0)) := by
          have n1 : ¬ F (w1.heap.size + 1) := fun h => hj.nf (Or.inl h)
          have n2 := (hKe.block _ (blk_lt nd) n1).trans nd
          exact (hKg.block _ (blk_lt n2) (fun h => by
            rcases hF1 _ h with h | h
            · exact n1 h
            · have := blk_lt nd; omega)).trans n2
        have cn : Wg.cell? ⟨w1.heap.size + 1, 0, none⟩ = some (.int .i64 (j : Int)) := by simp [World.cell?, ng]
        have fn : Wg.frozen? ⟨w1.heap.size + 1, 0, none⟩ = false := by simp [World.frozen?, ng]
        gi_wp2
        refine ⟨_, _, run_endRound (r := { RR with state := .busy }) none hr4, ?_⟩
        show RP _ (World.putObj _ _ (Obj.loop _))
        rw [e5]
        exact hgo
      · have h3z : ¬ (m3 : Int) = 0 := by omega
        have fn : Wc.frozen? ⟨w1.heap.size + 1, 0, none⟩ = false := by simp [World.frozen?, nbc]
        obtain ⟨hr4, hgo⟩ := fin Wc T' F hSc hKc (fun i hi => Or.inl hi) (by omega)
        gi_wp2
        refine ⟨_, _, run_endRound (r := { RR with state := .busy }) none hr4, ?_⟩
        show RP _ (World.putObj _ _ (Obj.loop _))
        rw [e5]
        exact hgo
    exact (key _ fun W' T'' F' h1 h2 h3 => Or.inl ⟨rfl, T'', F', h1, h2, h3⟩)

theorem Still_any (q : Option Addr) (b off cap : Nat) (cs : List Cl) (qa : Option Addr) (ba offa capa : Nat) (ha : List UInt8) (c : Cl) (w : World)
    (hq : 0 < cs.length → q = some ⟨b, off, none⟩ ∧ CRow w b off cs ∧ b < w.heap.size) (hcap : cs.length ≤ cap) (hcl : cs.length ≤ 4611686018427387904)
    (hqa : 0 < ha.length → qa = some ⟨ba, offa, none⟩ ∧ BRow w ba offa ha) (hla : ha.length ≤ 9223372036854775807) :
    Calls Try.prog 6 #[.slice q cs.length cap, .slice qa ha.length capa, clV c] w fun e w' => e = .returned (.bool true) ∧ Below w.heap.size w w' :=
  Still_rp q b off cap cs qa ba offa capa ha c w hq hcap hcl hqa hla _ fun _ h => ⟨rfl, h⟩

end Go.Proofs.Ytmekcfbopjgbeaa
