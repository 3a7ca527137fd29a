/-
  The laws' states, in memory: the blocks that they lie in are of files and of lists of files.
  made: the laws' states, in memory, with the blocks that they lie in.
-/
import Derived.Test.YtnfnlfdplnekgaaDoorGVOpen
namespace Go.Proofs.YtnfnlfdplnekgaaDoor
open Go.RowKit Go.BigFrame Go.Sort

/-- A state's levels, in blocks from B on. -/
structure Own2 (W : World) (B : Nat) (xs : List Nat) (i : Nat) (vS : Value) (vs : List Value) : Prop where
  len : vs.length = i
  lv : W.ownsRow B 46 1 vS i vs
  rows : ∀ (j : Nat) (u : Value), vs[j]? = some u → W.ownsRow B 48 4 u ((xs.getD j 0) % 30) (fcells (mdL (mdN xs j) j ((xs.getD j 0) % 30)))
theorem MJ.own {w W W' : World} {log i : Nat} {xs : List Nat} {vS : Value} {vs : List Value} (h : MJ w (w.heap.size + 1) log xs i vS vs W) (hW : ∀ j, w.heap.size + 1 < j → W'.heap[j]? = W.heap[j]?) : Own2 W' (w.heap.size + 1 + 1) xs i vS vs :=
  ⟨h.len, own_kept h.lv fun g hg => hW g (by have := (own_blk_lt h.lv hg).2.1; omega), fun j u hj => own_kept (h.rows j u hj) fun g hg => hW g (by have := (own_blk_lt (h.rows j u hj) hg).2.1; omega)⟩
theorem Own2.arg {W : World} {B i : Nat} {xs : List Nat} {vS : Value} {vs : List Value} (h : Own2 W B xs i vS vs) : LArg W vS vs (mdS xs i) := by
  have hl := h.lv
  refine ⟨by rw [h.len, mdS_length], ?_, fun k u l hu hl2 => ?_⟩
  · rw [mdS_length]
    rcases hl.2 with ⟨rfl, h0⟩ | ⟨g, cap, cur, hv, hbg, hg, hnc, hcm, hcs, htake⟩
    · exact ⟨none, 0, by rw [h0], by omega, fun h1 => by omega⟩
    · refine ⟨_, cap, hv, hnc, fun _ => ⟨g, 0, rfl, lt_of_block hg, fun k u hu => ?_⟩⟩
      rw [(vcb hg).1, Nat.zero_add]
      have hk : k < i := by have := (List.getElem?_eq_some_iff.1 hu).1; rw [h.len] at this; exact this
      rw [← htake, List.getElem?_take, if_pos (by omega)] at hu
      rw [← hu, Array.getElem?_toList]
  · have hk : k < i := by have := (List.getElem?_eq_some_iff.1 hu).1; rw [h.len] at this; exact this
    have hr := h.rows k u hu
    have hle : l = mdL (mdN xs k) k ((xs.getD k 0) % 30) := by
      unfold mdS at hl2
      simp [hk] at hl2
      exact hl2.symm
    subst hle
    refine own_varg (B := B) (e := 48) ?_
    rw [mdL_length]
    exact hr
/-- What leaves such blocks as they are leaves the state. -/
theorem Own2.kept {W W' : World} {B i : Nat} {xs : List Nat} {vS : Value} {vs : List Value} (h : Own2 W B xs i vS vs) (hk : ∀ (g : Nat) (cur : Array Value) (t : TypeId) (x : Nat × Nat), W.heap[g]? = some (Obj.cells cur t x) → (t = 46 ∨ t = 48) → W'.heap[g]? = W.heap[g]?) : Own2 W' B xs i vS vs := by
  have go : ∀ {e : TypeId} {sz n : Nat} {v : Value} {ys : List Value}, (e = 46 ∨ e = 48) → W.ownsRow B e sz v n ys → W'.ownsRow B e sz v n ys := by
    intro e sz n v ys he ho
    refine ⟨ho.1, ?_⟩
    rcases ho.2 with a | ⟨g, cap, cur, a1, a2, a3, a4⟩
    · exact Or.inl a
    · exact Or.inr ⟨g, cap, cur, a1, a2, (hk g cur e _ a3 he).trans a3, a4⟩
  exact ⟨h.len, go (.inl rfl) h.lv, fun j u hj => go (.inr rfl) (h.rows j u hj)⟩
theorem Own2.below {W W' : World} {B i : Nat} {xs : List Nat} {vS : Value} {vs : List Value} (h : Own2 W B xs i vS vs) (hb : Below W.heap.size W W') : Own2 W' B xs i vS vs :=
  h.kept fun g _ _ _ hg _ => hb.block g (lt_of_block hg)

end Go.Proofs.YtnfnlfdplnekgaaDoor

namespace Go.Proofs.YtnfnlfdplnekgaaDoor
open Go.RowKit Go.BigFrame Go.Sort
attribute [local go_sem] size_bstr toList_bstr ls_def

theorem vres1 {fn : Func} {p : Tmp} {ty : TypeId} (h : fn.results = #[.cell p ty]) (tmps : Array Value) (P : Program) (w : World) :
    (results fn tmps).run P w = ((asAddr (tmps.getD p undef)).run P w).andThen fun a w₁ => (loadVar ty a).run P w₁ := by
  simp only [results, h]
  simp [Sem.run_bind, Result.andThen]
theorem mad_u64 {a i k c : Nat} (h : 1 ≤ a ∧ a ≤ 1 + 29 * i) (hi : i < 7) (hk : k < c) (hc : c < 30) : IntKind.u64.wrap ((a : Int) + (k : Int) + 1) = (a : Int) + (k : Int) + 1 := by
  rw [IntKind.wrap_u64]; omega
set_option maxHeartbeats 8000000 in
set_option maxRecDepth 100000 in
theorem made_own (q : Option Addr) (b off cap : Nat) (xs : List Nat) (log : Nat) (w : World) (hq : 0 < xs.length → q = some ⟨b, off, none⟩ ∧ ByRow w b off xs ∧ b < w.heap.size) (hx : ∀ x ∈ xs, x < 256) (hl : log < 4294967296) :
    Calls Tryd.prog 5 #[.slice q xs.length cap, .int .u32 (log : Int)] w fun e w' => ∃ v vs, e = .returned (.agg #[.int .u64 (mdN xs (min xs.length 7) : Int), .int .u64 (1 + log : Int), v]) ∧ Own2 w' (w.heap.size + 1 + 1) xs (min xs.length 7) v vs ∧ Below w.heap.size w w' := by
  obtain ⟨i0, hi0, hz0, hz1, hz2⟩ := info_parts Tryd.infoFile
  obtain ⟨i1, hi1, hy0, hy1, hy2⟩ := info_parts Tryd.infoLvl
  obtain ⟨W, hW⟩ : ∃ W, W = (w.alloc (.cells #[.int .u64 0, .int .u64 0, .slice none 0 0] 28)).alloc (.cells #[.int .u64 1, .int .u64 (1 + log : Int), .slice none 0 0] 28) := ⟨_, rfl⟩
  have hb0 : Below w.heap.size w W := by rw [hW]; exact ((Below.refl _ _).alloc (Nat.le_refl _) _).alloc (by simp) _
  have x0 : W.heap[w.heap.size]? = some (.cells #[.int .u64 0, .int .u64 0, .slice none 0 0] 28 (0, 0)) := by rw [hW]; exact (Below.heap_alloc _ _ _ (by simp)).trans (heap_alloc_new w _)
  have x1 : W.heap[w.heap.size + 1]? = some (.cells #[.int .u64 1, .int .u64 (1 + log : Int), .slice none 0 0] 28 (0, 0)) := by
    rw [hW]
    have := heap_alloc_new (w.alloc (.cells #[.int .u64 0, .int .u64 0, .slice none 0 0] 28)) (.cells #[.int .u64 1, .int .u64 (1 + log : Int), .slice none 0 0] 28)
    rwa [World.size_alloc] at this
  have hM0 : MJ w (w.heap.size + 1) log xs 0 (.slice none 0 0) [] W := ⟨x1, x0, rfl, ⟨rfl, .inl ⟨rfl, rfl⟩⟩, fun j u h => by simp at h, hb0⟩
  have hlw : IntKind.u64.wrap (1 + (log : Int)) = 1 + (log : Int) := by rw [IntKind.wrap_u64]; omega
  have hlw2 : IntKind.u64.wrap (log : Int) = (log : Int) := by rw [IntKind.wrap_u64]; omega
  have HW : Hid _ := hW
  clear hW x0 x1 hb0
  go_enter Tryd.func5, Tryd.ntmps5
  go_wp2_with fail
  rw [← HW.out]
  clear HW
  go_loopw [6, 7, 8] (fun s6 s7 s8 wr => ∃ (i : Nat) (vS : Value) (vs : List Value), s6 = .int .i64 (i : Int) ∧ i ≤ xs.length ∧ i ≤ 7 ∧ MJ w (w.heap.size + 1) log xs i vS vs wr) (fun s6 _ _ _ => 7 - (intOf s6).toNat)
  case atStart => exact ⟨0, _, _, rfl, by omega, by omega, hM0⟩
  case round =>
    clear hM0
    obtain ⟨i, vS, vs, rfl, hil, hi7, hM⟩ := hrel
    by_cases hlt : i < xs.length ∧ i < 7
    · obtain ⟨h1, h2⟩ := hlt
      have h1z : (i : Int) < (xs.length : Int) := by omega
      have h2z : (i : Int) < 7 := by omega
      go_wp2_with fail
      obtain ⟨rfl, hrow, hbl⟩ := hq (by omega)
      have hxi := hrow i h1
      have hx256 := hx xs[i] (List.getElem_mem h1)
      have hgd : xs.getD i 0 = xs[i] := by rw [List.getD_eq_getElem?_getD, List.getElem?_eq_getElem h1]; rfl
      have hmd : mdN xs (i + 1) = mdN xs i + xs[i] % 30 := by show mdN xs i + (xs.getD i 0) % 30 = _; rw [hgd]
      have hnl := mdN_le xs i
      obtain ⟨c, hc⟩ : ∃ c, c = xs[i] % 30 := ⟨_, rfl⟩
      have hc30 : c < 30 := by omega
      have htm : (xs[i] : Int).tmod 30 = (c : Int) := by rw [Int.tmod_eq_emod_of_nonneg (by omega)]; omega
      have cx : ∀ wx, Kp wr wx (fun j => j = w.heap.size + 1) → wx.cell? ⟨b, off + i, none⟩ = some (.int .u8 (xs[i] : Int)) := fun wx hk => by
        have e := (hk.block b (Nat.lt_of_lt_of_le hbl hM.bl.size) (by omega)).trans (hM.bl.block b hbl)
        rw [World.cell?_of_block e]
        exact hxi
      rw [← hc] at hmd
      have HM : Hid _ := hM
      have HMD : Hid _ := hmd
      have HGD : Hid (xs.getD i 0 % 30 = c) := by show _ = _; rw [hgd, hc]
      have hsb := hM.sb
      have hsw := blk_lt hM.sb
      generalize xs[i] = xi at *
      obtain ⟨a, HAE⟩ : ∃ a, Hid (mdN xs i = a) := ⟨_, rfl⟩
      rw [HAE.out] at hsb hnl
      clear hM hrow hxi hgd hc hmd hq
      have HNA : Hid _ := hnl
      have HI7 : Hid _ := h2
      go_loopw [7, 8] (fun s7 s8 wx => ∃ k : Nat, s8 = .int .i64 (k : Int) ∧ k ≤ c ∧ wx.ownsRow wr.heap.size 48 4 s7 k (fcells (mdL a i k)) ∧ wx.heap[w.heap.size + 1]? = some (.cells #[.int .u64 (a + k : Int), .int .u64 (1 + log : Int), vS] 28 (0, 0)) ∧ Kp wr wx (fun j => j = w.heap.size + 1)) (fun _ s8 _ => c - (intOf s8).toNat)
      case atStart => exact ⟨0, rfl, by omega, ⟨rfl, .inl ⟨rfl, rfl⟩⟩, by rw [hsb]; simp, Kp.refl _ _⟩
      case round =>
        rename World => wx
        obtain ⟨k, rfl, hkc, hown, hs, hk⟩ := hrel
        obtain ⟨q7, cap7, rfl⟩ : ∃ q7 cap7, u7 = Value.slice q7 k cap7 := by
          rcases hown.2 with ⟨e, e0⟩ | ⟨g, cap, cur, e, _⟩
          · exact ⟨none, 0, by rw [e, e0]⟩
          · exact ⟨_, _, e⟩
        have c0 := cx _ hk
        by_cases hlt : k < c
        · have s0 : wx.cell? ⟨w.heap.size + 1, 0, none⟩ = some (.int .u64 (a + k : Int)) := (vcb hs).1 0
          obtain ⟨hw1, hw2, hw3, hw4, hw5, hw6, hem, hkz, hw7⟩ := mad_num hlt hc30 h2 htm
          have HW6 : Hid _ := hw6
          have HW7 : Hid _ := hw7
          have hw8 : IntKind.u64.wrap ((a : Int) + (k : Int) + 1) = (a : Int) + (k : Int) + 1 := mad_u64 HNA.out HI7.out hlt hc30
          clear hw6 hw7
          obtain ⟨k1, k2⟩ := mad_conv wx hlt hc30 h2
          have HNW : Hid _ := file_news ((wx.alloc (.cells #[.int .u8 (2 * (k : Int)), .int .u8 (i : Int)] 5)).alloc (.cells #[.int .u8 (2 * (k : Int) + 1)] 5)) (mdF a i k) 48
          have HB1 : Hid (k + 1 ≤ c ∧ c < 30 ∧ wr.heap.size ≤ wx.heap.size) := ⟨hlt, hc30, hk.size⟩
          clear hx256 hnl hlt hkc h1 h2 hil hi7 hl hc30
          obtain ⟨lo, hlo⟩ : ∃ lo, lo = [(2 * k).toUInt8, i.toUInt8] := ⟨_, rfl⟩
          obtain ⟨hg, hhg⟩ : ∃ hg, hg = [(2 * k + 1).toUInt8] := ⟨_, rfl⟩
          rw [← hlo] at k1
          rw [← hhg] at k2
          have HF : Hid (mdF a i k = ⟨a + k, lo, hg, 1 + (k : Int)⟩) := by rw [hlo, hhg]; rfl
          clear hlo hhg
          go_wp2_with (at_builtin; refine wpList_append_own _ rfl _ _ 46 rfl wr.heap.size 48 i0 (.agg #[.int .u64 0, .string ⟨#[]⟩, .string ⟨#[]⟩, .int .i64 0]) 4 48 Tryd.underlying46 hi0 hz0 hz1 hz2 rfl (by decide) _ _ _ rfl (((hown.alloc _).alloc _).alloc _) ⟨wx.heap.size + 1 + 1, 0, none⟩ 1 1 (encF ⟨a + k, lo, hg, 1 + (k : Int)⟩) rfl rfl ?c2 (encF_one _) ?c3 ?c4 ?c5 ?_)
          case c2 =>
            have h := HNW.out
            rw [HF.out] at h
            simp only [World.size_alloc, Int.natCast_add] at h
            exact h
          case c3 => have := HB1.out; unfold maxLen; omega
          case c4 => have := HB1.out; omega
          case c5 => have := HB1.out; simp only [World.size_alloc]; omega
          intro v' w4 hown4 hgrow _
          obtain ⟨hs4, hk4⟩ := mad_kept hk hsw hown hgrow
          rw [hs] at hs4
          rw [← HF.out] at hown4
          have hown5 : w4.ownsRow wr.heap.size 48 4 v' (k + 1) (fcells (mdL a i (k + 1))) := by
            rw [mdL_succ, fcells_append]
            have e : fcells [mdF a i k] = encF (mdF a i k) := by simp [fcells]
            rw [e]
            exact hown4
          have hs5 := heap_set_same hs4 (o := 0) (.int .u64 ((a : Int) + (k : Int) + 1))
          have HS : Hid ((w4.setCell ⟨w.heap.size + 1, 0, none⟩ (.int .u64 ((a : Int) + (k : Int) + 1))).heap[w.heap.size + 1]? = some (.cells #[.int .u64 ((a : Int) + ((k + 1 : Nat) : Int)), .int .u64 (1 + log : Int), vS] 28 (0, 0))) := by
            show _ = _
            rw [hs5]
            have e : (a : Int) + ((k + 1 : Nat) : Int) = (a : Int) + (k : Int) + 1 := by omega
            rw [e]
            rfl
          have HO : Hid ((w4.setCell ⟨w.heap.size + 1, 0, none⟩ (.int .u64 ((a : Int) + (k : Int) + 1))).ownsRow wr.heap.size 48 4 v' (k + 1) (fcells (mdL a i (k + 1)))) := own_kept hown5 fun g hg => heap_set_other _ (by have := (own_blk_lt hown5 hg).2.1; omega)
          have HK : Hid (Kp wr (w4.setCell ⟨w.heap.size + 1, 0, none⟩ (.int .u64 ((a : Int) + (k : Int) + 1))) (fun j => j = w.heap.size + 1)) := hk4.setCell _ (.inl rfl)
          have z0 : w4.cell? ⟨w.heap.size + 1, 0, none⟩ = some (.int .u64 ((a : Int) + (k : Int))) := (vcb hs4).1 0
          have zf := (vcb hs4).2 0
          clear hown hown4 hown5 hgrow hs hs4 hs5 hk4 hk k1 k2 s0 hw1 hw2 hw3 hw4 hw5
          go_wp2
          go_roundw
          case rel => exact ⟨k + 1, by go_num, HB1.out.1, HO.out, HS.out, HK.out⟩
          case measure => have := HB1.out; simp [intOf]; omega
        · have hkz : ¬ (k : Int) < (c : Int) := by omega
          have hem : (xi : Int) % 30 = (c : Int) := by rw [← htm, Int.tmod_eq_emod_of_nonneg (by omega)]
          have hke : k = c := by omega
          subst hke
          have z2 : wx.cell? ⟨w.heap.size + 1, 2, none⟩ = some vS := (vcb hs).1 2
          have zf := (vcb hs).2 2
          have HKX : Hid _ := hk
          have HSX : Hid _ := hs
          have HOX : Hid _ := hown
          have HB1 : Hid (i + 1 ≤ 7 ∧ i + 1 ≤ xs.length) := ⟨by omega, by omega⟩
          have hlv : wx.ownsRow (w.heap.size + 1 + 1) 46 1 vS i vs := own_kept HM.out.lv fun g h => hk.block g (own_blk_lt HM.out.lv h).1 (by have := (own_blk_lt HM.out.lv h).2.1; omega)
          have HSZ : Hid (w.heap.size + 1 + 1 ≤ wx.heap.size) := (by have := hk.size; omega : w.heap.size + 1 + 1 ≤ wx.heap.size)
          have hex : ∃ q5 n5 cap5, vS = Value.slice q5 n5 cap5 := by
            rcases hlv.2 with ⟨e, e0⟩ | ⟨g, cap, cur, e, _⟩
            · exact ⟨_, _, _, e⟩
            · exact ⟨_, _, _, e⟩
          clear hx256 hnl hkc h1 h2 hil hi7 hl hc30 hk hs hown cx hsb hlt
          go_wp2_with (at_builtin; refine wpList_append_own _ rfl _ _ 26 rfl (w.heap.size + 1 + 1) 46 i1 (.slice none 0 0) 1 24 Tryd.underlying26 hi1 hy0 hy1 hy2 rfl (by decide) _ _ _ rfl (hlv.alloc _) ⟨wx.heap.size, 0, none⟩ 1 1 [Value.slice q7 k cap7] rfl rfl ?c2 ?c6 ?c3 ?c4 ?c5 ?_)
          case c6 => exact rfl
          case c3 => have := HB1.out; unfold maxLen; omega
          case c4 => have := HB1.out; omega
          case c5 => have := HSZ.out; omega
          intro v' w5 hown5 hgrow _
          obtain ⟨q8, n8, cap8, rfl⟩ : ∃ q8 n8 cap8, v' = Value.slice q8 n8 cap8 := by
            rcases hown5.2 with ⟨e, e0⟩ | ⟨g, cap, cur, e, _⟩
            · exact ⟨_, _, _, e⟩
            · exact ⟨_, _, _, e⟩
          have HN : Hid _ := HM.out.next HKX.out HOX.out HGD.out HAE.out HSX.out hown5 hgrow
          have hs5 : w5.heap[w.heap.size + 1]? = wx.heap[w.heap.size + 1]? := by
            rw [hgrow.block _ (by have := HSZ.out; simp only [World.size_alloc]; omega) (fun h => by have := (own_blk_lt hlv h.symm).2.1; omega)]
            exact Below.heap_alloc _ _ _ (by have := HSZ.out; omega)
          rw [HSX.out] at hs5
          have y2 := (vcb hs5).1 2
          have yf := (vcb hs5).2 2
          clear hown5 hgrow hs5 hlv z2 zf
          go_wp2
          go_roundw
          case rel => exact ⟨i + 1, _, _, by go_num, HB1.out.2, HB1.out.1, HN.out⟩
          case measure => have := HB1.out; simp [intOf]; omega
    · have hie : min xs.length 7 = i := by omega
      obtain ⟨m0, m1, m2⟩ : wr.cell? ⟨w.heap.size + 1, 0, none⟩ = some (.int .u64 (mdN xs i : Int)) ∧ wr.cell? ⟨w.heap.size + 1, 1, none⟩ = some (.int .u64 (1 + log : Int)) ∧ wr.cell? ⟨w.heap.size + 1, 2, none⟩ = some vS := ⟨(vcb hM.sb).1 0, (vcb hM.sb).1 1, (vcb hM.sb).1 2⟩
      obtain ⟨q5, n5, cap5, rfl⟩ : ∃ q5 n5 cap5, vS = Value.slice q5 n5 cap5 := by
        rcases hM.lv.2 with ⟨e, e0⟩ | ⟨g, cap, cur, e, _⟩
        · exact ⟨_, _, _, e⟩
        · exact ⟨_, _, _, e⟩
      have g0 := (vcb hM.rc).1 0
      have g1 := (vcb hM.rc).1 1
      have g2 := (vcb hM.rc).1 2
      simp at g0 g1 g2
      have f0 := (vcb hM.rc).2 0
      have f1 := (vcb hM.rc).2 1
      have f2 := (vcb hM.rc).2 2
      have h1 := heap_set_same hM.rc (o := 0) (.int .u64 (mdN xs i : Int))
      have h2 := heap_set_same h1 (o := 1) (.int .u64 (1 + log : Int))
      have h3 := heap_set_same h2 (o := 2) (Value.slice q5 n5 cap5)
      have HL : Hid _ := hM.own (W' := ((wr.setCell ⟨w.heap.size, 0, none⟩ (.int .u64 (mdN xs i : Int))).setCell ⟨w.heap.size, 1, none⟩ (.int .u64 (1 + log : Int))).setCell ⟨w.heap.size, 2, none⟩ (Value.slice q5 n5 cap5)) fun j hj => (heap_set_other _ (by omega)).trans ((heap_set_other _ (by omega)).trans (heap_set_other _ (by omega)))
      have HB : Hid _ := below_setv (below_setv (below_setv hM.bl (Nat.le_refl _) (o := 0) (.int .u64 (mdN xs i : Int))) (Nat.le_refl _) (o := 1) (.int .u64 (1 + log : Int))) (Nat.le_refl _) (o := 2) (Value.slice q5 n5 cap5)
      have r0 := (vcb h3).1 0
      have r1 := (vcb h3).1 1
      have r2 := (vcb h3).1 2
      have HR : Hid _ := And.intro r0 (And.intro r1 r2)
      have HIE : Hid _ := hie
      have hkx : ¬ ((i : Int) < (xs.length : Int) ∧ (i : Int) < 7) := by omega
      clear hM h1 h2 h3 r0 r1 r2 hq hx
      by_cases hx1 : (i : Int) < (xs.length : Int)
      · have hx2 : ¬ (i : Int) < 7 := fun h => hkx ⟨hx1, h⟩
        clear hkx hlt hil hi7 hie
        go_wp2
        obtain ⟨r0, r1, r2⟩ := HR.out
        refine bodyPost_ret (v := .agg #[.int .u64 (mdN xs i : Int), .int .u64 (1 + log : Int), Value.slice q5 n5 cap5]) (by rw [vres1 Tryd.results5]; simp [go_sem, r0, r1, r2]) rfl ?_
        rw [HIE.out]
        exact ⟨_, rfl, ⟨_, HL.out⟩, HB.out⟩
      · clear hkx hlt hil hi7 hie
        go_wp2
        obtain ⟨r0, r1, r2⟩ := HR.out
        refine bodyPost_ret (v := .agg #[.int .u64 (mdN xs i : Int), .int .u64 (1 + log : Int), Value.slice q5 n5 cap5]) (by rw [vres1 Tryd.results5]; simp [go_sem, r0, r1, r2]) rfl ?_
        rw [HIE.out]
        exact ⟨_, rfl, ⟨_, HL.out⟩, HB.out⟩

end Go.Proofs.YtnfnlfdplnekgaaDoor
