/-
  made: the laws' states, in memory.
  ManifestBack, walked.
  ManifestBack: states that may be come back from their frames as they were, and a frame that is cut by a byte, or has a byte behind it, is none. No condition but the card's own: the listed package-level variables hold what the program's text lays.
-/
import Derived.Test.YtpcmjlkkhdkdjaaDoorGVOpen
import Derived.Test.YtpcmjlkkhdkdjaaDoorCards
import Derived.Test.YtpcmjlkkhdkdjaaDoorTie
import Derived.Test.YtpcmjlkkhdkdjaaDoorGTLaid
namespace Go.Proofs.YtpcmjlkkhdkdjaaDoor
open Go.RowKit Go.BigFrame Go.Sort
attribute [local go_sem] size_bstr toList_bstr ls_def

theorem vres1 {fn : Func} {p : Tmp} {ty : TypeId} (h : fn.results = #[.cell p ty]) (tmps : Array Value) (P : Program) (w : World) :
    (results fn tmps).run P w = ((asAddr (tmps.getD p undef)).run P w).andThen fun a w₁ => (loadVar ty a).run P w₁ := by
  simp only [results, h]
  simp [Sem.run_bind, Result.andThen]
theorem mad_u64 {a i k c : Nat} (h : 1 ≤ a ∧ a ≤ 1 + 29 * i) (hi : i < 7) (hk : k < c) (hc : c < 30) : IntKind.u64.wrap ((a : Int) + (k : Int) + 1) = (a : Int) + (k : Int) + 1 := by
  rw [IntKind.wrap_u64]; omega
set_option maxHeartbeats 8000000 in
set_option maxRecDepth 100000 in
theorem made_any (q : Option Addr) (b off cap : Nat) (xs : List Nat) (log : Nat) (w : World) (hq : 0 < xs.length → q = some ⟨b, off, none⟩ ∧ ByRow w b off xs ∧ b < w.heap.size) (hx : ∀ x ∈ xs, x < 256) (hl : log < 4294967296) :
    Calls Tryd.prog 4 #[.slice q xs.length cap, .int .u32 (log : Int)] w fun e w' => ∃ v vs, e = .returned (.agg #[.int .u64 (mdN xs (min xs.length 7) : Int), .int .u64 (1 + log : Int), v]) ∧ LArg w' v vs (mdS xs (min xs.length 7)) ∧ Below w.heap.size w w' := by
  obtain ⟨i0, hi0, hz0, hz1, hz2⟩ := info_parts Tryd.infoFile
  obtain ⟨i1, hi1, hy0, hy1, hy2⟩ := info_parts Tryd.infoLvl
  obtain ⟨W, hW⟩ : ∃ W, W = (w.alloc (.cells #[.int .u64 0, .int .u64 0, .slice none 0 0] 27)).alloc (.cells #[.int .u64 1, .int .u64 (1 + log : Int), .slice none 0 0] 27) := ⟨_, rfl⟩
  have hb0 : Below w.heap.size w W := by rw [hW]; exact ((Below.refl _ _).alloc (Nat.le_refl _) _).alloc (by simp) _
  have x0 : W.heap[w.heap.size]? = some (.cells #[.int .u64 0, .int .u64 0, .slice none 0 0] 27 (0, 0)) := by rw [hW]; exact (Below.heap_alloc _ _ _ (by simp)).trans (heap_alloc_new w _)
  have x1 : W.heap[w.heap.size + 1]? = some (.cells #[.int .u64 1, .int .u64 (1 + log : Int), .slice none 0 0] 27 (0, 0)) := by
    rw [hW]
    have := heap_alloc_new (w.alloc (.cells #[.int .u64 0, .int .u64 0, .slice none 0 0] 27)) (.cells #[.int .u64 1, .int .u64 (1 + log : Int), .slice none 0 0] 27)
    rwa [World.size_alloc] at this
  have hM0 : MJ w (w.heap.size + 1) log xs 0 (.slice none 0 0) [] W := ⟨x1, x0, rfl, ⟨rfl, .inl ⟨rfl, rfl⟩⟩, fun j u h => by simp at h, hb0⟩
  have hlw : IntKind.u64.wrap (1 + (log : Int)) = 1 + (log : Int) := by rw [IntKind.wrap_u64]; omega
  have hlw2 : IntKind.u64.wrap (log : Int) = (log : Int) := by rw [IntKind.wrap_u64]; omega
  have HW : Hid _ := hW
  clear hW x0 x1 hb0
  go_enter Tryd.func4, Tryd.ntmps4
  go_wp2_with fail
  rw [← HW.out]
  clear HW
  go_loopw [6, 7, 8] (fun s6 s7 s8 wr => ∃ (i : Nat) (vS : Value) (vs : List Value), s6 = .int .i64 (i : Int) ∧ i ≤ xs.length ∧ i ≤ 7 ∧ MJ w (w.heap.size + 1) log xs i vS vs wr) (fun s6 _ _ _ => 7 - (intOf s6).toNat)
  case atStart => exact ⟨0, _, _, rfl, by omega, by omega, hM0⟩
  case round =>
    clear hM0
    obtain ⟨i, vS, vs, rfl, hil, hi7, hM⟩ := hrel
    by_cases hlt : i < xs.length ∧ i < 7
    · obtain ⟨h1, h2⟩ := hlt
      have h1z : (i : Int) < (xs.length : Int) := by omega
      have h2z : (i : Int) < 7 := by omega
      go_wp2_with fail
      obtain ⟨rfl, hrow, hbl⟩ := hq (by omega)
      have hxi := hrow i h1
      have hx256 := hx xs[i] (List.getElem_mem h1)
      have hgd : xs.getD i 0 = xs[i] := by rw [List.getD_eq_getElem?_getD, List.getElem?_eq_getElem h1]; rfl
      have hmd : mdN xs (i + 1) = mdN xs i + xs[i] % 30 := by show mdN xs i + (xs.getD i 0) % 30 = _; rw [hgd]
      have hnl := mdN_le xs i
      obtain ⟨c, hc⟩ : ∃ c, c = xs[i] % 30 := ⟨_, rfl⟩
      have hc30 : c < 30 := by omega
      have htm : (xs[i] : Int).tmod 30 = (c : Int) := by rw [Int.tmod_eq_emod_of_nonneg (by omega)]; omega
      have cx : ∀ wx, Kp wr wx (fun j => j = w.heap.size + 1) → wx.cell? ⟨b, off + i, none⟩ = some (.int .u8 (xs[i] : Int)) := fun wx hk => by
        have e := (hk.block b (Nat.lt_of_lt_of_le hbl hM.bl.size) (by omega)).trans (hM.bl.block b hbl)
        rw [World.cell?_of_block e]
        exact hxi
      rw [← hc] at hmd
      have HM : Hid _ := hM
      have HMD : Hid _ := hmd
      have HGD : Hid (xs.getD i 0 % 30 = c) := by show _ = _; rw [hgd, hc]
      have hsb := hM.sb
      have hsw := blk_lt hM.sb
      generalize xs[i] = xi at *
      obtain ⟨a, HAE⟩ : ∃ a, Hid (mdN xs i = a) := ⟨_, rfl⟩
      rw [HAE.out] at hsb hnl
      clear hM hrow hxi hgd hc hmd hq
      have HNA : Hid _ := hnl
      have HI7 : Hid _ := h2
      go_loopw [7, 8] (fun s7 s8 wx => ∃ k : Nat, s8 = .int .i64 (k : Int) ∧ k ≤ c ∧ wx.ownsRow wr.heap.size 40 4 s7 k (fcells (mdL a i k)) ∧ wx.heap[w.heap.size + 1]? = some (.cells #[.int .u64 (a + k : Int), .int .u64 (1 + log : Int), vS] 27 (0, 0)) ∧ Kp wr wx (fun j => j = w.heap.size + 1)) (fun _ s8 _ => c - (intOf s8).toNat)
      case atStart => exact ⟨0, rfl, by omega, ⟨rfl, .inl ⟨rfl, rfl⟩⟩, by rw [hsb]; simp, Kp.refl _ _⟩
      case round =>
        rename World => wx
        obtain ⟨k, rfl, hkc, hown, hs, hk⟩ := hrel
        obtain ⟨q7, cap7, rfl⟩ : ∃ q7 cap7, u7 = Value.slice q7 k cap7 := by
          rcases hown.2 with ⟨e, e0⟩ | ⟨g, cap, cur, e, _⟩
          · exact ⟨none, 0, by rw [e, e0]⟩
          · exact ⟨_, _, e⟩
        have c0 := cx _ hk
        by_cases hlt : k < c
        · have s0 : wx.cell? ⟨w.heap.size + 1, 0, none⟩ = some (.int .u64 (a + k : Int)) := (vcb hs).1 0
          obtain ⟨hw1, hw2, hw3, hw4, hw5, hw6, hem, hkz, hw7⟩ := mad_num hlt hc30 h2 htm
          have HW6 : Hid _ := hw6
          have HW7 : Hid _ := hw7
          have hw8 : IntKind.u64.wrap ((a : Int) + (k : Int) + 1) = (a : Int) + (k : Int) + 1 := mad_u64 HNA.out HI7.out hlt hc30
          clear hw6 hw7
          obtain ⟨k1, k2⟩ := mad_conv wx hlt hc30 h2
          have HNW : Hid _ := file_news ((wx.alloc (.cells #[.int .u8 (2 * (k : Int)), .int .u8 (i : Int)] 5)).alloc (.cells #[.int .u8 (2 * (k : Int) + 1)] 5)) (mdF a i k) 40
          have HB1 : Hid (k + 1 ≤ c ∧ c < 30 ∧ wr.heap.size ≤ wx.heap.size) := ⟨hlt, hc30, hk.size⟩
          clear hx256 hnl hlt hkc h1 h2 hil hi7 hl hc30
          obtain ⟨lo, hlo⟩ : ∃ lo, lo = [(2 * k).toUInt8, i.toUInt8] := ⟨_, rfl⟩
          obtain ⟨hg, hhg⟩ : ∃ hg, hg = [(2 * k + 1).toUInt8] := ⟨_, rfl⟩
          rw [← hlo] at k1
          rw [← hhg] at k2
          have HF : Hid (mdF a i k = ⟨a + k, lo, hg, 1 + (k : Int)⟩) := by rw [hlo, hhg]; rfl
          clear hlo hhg
          go_wp2_with (at_builtin; refine wpList_append_own _ rfl _ _ 38 rfl wr.heap.size 40 i0 (.agg #[.int .u64 0, .string ⟨#[]⟩, .string ⟨#[]⟩, .int .i64 0]) 4 48 Tryd.underlying38 hi0 hz0 hz1 hz2 rfl (by decide) _ _ _ rfl (((hown.alloc _).alloc _).alloc _) ⟨wx.heap.size + 1 + 1, 0, none⟩ 1 1 (encF ⟨a + k, lo, hg, 1 + (k : Int)⟩) rfl rfl ?c2 (encF_one _) ?c3 ?c4 ?c5 ?_)
          case c2 =>
            have h := HNW.out
            rw [HF.out] at h
            simp only [World.size_alloc, Int.natCast_add] at h
            exact h
          case c3 => have := HB1.out; unfold maxLen; omega
          case c4 => have := HB1.out; omega
          case c5 => have := HB1.out; simp only [World.size_alloc]; omega
          intro v' w4 hown4 hgrow _
          obtain ⟨hs4, hk4⟩ := mad_kept hk hsw hown hgrow
          rw [hs] at hs4
          rw [← HF.out] at hown4
          have hown5 : w4.ownsRow wr.heap.size 40 4 v' (k + 1) (fcells (mdL a i (k + 1))) := by
            rw [mdL_succ, fcells_append]
            have e : fcells [mdF a i k] = encF (mdF a i k) := by simp [fcells]
            rw [e]
            exact hown4
          have hs5 := heap_set_same hs4 (o := 0) (.int .u64 ((a : Int) + (k : Int) + 1))
          have HS : Hid ((w4.setCell ⟨w.heap.size + 1, 0, none⟩ (.int .u64 ((a : Int) + (k : Int) + 1))).heap[w.heap.size + 1]? = some (.cells #[.int .u64 ((a : Int) + ((k + 1 : Nat) : Int)), .int .u64 (1 + log : Int), vS] 27 (0, 0))) := by
            show _ = _
            rw [hs5]
            have e : (a : Int) + ((k + 1 : Nat) : Int) = (a : Int) + (k : Int) + 1 := by omega
            rw [e]
            rfl
          have HO : Hid ((w4.setCell ⟨w.heap.size + 1, 0, none⟩ (.int .u64 ((a : Int) + (k : Int) + 1))).ownsRow wr.heap.size 40 4 v' (k + 1) (fcells (mdL a i (k + 1)))) := own_kept hown5 fun g hg => heap_set_other _ (by have := (own_blk_lt hown5 hg).2.1; omega)
          have HK : Hid (Kp wr (w4.setCell ⟨w.heap.size + 1, 0, none⟩ (.int .u64 ((a : Int) + (k : Int) + 1))) (fun j => j = w.heap.size + 1)) := hk4.setCell _ (.inl rfl)
          have z0 : w4.cell? ⟨w.heap.size + 1, 0, none⟩ = some (.int .u64 ((a : Int) + (k : Int))) := (vcb hs4).1 0
          have zf := (vcb hs4).2 0
          clear hown hown4 hown5 hgrow hs hs4 hs5 hk4 hk k1 k2 s0 hw1 hw2 hw3 hw4 hw5
          go_wp2
          go_roundw
          case rel => exact ⟨k + 1, by go_num, HB1.out.1, HO.out, HS.out, HK.out⟩
          case measure => have := HB1.out; simp [intOf]; omega
        · have hkz : ¬ (k : Int) < (c : Int) := by omega
          have hem : (xi : Int) % 30 = (c : Int) := by rw [← htm, Int.tmod_eq_emod_of_nonneg (by omega)]
          have hke : k = c := by omega
          subst hke
          have z2 : wx.cell? ⟨w.heap.size + 1, 2, none⟩ = some vS := (vcb hs).1 2
          have zf := (vcb hs).2 2
          have HKX : Hid _ := hk
          have HSX : Hid _ := hs
          have HOX : Hid _ := hown
          have HB1 : Hid (i + 1 ≤ 7 ∧ i + 1 ≤ xs.length) := ⟨by omega, by omega⟩
          have hlv : wx.ownsRow (w.heap.size + 1 + 1) 38 1 vS i vs := own_kept HM.out.lv fun g h => hk.block g (own_blk_lt HM.out.lv h).1 (by have := (own_blk_lt HM.out.lv h).2.1; omega)
          have HSZ : Hid (w.heap.size + 1 + 1 ≤ wx.heap.size) := (by have := hk.size; omega : w.heap.size + 1 + 1 ≤ wx.heap.size)
          have hex : ∃ q5 n5 cap5, vS = Value.slice q5 n5 cap5 := by
            rcases hlv.2 with ⟨e, e0⟩ | ⟨g, cap, cur, e, _⟩
            · exact ⟨_, _, _, e⟩
            · exact ⟨_, _, _, e⟩
          clear hx256 hnl hkc h1 h2 hil hi7 hl hc30 hk hs hown cx hsb hlt
          go_wp2_with (at_builtin; refine wpList_append_own _ rfl _ _ 25 rfl (w.heap.size + 1 + 1) 38 i1 (.slice none 0 0) 1 24 Tryd.underlying25 hi1 hy0 hy1 hy2 rfl (by decide) _ _ _ rfl (hlv.alloc _) ⟨wx.heap.size, 0, none⟩ 1 1 [Value.slice q7 k cap7] rfl rfl ?c2 ?c6 ?c3 ?c4 ?c5 ?_)
          case c6 => exact rfl
          case c3 => have := HB1.out; unfold maxLen; omega
          case c4 => have := HB1.out; omega
          case c5 => have := HSZ.out; omega
          intro v' w5 hown5 hgrow _
          obtain ⟨q8, n8, cap8, rfl⟩ : ∃ q8 n8 cap8, v' = Value.slice q8 n8 cap8 := by
            rcases hown5.2 with ⟨e, e0⟩ | ⟨g, cap, cur, e, _⟩
            · exact ⟨_, _, _, e⟩
            · exact ⟨_, _, _, e⟩
          have HN : Hid _ := HM.out.next HKX.out HOX.out HGD.out HAE.out HSX.out hown5 hgrow
          have hs5 : w5.heap[w.heap.size + 1]? = wx.heap[w.heap.size + 1]? := by
            rw [hgrow.block _ (by have := HSZ.out; simp only [World.size_alloc]; omega) (fun h => by have := (own_blk_lt hlv h.symm).2.1; omega)]
            exact Below.heap_alloc _ _ _ (by have := HSZ.out; omega)
          rw [HSX.out] at hs5
          have y2 := (vcb hs5).1 2
          have yf := (vcb hs5).2 2
          clear hown5 hgrow hs5 hlv z2 zf
          go_wp2
          go_roundw
          case rel => exact ⟨i + 1, _, _, by go_num, HB1.out.2, HB1.out.1, HN.out⟩
          case measure => have := HB1.out; simp [intOf]; omega
    · have hie : min xs.length 7 = i := by omega
      obtain ⟨m0, m1, m2⟩ : wr.cell? ⟨w.heap.size + 1, 0, none⟩ = some (.int .u64 (mdN xs i : Int)) ∧ wr.cell? ⟨w.heap.size + 1, 1, none⟩ = some (.int .u64 (1 + log : Int)) ∧ wr.cell? ⟨w.heap.size + 1, 2, none⟩ = some vS := ⟨(vcb hM.sb).1 0, (vcb hM.sb).1 1, (vcb hM.sb).1 2⟩
      obtain ⟨q5, n5, cap5, rfl⟩ : ∃ q5 n5 cap5, vS = Value.slice q5 n5 cap5 := by
        rcases hM.lv.2 with ⟨e, e0⟩ | ⟨g, cap, cur, e, _⟩
        · exact ⟨_, _, _, e⟩
        · exact ⟨_, _, _, e⟩
      have g0 := (vcb hM.rc).1 0
      have g1 := (vcb hM.rc).1 1
      have g2 := (vcb hM.rc).1 2
      simp at g0 g1 g2
      have f0 := (vcb hM.rc).2 0
      have f1 := (vcb hM.rc).2 1
      have f2 := (vcb hM.rc).2 2
      have h1 := heap_set_same hM.rc (o := 0) (.int .u64 (mdN xs i : Int))
      have h2 := heap_set_same h1 (o := 1) (.int .u64 (1 + log : Int))
      have h3 := heap_set_same h2 (o := 2) (Value.slice q5 n5 cap5)
      have HL : Hid _ := hM.arg (W' := ((wr.setCell ⟨w.heap.size, 0, none⟩ (.int .u64 (mdN xs i : Int))).setCell ⟨w.heap.size, 1, none⟩ (.int .u64 (1 + log : Int))).setCell ⟨w.heap.size, 2, none⟩ (Value.slice q5 n5 cap5)) fun j hj => (heap_set_other _ (by omega)).trans ((heap_set_other _ (by omega)).trans (heap_set_other _ (by omega)))
      have HB : Hid _ := below_setv (below_setv (below_setv hM.bl (Nat.le_refl _) (o := 0) (.int .u64 (mdN xs i : Int))) (Nat.le_refl _) (o := 1) (.int .u64 (1 + log : Int))) (Nat.le_refl _) (o := 2) (Value.slice q5 n5 cap5)
      have r0 := (vcb h3).1 0
      have r1 := (vcb h3).1 1
      have r2 := (vcb h3).1 2
      have HR : Hid _ := And.intro r0 (And.intro r1 r2)
      have HIE : Hid _ := hie
      have hkx : ¬ ((i : Int) < (xs.length : Int) ∧ (i : Int) < 7) := by omega
      clear hM h1 h2 h3 r0 r1 r2 hq hx
      by_cases hx1 : (i : Int) < (xs.length : Int)
      · have hx2 : ¬ (i : Int) < 7 := fun h => hkx ⟨hx1, h⟩
        clear hkx hlt hil hi7 hie
        go_wp2
        obtain ⟨r0, r1, r2⟩ := HR.out
        refine bodyPost_ret (v := .agg #[.int .u64 (mdN xs i : Int), .int .u64 (1 + log : Int), Value.slice q5 n5 cap5]) (by rw [vres1 Tryd.results4]; simp [go_sem, r0, r1, r2]) rfl ?_
        rw [HIE.out]
        exact ⟨_, rfl, ⟨_, HL.out⟩, HB.out⟩
      · clear hkx hlt hil hi7 hie
        go_wp2
        obtain ⟨r0, r1, r2⟩ := HR.out
        refine bodyPost_ret (v := .agg #[.int .u64 (mdN xs i : Int), .int .u64 (1 + log : Int), Value.slice q5 n5 cap5]) (by rw [vres1 Tryd.results4]; simp [go_sem, r0, r1, r2]) rfl ?_
        rw [HIE.out]
        exact ⟨_, rfl, ⟨_, HL.out⟩, HB.out⟩

end Go.Proofs.YtpcmjlkkhdkdjaaDoor

namespace Go.Proofs.YtpcmjlkkhdkdjaaDoor
open Go.RowKit Go.BigFrame Go.Sort
attribute [local go_sem] size_bstr toList_bstr append_bstr

theorem opn_init {b : List UInt8} (h : b.length ≤ 1048576) {k : Nat} (hk : k < (frm b).length) : opn ((frm b).take k) = none := by
  cases ho : opn ((frm b).take k) with
  | none => rfl
  | some b' =>
    exfalso
    obtain ⟨hb', r, hr⟩ := opn_some ho
    have e : frm b = frm b' ++ (r ++ (frm b).drop k) := by
      conv => lhs; rw [← List.take_append_drop k (frm b), hr, List.append_assoc]
    have h1 := opn_frm h []
    rw [List.append_nil, e, opn_frm hb'] at h1
    have h2 : b' = b := Option.some.inj h1
    have h3 := congrArg List.length hr
    rw [List.length_take, List.length_append, h2] at h3
    omega
theorem ext_head (L : List UInt8) (n : Nat) : (bstr L).extract 0 n = bstr (L.take n) := by
  apply ByteArray.ext
  apply Array.ext'
  simp [bstr]
theorem two_below {a b c : World} (h : Below a.heap.size a b) (k : Below b.heap.size b c) : Below a.heap.size a c := below2v h k h.size

set_option maxHeartbeats 8000000 in
set_option maxRecDepth 100000 in
theorem MBack_any (q : Option Addr) (b off cap : Nat) (xs : List Nat) (log : Nat) (w : World) (hq : 0 < xs.length → q = some ⟨b, off, none⟩ ∧ ByRow w b off xs ∧ b < w.heap.size) (hx : ∀ x ∈ xs, x < 256) (hl : log < 4294967296) (hT : Tabs w) :
    Calls Tryd.prog 3 #[.slice q xs.length cap, .int .u32 (log : Int)] w fun e w' => e = .returned (.bool true) ∧ Below w.heap.size w w' := by
  have hS := mdS_ok xs (min xs.length 7) (by omega) log hl
  have hmade := made_any q b off cap xs log w hq hx hl
  have hlv : (mdS xs (min xs.length 7)).length ≤ 7 := by rw [mdS_length]; omega
  have hmn : many (mdS xs (min xs.length 7)) ≤ 1024 := by rw [many_mdS]; have := (mdN_le xs (min xs.length 7)).2; omega
  have elg : (1 : Int) + (log : Int) = ((1 + log : Nat) : Int) := by omega
  rw [elg] at hmade
  clear elg hq hx hl
  obtain ⟨N, hN⟩ : ∃ N, N = mdN xs (min xs.length 7) := ⟨_, rfl⟩
  obtain ⟨lv, hlve⟩ : ∃ lv, lv = mdS xs (min xs.length 7) := ⟨_, rfl⟩
  obtain ⟨lg, hlg⟩ : ∃ lg, lg = 1 + log := ⟨_, rfl⟩
  rw [← hN, ← hlg, ← hlve] at hS hmade
  rw [← hlve] at hlv hmn
  clear hN hlve hlg
  have hst := stB_len hS
  have hfl := frm_length (stB N lg lv)
  have hsi := opn_init (b := stB N lg lv) (by omega) (k := (stB N lg lv).length + 7) (by omega)
  have hmo := opn_frm (b := stB N lg lv) (by omega) [0]
  have hen := fun W v vs hL hT => Encode_ok v vs N lg lv W hL hS hT
  have hdc := fun W hT => Decode_ok N lg lv W hS hT
  have hck := fun W v vs hL => Check_ok v vs N lg lv W hL hS
  have hsm := fun W va vb vsa vsb hA hB => same_ok va vb vsa vsb N lg lv W hA hB hlv hmn
  have hd1 := fun W hT => Decode_bad ((frm (stB N lg lv)).take ((stB N lg lv).length + 7)) W (by rw [List.length_take]; omega) hT (.inl hsi)
  have hd2 := fun W hT => Decode_bad (frm (stB N lg lv) ++ [0]) W (by rw [List.length_append, hfl]; have : ([0] : List UInt8).length = 1 := rfl; omega) hT (.inr ⟨_, hmo, by rw [List.length_append, hfl]; have : ([0] : List UInt8).length = 1 := rfl; omega⟩)
  have hex := ext_head (frm (stB N lg lv)) ((stB N lg lv).length + 7)
  have HT : Hid _ := hT
  generalize (stB N lg lv).length = ln at *
  generalize frm (stB N lg lv) = fB at *
  clear hS hsi hmo hlv hmn
  go_enter Tryd.func3, Tryd.ntmps3
  go_wp2_with fail
  refine hmade.mono ?_
  rintro e w1 ⟨v, vs, rfl, hL1, hb1⟩
  obtain ⟨q5, cap5, rfl, _, _⟩ := hL1.sl
  have hb2 : Below w1.heap.size w1 (w1.alloc (.cells #[.int .u64 (N : Int), .int .u64 (lg : Int), .slice q5 lv.length cap5] 27)) := (Below.refl _ _).alloc (Nat.le_refl _) _
  have x2 := heap_alloc_new w1 (.cells #[.int .u64 (N : Int), .int .u64 (lg : Int), .slice q5 lv.length cap5] 27)
  obtain ⟨w2, hw2⟩ : ∃ w2, w2 = w1.alloc (.cells #[.int .u64 (N : Int), .int .u64 (lg : Int), .slice q5 lv.length cap5] 27) := ⟨_, rfl⟩
  rw [← hw2] at hb2 x2
  have HW2 : Hid _ := hw2
  have HL2 : Hid _ := hL1.below hb2
  have HB2 : Hid _ := two_below hb1 hb2
  clear hw2 hL1 hb1 hb2 hmade hT
  obtain ⟨c0, c1, c2⟩ : w2.cell? ⟨w1.heap.size, 0, none⟩ = some (.int .u64 (N : Int)) ∧ w2.cell? ⟨w1.heap.size, 1, none⟩ = some (.int .u64 (lg : Int)) ∧ w2.cell? ⟨w1.heap.size, 2, none⟩ = some (.slice q5 lv.length cap5) := ⟨(vcb x2).1 0, (vcb x2).1 1, (vcb x2).1 2⟩
  go_wp2_with fail
  rw [← HW2.out]
  clear HW2
  have HT2 : Hid _ := Tabs.below (w := w) HT.out HB2.out
  refine (hen w2 _ vs HL2.out HT2.out).mono ?_
  rintro e w3 ⟨rfl, hb3⟩
  have HT3 : Hid _ := Tabs.below (w := w2) HT2.out hb3
  clear hen
  go_wp2_with fail
  refine (hdc w3 HT3.out).mono ?_
  rintro e w4 ⟨v6, vs6, rfl, hL4, hb4⟩
  obtain ⟨q6, cap6, rfl, _, _⟩ := hL4.sl
  have HT4 : Hid _ := Tabs.below (w := w3) HT3.out hb4
  have hb5 : Below w4.heap.size w4 (w4.alloc (.cells #[.int .u64 (N : Int), .int .u64 (lg : Int), .slice q6 lv.length cap6] 27)) := (Below.refl _ _).alloc (Nat.le_refl _) _
  have x5 := heap_alloc_new w4 (.cells #[.int .u64 (N : Int), .int .u64 (lg : Int), .slice q6 lv.length cap6] 27)
  obtain ⟨w5, hw5⟩ : ∃ w5, w5 = w4.alloc (.cells #[.int .u64 (N : Int), .int .u64 (lg : Int), .slice q6 lv.length cap6] 27) := ⟨_, rfl⟩
  rw [← hw5] at hb5 x5
  have hb25 := two_below (two_below hb3 hb4) hb5
  have HW5 : Hid _ := hw5
  have HL5 : Hid _ := hL4.below hb5
  have HLA : Hid _ := HL2.out.below hb25
  have HT5 : Hid _ := Tabs.below (w := w4) HT4.out hb5
  have y2 := (hb25.block _ (blk_lt x2)).trans x2
  have HB5 : Hid _ := two_below HB2.out hb25
  clear hw5 hL4 hb3 hb4 hb5 hb25 hdc HT2 HT3 HT4 HL2 HB2 c0 c1 c2
  obtain ⟨c0, c1, c2⟩ : w5.cell? ⟨w1.heap.size, 0, none⟩ = some (.int .u64 (N : Int)) ∧ w5.cell? ⟨w1.heap.size, 1, none⟩ = some (.int .u64 (lg : Int)) ∧ w5.cell? ⟨w1.heap.size, 2, none⟩ = some (.slice q5 lv.length cap5) := ⟨(vcb y2).1 0, (vcb y2).1 1, (vcb y2).1 2⟩
  obtain ⟨d0, d1, d2⟩ : w5.cell? ⟨w4.heap.size, 0, none⟩ = some (.int .u64 (N : Int)) ∧ w5.cell? ⟨w4.heap.size, 1, none⟩ = some (.int .u64 (lg : Int)) ∧ w5.cell? ⟨w4.heap.size, 2, none⟩ = some (.slice q6 lv.length cap6) := ⟨(vcb x5).1 0, (vcb x5).1 1, (vcb x5).1 2⟩
  rw [HW5.out] at c0 c1 c2 d0 d1 d2
  go_wp2_with fail
  rw [← HW5.out] at c0 c1 c2
  rw [← HW5.out]
  refine (hsm w5 _ _ vs6 vs HL5.out HLA.out).mono ?_
  rintro e w6 ⟨rfl, hb6⟩
  have y6 := (hb6.block _ (blk_lt y2)).trans y2
  have HL6 : Hid _ := HLA.out.below hb6
  have HT6 : Hid _ := Tabs.below (w := w5) HT5.out hb6
  have HB6 : Hid _ := two_below HB5.out hb6
  clear HW5 HL5 HLA HT5 HB5 hb6 hsm c0 c1 c2 d0 d1 d2 y2 x5 x2
  obtain ⟨c0, c1, c2⟩ : w6.cell? ⟨w1.heap.size, 0, none⟩ = some (.int .u64 (N : Int)) ∧ w6.cell? ⟨w1.heap.size, 1, none⟩ = some (.int .u64 (lg : Int)) ∧ w6.cell? ⟨w1.heap.size, 2, none⟩ = some (.slice q5 lv.length cap5) := ⟨(vcb y6).1 0, (vcb y6).1 1, (vcb y6).1 2⟩
  go_wp2_with fail
  refine (hck w6 _ vs HL6.out).mono ?_
  rintro e w7 ⟨rfl, hb7⟩
  have HT7 : Hid _ := Tabs.below (w := w6) HT6.out hb7
  have HB7 : Hid _ := two_below HB6.out hb7
  clear HL6 HT6 HB6 hb7 hck c0 c1 c2 y6
  have hz : ¬ ((fB.length : Int) = 0) := by omega
  have hfz : (fB.length : Int) = (ln : Int) + 8 := by omega
  go_wp2_with fail
  refine (hd1 w7 HT7.out).mono ?_
  rintro e w8 ⟨rfl, hb8⟩
  have HT8 : Hid _ := Tabs.below (w := w7) HT7.out hb8
  have HB8 : Hid _ := two_below HB7.out hb8
  clear HT7 HB7 hb8 hd1 hex
  go_wp2_with fail
  refine (hd2 w8 HT8.out).mono ?_
  rintro e w9 ⟨rfl, hb9⟩
  have HT9 : Hid _ := Tabs.below (w := w8) HT8.out hb9
  have HB9 : Hid _ := two_below HB8.out hb9
  clear HT8 HB8 hb9 hd2
  go_wp2_with fail
  refine (works13_any w9 HT9.out).mono ?_
  rintro e w10 ⟨rfl, hb10⟩
  have HB10 : Hid _ := two_below HB9.out hb10
  clear HT9 HB9 hb10
  go_wp2
  go_ret
  exact ⟨rfl, HB10.out⟩

end Go.Proofs.YtpcmjlkkhdkdjaaDoor

namespace Go.Proofs.YtpcmjlkkhdkdjaaDoor
set_option maxRecDepth 100000
open Go.ChangeShapes Go.WideShapes Go.ChangeAt Go.RowKit

theorem manifestBack_met (os : Os) : laidMet Tryd.prog Rows.manifestBackRow.laid ((World.laidAll Tryd.prog os laid2).forCall (fun _ _ => 0) ⟨#[], #[.slice none 0 0, .int .u32 0], []⟩).memory :=
  laidMet_laidAll (laid := laid2) _ (by kernel_rfl) (by kernel_rfl)
theorem manifestBack_reads (os : Os) {H : Type} (enc : TypeId × Value → H) : ∃ places, DataW.whole enc Tryd.prog ((World.laidAll Tryd.prog os laid2).forCall (fun _ _ => 0) ⟨#[], #[.slice none 0 0, .int .u32 0], []⟩).memory Tryd.f3.params.toList Rows.manifestBackSpec.vars false #[Value.slice none 0 0, .int .u32 0].toList 8 = some ([.nil, .lit (.int .u32 0)], [], places) :=
  ⟨[], by kernel_rfl⟩

theorem manifestBack_contract (H : Type) (enc : TypeId × Value → H) (W : World) (base : Nat) (args : Array Value) (ds gs : List (DataW H)) (before : List MemPlace)
    (hval : ∀ (j : Nat) t v, Tryd.f3.params[j]? = some t → args[j]? = some v → Value.okWide Tryd.prog W .any base t v)
    (hW : DataW.Whole enc Tryd.prog Tryd.f3.params.toList Rows.manifestBackSpec.vars false W args.toList ds gs before)
    (hwt : (DataW.weightsEach Tryd.prog (Tryd.f3.params.toList ++ (OpenSpec.ofChange Rows.manifestBackSpec).bare.plain.varTypes Tryd.prog) (ds ++ gs)).all (· ≤ reachBytes) = true)
    (hL : laidMetH Tryd.prog Rows.manifestBackRow.laid W) :
    Calls Tryd.prog 3 args W fun e W' => ∃ v, e = .returned v ∧ Rows.manifestBackSpec.post enc Tryd.prog Tryd.f3 false true false false W args v W' := by
  have hW' := hW
  obtain ⟨p, q, hA0, hV, rfl, hfz, hnd⟩ := hW
  have hA : DataW.TrodAll enc Tryd.prog W 0 (fun _ => true) true Tryd.f3.params.toList args.toList ds p := hA0
  rw [Tryd.params3] at hA hval
  obtain ⟨v0, vs0, d0, ds0, p0, q0, hargs0, rfl, rfl, h0, r0⟩ := trodAll_cons hA
  obtain ⟨v1, vs1, d1, ds1, p1, q1, hargs1, rfl, rfl, h1, r1⟩ := trodAll_cons r0
  obtain ⟨rfl, rfl, rfl⟩ := trodAll_nil r1
  obtain rfl : args = #[v0, v1] := by cases args; simp_all
  obtain ⟨rfl, rfl⟩ := trodVars_none hV
  have lt0 : ∀ x ∈ p0, x.block < W.heap.size := by obtain ⟨m, hm⟩ := h0; exact DataW.trod_lt m _ _ _ hm
  have lt1 : ∀ x ∈ p1, x.block < W.heap.size := by obtain ⟨m, hm⟩ := h1; exact DataW.trod_lt m _ _ _ hm
  obtain ⟨q0, b0, off0, cap0, l0, rfl, hq0, hx0⟩ := arg_byrow (hval 0 22 v0 rfl rfl) h0
  obtain ⟨a1, rfl, hd1, hp1, hs1⟩ := open_int Tryd.underlying23 (hval 1 23 v1 rfl rfl) h1
  have hu1 := bounds_u32 hs1
  obtain ⟨n1, rfl⟩ : ∃ n1 : Nat, a1 = (n1 : Int) := ⟨a1.toNat, by omega⟩
  clear hA0
  simp only [List.append_nil] at hW'
  have hwalk := MBack_any q0 b0 off0 cap0 l0 n1 W hq0 hx0 (by omega) (tabs_of_laid hL) 
  refine hwalk.mono fun e W' ⟨he, bel⟩ => ?_
  subst he
  exact ⟨_, rfl, _, _, _, [], _, [], hW', trodAll_mk1 (shut_bool Tryd.underlying4 _), (trodAll_cons_mk (Below.trod k_laidOut (by kernel_rfl) (of_decide_eq_true (by kernel_rfl)) h0 bel lt0) (trodAll_cons_mk (Below.trod k_laidOut (by kernel_rfl) (of_decide_eq_true (by kernel_rfl)) h1 bel lt1) trodAll_mk0)), rfl, bel.frame _, fun h => by cases h⟩

theorem manifestBack_lifted (os : Os) (started : os.Started) (H : Type) (enc : TypeId × Value → H) (F : Stop.Interp) :
    ReturnsInHanded {} Tryd.checked os 3 .any ((OpenSpec.ofChange Rows.manifestBackSpec).preRow enc Tryd.prog Tryd.f3 Rows.manifestBackRow.domain false Rows.manifestBackRow.laid) (((OpenSpec.ofChange Rows.manifestBackSpec).at F).post enc Tryd.prog Tryd.f3 false true false false) := by
  obtain ⟨places, hx⟩ := manifestBack_reads os enc
  refine returnsInHanded_of_row (C := Tryd.checked) (s := OpenSpec.ofChange Rows.manifestBackSpec) own started (by kernel_rfl) Tryd.func3
    (witness_row_at (enc := enc) (C := Tryd.checked) false (World.laidAll Tryd.prog os laid2) #[.slice none 0 0, .int .u32 0] (World.laidAll_os _ _ _) (by kernel_rfl) (by kernel_rfl) (by kernel_rfl)
      (OpenSpec.preRow_of_cond 8 hx (by kernel_rfl) (fun k hk => by cases hk) (by kernel_rfl) (manifestBack_met os))) ?_
  intro W base args ds gs before hval hW _ _ hwt hL _ _
  exact manifestBack_contract H enc W base args ds gs before hval hW hwt hL

theorem manifestBack_said : Rows.ManifestBackSaid :=
  OpenClaim.holds_of_cond 3 Tryd.f3 rfl rfl rfl rfl rfl rfl rfl ⟨rfl, rfl, rfl, rfl, rfl⟩ rfl rfl rfl rfl rfl (by kernel_rfl) Tryd.func3 (by kernel_rfl)
    (of_decide_eq_true (by kernel_rfl)) (by unfold Func.isWrapper; first | (rw [if_pos (by decide +kernel)]; kernel_rfl) | (rw [if_neg (by decide +kernel)]; exact ⟨rfl, rfl⟩))
    (fun os started H enc _ F => by rw [OpenClaim.pre_eq_preRow]; exact manifestBack_lifted os started H enc F)

theorem manifestBack_plain (f : FuncId) (fn : Func) (hf : Tryd.pinned.checked.prog.funcNamed "acreage/acreagelaw13.ManifestBack" = some f) (hfn : Tryd.pinned.checked.prog.funcs[f]? = some fn) :
    false = Tryd.pinned.checked.prog.looks [] ∧ ∀ (j : Nat) t, fn.params[j]? = some t → Tryd.pinned.checked.prog.wantsStandIn t = false := by
  obtain rfl : f = 3 := Option.some.inj ((show Tryd.prog.funcNamed "acreage/acreagelaw13.ManifestBack" = some 3 by kernel_rfl).symm.trans hf) |>.symm
  obtain rfl : fn = Tryd.f3 := (Option.some.inj (Tryd.func3.symm.trans hfn)).symm
  refine ⟨by kernel_rfl, fun j t ht => ?_⟩
  rw [Tryd.params3] at ht
  have hm : t ∈ [22, 23] := by simpa using Array.mem_of_getElem? ht
  have hall : ([22, 23].all fun u => !Tryd.prog.wantsStandIn u) = true := by kernel_rfl
  exact (show Tryd.prog.wantsStandIn t = false by simpa using List.all_eq_true.1 hall t hm)

/-- THE STATEMENT. -/
theorem manifestBack_card : Rows.ManifestBackCardSaid :=
  Claim7.holds_tied_plain_at .later [] _ _ _ _ manifestBack_said (fun _ h => by cases h) (by kernel_rfl) (fun _ h => by cases h) manifestBack_row_tie rfl ⟨rfl, rfl⟩ (by kernel_rfl) rfl manifestBack_plain (by kernel_rfl)
#print axioms manifestBack_card

end Go.Proofs.YtpcmjlkkhdkdjaaDoor
