/-
  SkipAlike, walked.
-/
import Derived.Test.YtmekcfbopjgbeaaSWks
import Derived.Test.YtmekcfbopjgbeaaCEnc
import Derived.Test.YtmekcfbopjgbeaaCNew
namespace Go.Proofs.Ytmekcfbopjgbeaa
open Go.RowKit Go.BigFrame Go.Sort
attribute [local go_sem] size_bstr toList_bstr ls_def

/-- The cells that Encode takes. -/
def encOk (c : Cl) : Bool := decide (encE [c] = 0)
def mayL (l : List Cl) : List Cl := l.filter fun c => encOk c
theorem encOk_may {c : Cl} (h : encOk c = true) : mayCl c = true := by
  unfold encOk encE at h
  simp only [decide_eq_true_eq] at h
  by_cases k : [c].all okC = true
  · show mayC c.row c.col c.ver c.gone c.val = true
    simpa [okC] using k
  · rw [if_neg k] at h
    omega
theorem mayL_yes {l : List Cl} {i : Nat} (h : i < l.length) (k : encOk l[i] = true) : mayL (l.take (i + 1)) = mayL (l.take i) ++ [l[i]] := by
  unfold mayL
  rw [List.take_succ_eq_append_getElem h, List.filter_append]
  simp [k]
theorem mayL_no {l : List Cl} {i : Nat} (h : i < l.length) (k : encOk l[i] = false) : mayL (l.take (i + 1)) = mayL (l.take i) := by
  unfold mayL
  rw [List.take_succ_eq_append_getElem h, List.filter_append]
  simp [k]
theorem mayL_len (l : List Cl) (i : Nat) : (mayL (l.take i)).length ≤ i := Nat.le_trans (List.length_filter_le _ _) (by simp; omega)
theorem mayL_may {l : List Cl} {c : Cl} (h : c ∈ mayL l) : mayCl c = true := encOk_may (List.mem_filter.1 h).2
theorem putV_may {l : List Cl} (h : ∀ c ∈ l, mayCl c = true) : putV l = putL l := by
  unfold putV
  rw [filter_all (fun c hc => h c hc)]
theorem sortL_mem {l : List Cl} {c : Cl} (h : c ∈ sortL l) : c ∈ l := (sortL_spec l).sub c h
theorem sortL_length (l : List Cl) : (sortL l).length ≤ l.length := by
  have := putL_length l.reverse
  rw [putL_sort, List.reverse_reverse, List.length_reverse] at this
  exact this
theorem own_slice {w : World} {B e : Nat} {v : Value} {cs : List Cl} (h : w.ownsRow B e 5 v cs.length (ccells cs)) : ∃ p cap g, v = .slice p cs.length cap ∧ (0 < cs.length → p = some ⟨g, 0, none⟩ ∧ CRow w g 0 cs ∧ g < w.heap.size) := by
  obtain ⟨p, cap, e, _, _, hp⟩ := own_cslice h
  by_cases h0 : 0 < cs.length
  · obtain ⟨g, e1, _, e3, e4, _⟩ := hp h0
    exact ⟨p, cap, g, e, fun _ => ⟨e1, e4, e3⟩⟩
  · exact ⟨p, cap, 0, e, fun h => absurd h h0⟩
theorem BRow.below {w w' : World} {b off : Nat} {l : List UInt8} {B : Nat} (h : BRow w b off l) (hb : Below B w w') (h0 : 0 < l.length) (hB : w.heap.size ≤ B) : BRow w' b off l := h.block (hb.block b (Nat.lt_of_lt_of_le (h.lt h0) hB))
theorem alike_x (l : List Cl) : putV (ord false (sortL (mayL l))) = sortL (mayL l) := by
  show putV (sortL (mayL l)) = _
  rw [putV_may (fun c hc => mayL_may (sortL_mem hc)), putL_self (sortL_spec _).asc]
theorem alike_y (l : List Cl) : putV (ord true (sortL (mayL l))) = sortL (mayL l) := by
  show putV (sortL (mayL l)).reverse = _
  rw [putV_may (fun c hc => mayL_may (sortL_mem (List.mem_reverse.1 hc))), putL_back (sortL_spec _).asc]

/-- One cell of a row, as Encode is given it. -/
theorem Encode_one (b off cap' : Nat) (cs : List Cl) (i : Nat) (hi : i < cs.length) (w : World) (hR : CRow w b off cs) :
    Calls Try.prog 20 #[.slice (some ⟨b, off + i * 5, none⟩) 1 cap'] w fun e w' => ∃ s, e = .returned (.tuple #[.string (bstr s), .int .i64 (encE [cs[i]])]) ∧ Below w.heap.size w w' := by
  have h1 : CRow w b (off + i * 5) [cs[i]] := fun j hj => by
    have : j = 0 := by simpa using hj
    subst this
    simpa using hR i hi
  refine (Encode_any (some ⟨b, off + i * 5, none⟩) b (off + i * 5) cap' [cs[i]] w (fun _ => ⟨rfl, h1, (hR i hi).lt⟩) (by simp)).mono ?_
  rintro e w' ⟨rfl, hb⟩
  exact ⟨_, rfl, hb⟩

set_option maxHeartbeats 4000000 in
set_option maxRecDepth 100000 in
theorem Alike_any (q : Option Addr) (b off cap : Nat) (cs : List Cl) (qa : Option Addr) (ba offa capa : Nat) (ha : List UInt8) (qb : Option Addr) (bb offb capb : Nat) (hb : List UInt8) (w : World)
    (hq : 0 < cs.length → q = some ⟨b, off, none⟩ ∧ CRow w b off cs ∧ b < w.heap.size) (hcap : cs.length ≤ cap) (hcl : cs.length ≤ 4611686018427387904)
    (hqa : 0 < ha.length → qa = some ⟨ba, offa, none⟩ ∧ BRow w ba offa ha) (hqb : 0 < hb.length → qb = some ⟨bb, offb, none⟩ ∧ BRow w bb offb hb) (hla : ha.length ≤ 9223372036854775807) (hlb : hb.length ≤ 9223372036854775807) :
    Calls Try.prog 4 #[.slice q cs.length cap, .slice qa ha.length capa, .slice qb hb.length capb] w fun e w' => e = .returned (.bool true) ∧ Below w.heap.size w w' := by
  obtain ⟨i0, hi0, hz0, hz1, hz2⟩ := info_parts Try.infoCell
  go_enter Try.func4, Try.ntmps4
  go_wp2_with fail
  refine (works8_any w).mono ?_
  rintro e w0 ⟨rfl, hb0⟩
  go_wp2_with fail
  go_loopw [7, 8] (fun s7 s8 wr => ∃ i : Nat, s8 = .int .i64 (i : Int) ∧ i ≤ cs.length ∧ i ≤ 150 ∧ wr.ownsRow w0.heap.size 34 5 s7 (mayL (cs.take i)).length (ccells (mayL (cs.take i))) ∧ Below w0.heap.size w0 wr) (fun _ s8 _ => cs.length - (intOf s8).toNat)
  case atStart => exact ⟨0, rfl, Nat.zero_le _, Nat.zero_le _, ⟨rfl, .inl ⟨rfl, rfl⟩⟩, Below.refl _ _⟩
  case round =>
    obtain ⟨i, rfl, hil, hi150, hown, hbel⟩ := hrel
    by_cases hgo : i < cs.length ∧ i < 150
    · obtain ⟨hlt, h150⟩ := hgo
      obtain ⟨rfl, hR, hbw⟩ := hq (by omega)
      have hR2 := (hR.step hb0 hbw).step hbel (Nat.lt_of_lt_of_le hbw hb0.size)
      have hen := Encode_one b off (cap - i) cs i hlt wr hR2
      have hc1 : (i : Int) < (cs.length : Int) := by omega
      have hc2 : (i : Int) < 150 := by omega
      have hc3 : (i : Int) + 1 ≤ (cap : Int) := by omega
      have hc4 : ¬ cap = i := by omega
      clear hqa hqb
      go_wp2_with fail
      refine hen.mono ?_
      rintro e w1 ⟨s1, rfl, hb1⟩
      have hbe1 := below2 hbel hb1
      have hown1 := own_cbelow hown hb1
      have hAt := (hR2.step hb1 (hR2 i hlt).lt) i hlt
      have hlen := mayL_len cs i
      clear hen hR hR2 hown hb1
      cases hm : encOk cs[i] with
      | true =>
        have hez : encE [cs[i]] = 0 := by simpa [encOk] using hm
        have HM : Hid _ := mayL_yes hlt hm
        rw [hez]
        clear hm hez
        generalize cs[i] = c at *
        obtain ⟨r, k, v, g, x⟩ := c
        obtain ⟨c0, c1, c2, c3, c4⟩ := hAt
        simp only at c0 c1 c2 c3 c4
        go_wp2_with (at_builtin; refine wpList_append_own _ rfl _ _ 25 rfl w0.heap.size 34 i0 (.agg #[.string ⟨#[]⟩, .string ⟨#[]⟩, .int .u64 0, .bool false, .string ⟨#[]⟩]) 5 64 Try.underlying25 hi0 hz0 hz1 hz2 rfl (by decide) _ _ _ rfl (hown1.alloc _) ⟨w1.heap.size, 0, none⟩ 1 1 (encC ⟨r, k, v, g, x⟩) rfl rfl (cell_news w1 ⟨r, k, v, g, x⟩ 34) (encC_one _) ?c3 ?c4 ?c5 ?_)
        case c3 => unfold maxLen; omega
        case c4 => omega
        case c5 => have := hbe1.size; simp; omega
        intro v' w3 hown3 hgrow _
        have hbw3 : Below w0.heap.size w0 w3 := (hbe1.alloc hbe1.size _).grown hgrow (by have := hbe1.size; simp; omega) (fun k hk => (hown1.lt k hk).1)
        have hown4 : w3.ownsRow w0.heap.size 34 5 v' (mayL (cs.take (i + 1))).length (ccells (mayL (cs.take (i + 1)))) := by
          rw [HM.out, List.length_append, ccells_append]
          exact hown3
        clear hown1 hown3 hgrow c0 c1 c2 c3 c4
        go_wp2
        go_roundw
        case rel => exact ⟨i + 1, by go_num, by omega, by omega, hown4, hbw3⟩
        case measure => simp [intOf]; omega
      | false =>
        have hez : encE [cs[i]] ≠ 0 := by simpa [encOk] using hm
        have HM : Hid _ := mayL_no hlt hm
        have gez : (encE [cs[i]] == 0) = false := by simpa using hez
        clear hm hez hAt
        generalize encE [cs[i]] = ee at *
        go_wp2
        go_roundw
        case rel => exact ⟨i + 1, by go_num, by omega, by omega, by rw [HM.out]; exact hown1, hbe1⟩
        case measure => simp [intOf]; omega
    · have hstop : ¬ ((i : Int) < (cs.length : Int) ∧ (i : Int) < 150) := by omega
      obtain ⟨M, hM⟩ : ∃ M, M = mayL (cs.take i) := ⟨_, rfl⟩
      rw [← hM] at hown
      have hlen : M.length ≤ 150 := by rw [hM]; exact Nat.le_trans (mayL_len cs i) hi150
      have hmayM : ∀ c ∈ M, mayCl c = true := fun c hc => by rw [hM] at hc; exact mayL_may hc
      have HMM : Hid _ := hM
      clear hM
      clear hgo hi150 hq
      obtain ⟨p, capM, g, rfl, hg⟩ := own_slice hown
      have hso := Sort_any p g 0 capM M wr hg (fun c hc => may_fits (hmayM c hc)) (by omega)
      by_cases hw1 : (i : Int) < (cs.length : Int)
      · have hw2 : ¬ (i : Int) < 150 := fun h => hstop ⟨hw1, h⟩
        clear hstop
        go_wp2_with fail
        refine hso.mono ?_
        rintro e ws ⟨sv, rfl, hsown, hbs⟩
        obtain ⟨SS, hSS⟩ : ∃ SS, SS = sortL M := ⟨_, rfl⟩
        rw [← hSS] at hsown
        have hSl : SS.length ≤ 150 := by rw [hSS]; exact Nat.le_trans (sortL_length M) hlen
        have HSS : Hid _ := hSS
        have hbws : Below w.heap.size w ws := below2 hb0 (below2 hbel hbs)
        obtain ⟨ps, caps, gs, rfl, hgs⟩ := own_slice hsown
        have hqa' : 0 < ha.length → qa = some ⟨ba, offa, none⟩ ∧ BRow ws ba offa ha := fun h0 => ⟨(hqa h0).1, (hqa h0).2.below hbws h0 (Nat.le_refl _)⟩
        have hpx := put_any ps gs 0 caps SS qa ba offa capa ha false ws hgs hqa' (by omega) hla
        clear hso hsown hSS hg hown hbs
        go_wp2_with fail
        refine hpx.mono ?_
        rintro e wx ⟨rfl, Tx, vx, hPx⟩
        have hbwx : Below w.heap.size w wx := hbws.trans (hPx.be.mono hbws.size)
        have hgx : 0 < SS.length → ps = some ⟨gs, 0, none⟩ ∧ CRow wx gs 0 SS ∧ gs < wx.heap.size := fun h0 => ⟨(hgs h0).1, (hgs h0).2.1.step hPx.be (hgs h0).2.2, Nat.lt_of_lt_of_le (hgs h0).2.2 hPx.be.size⟩
        have hqb' : 0 < hb.length → qb = some ⟨bb, offb, none⟩ ∧ BRow wx bb offb hb := fun h0 => ⟨(hqb h0).1, (hqb h0).2.below hbwx h0 (Nat.le_refl _)⟩
        have hpy := put_any ps gs 0 caps SS qb bb offb capb hb true wx hgx hqb' (by omega) hlb
        have hTx : Tx.map (fun t => t.c) = SS := by
          rw [hPx.ce, List.take_of_length_le (by rw [ord_length]; exact Nat.le_refl _), HSS.out, HMM.out]
          exact alike_x _
        have hlx : Tx.length = SS.length := by rw [← hTx]; simp
        have HTX : Hid _ := hTx
        have HLX : Hid _ := hlx
        clear hpx hTx hlx
        go_wp2_with fail
        refine hpy.mono ?_
        rintro e wy ⟨rfl, Ty, vy, hPy⟩
        have hTy : Ty.map (fun t => t.c) = SS := by
          rw [hPy.ce, List.take_of_length_le (by rw [ord_length]; exact Nat.le_refl _), HSS.out, HMM.out]
          exact alike_y _
        have hly : Ty.length = SS.length := by rw [← hTy]; simp
        have HTY : Hid _ := hTy
        have HLY : Hid _ := hly
        have hLx := hPx.ls.below hPy.be
        have hgy : 0 < SS.length → ps = some ⟨gs, 0, none⟩ ∧ CRow wy gs 0 SS ∧ gs < ws.heap.size := fun h0 => ⟨(hgx h0).1, (hgx h0).2.1.step hPy.be (hgx h0).2.2, (hgs h0).2.2⟩
        have hxy : ∀ i, Ow (ws.heap.size + 1) ws.heap.size Tx vx i → i < wx.heap.size := fun i hi => hPx.ls.lt hi
        have hyy : ∀ i, Ow (wx.heap.size + 1) wx.heap.size Ty vy i → wx.heap.size ≤ i ∧ i < wy.heap.size := fun i hi => ⟨hPy.ow i hi, hPy.ls.lt hi⟩
        have hsx := hPx.be.size
        have hsy := hPy.be.size
        have hbwy : Below w.heap.size w wy := hbwx.trans (hPy.be.mono hbwx.size)
        have hlst := list_any _ _ Tx vx wy hLx (by rw [HLX.out]; omega)
        clear hpy hTy hly hgx
        go_wp2_with fail
        refine hlst.mono ?_
        rintro e w1 ⟨r1, vx1, rfl, hr1, hLx1, hKx1, hOx1, _⟩
        rw [HTX.out, HLX.out] at hr1
        obtain ⟨p1, cap1, g1, rfl, hg1⟩ := own_slice hr1
        have hgs1 : 0 < SS.length → ps = some ⟨gs, 0, none⟩ ∧ CRow w1 gs 0 SS := fun h0 => ⟨(hgy h0).1, (hgy h0).2.1.same fun o => by
          have := hKx1.block gs (Nat.lt_of_lt_of_le (hgy h0).2.2 (Nat.le_trans hsx hsy)) (fun hf => by have := hPx.ow gs hf; have := (hgy h0).2.2; omega)
          simp only [World.cell?, this]⟩
        have hLy1 : Ls w1 (wx.heap.size + 1) wx.heap.size Ty vy [] := hPy.ls.kept fun i hi => hKx1.block i (hyy i hi).2 (fun hf => by have := hxy i hf; have := (hyy i hi).1; omega)
        have hbw1 : Below w.heap.size w w1 := hbwy.trans (hKx1.below hbwy.size fun i hi => Nat.le_trans hbws.size (hPx.ow i hi))
        have hsm1 := same8_any p1 ps g1 0 cap1 gs 0 caps SS w1 (fun h0 => ⟨(hg1 h0).1, (hg1 h0).2.1⟩) hgs1 (by omega)
        clear hlst hr1 hg1
        go_wp2_with fail
        refine hsm1.mono ?_
        rintro e w2 ⟨rfl, hb2⟩
        have hLx2 := hLx1.below hb2
        have hLy2 := hLy1.below hb2
        have hbw2 := below2 hbw1 hb2
        have hs1 := hKx1.size
        have hs2 := hb2.size
        have hgs2 : 0 < SS.length → ps = some ⟨gs, 0, none⟩ ∧ CRow w2 gs 0 SS := fun h0 => ⟨(hgs1 h0).1, (hgs1 h0).2.step hb2 ((hgs1 h0).2 0 h0).lt⟩
        have hlst := list_any _ _ Ty vy w2 hLy2 (by rw [HLY.out]; omega)
        clear hsm1 hLx1 hLy1
        go_wp2_with fail
        refine hlst.mono ?_
        rintro e w3 ⟨r3, vy3, rfl, hr3, hLy3, hKy3, hOy3, _⟩
        rw [HTY.out, HLY.out] at hr3
        obtain ⟨p3, cap3, g3, rfl, hg3⟩ := own_slice hr3
        have hgs3 : 0 < SS.length → ps = some ⟨gs, 0, none⟩ ∧ CRow w3 gs 0 SS := fun h0 => ⟨(hgs2 h0).1, (hgs2 h0).2.same fun o => by
          have := hKy3.block gs ((hgs2 h0).2 0 h0).lt (fun hf => by have := (hyy gs hf).1; have := (hgy h0).2.2; omega)
          simp only [World.cell?, this]⟩
        have hLx3 : Ls w3 (ws.heap.size + 1) ws.heap.size Tx vx1 [] := hLx2.kept fun i hi => hKy3.block i (hLx2.lt hi) (fun hf => by
          have := hyy i hf
          rcases hOx1 i hi with a | a
          · have := hxy i a; omega
          · omega)
        have hbw3 : Below w.heap.size w w3 := hbw2.trans (hKy3.below hbw2.size fun i hi => Nat.le_trans hbwx.size (hyy i hi).1)
        have hsm3 := same8_any p3 ps g3 0 cap3 gs 0 caps SS w3 (fun h0 => ⟨(hg3 h0).1, (hg3 h0).2.1⟩) hgs3 (by omega)
        clear hlst hr3 hg3
        go_wp2_with fail
        refine hsm3.mono ?_
        rintro e w4 ⟨rfl, hb4⟩
        have hlnx := SLen_any _ _ Tx vx1 [] w4 (hLx3.below hb4)
        have hlny := SLen_any _ _ Ty vy3 [] w4 (hLy3.below hb4)
        rw [HLX.out] at hlnx
        rw [HLY.out] at hlny
        have hbw4 := below2 hbw3 hb4
        clear hsm3
        go_wp2_with fail
        refine hlnx.mono ?_
        rintro e w5 ⟨rfl, rfl⟩
        go_wp2_with fail
        refine hlny.mono ?_
        rintro e w6 ⟨rfl, rfl⟩
        go_wp2
        go_ret
        exact ⟨rfl, hbw4⟩
      · clear hstop
        go_wp2_with fail
        refine hso.mono ?_
        rintro e ws ⟨sv, rfl, hsown, hbs⟩
        obtain ⟨SS, hSS⟩ : ∃ SS, SS = sortL M := ⟨_, rfl⟩
        rw [← hSS] at hsown
        have hSl : SS.length ≤ 150 := by rw [hSS]; exact Nat.le_trans (sortL_length M) hlen
        have HSS : Hid _ := hSS
        have hbws : Below w.heap.size w ws := below2 hb0 (below2 hbel hbs)
        obtain ⟨ps, caps, gs, rfl, hgs⟩ := own_slice hsown
        have hqa' : 0 < ha.length → qa = some ⟨ba, offa, none⟩ ∧ BRow ws ba offa ha := fun h0 => ⟨(hqa h0).1, (hqa h0).2.below hbws h0 (Nat.le_refl _)⟩
        have hpx := put_any ps gs 0 caps SS qa ba offa capa ha false ws hgs hqa' (by omega) hla
        clear hso hsown hSS hg hown hbs
        go_wp2_with fail
        refine hpx.mono ?_
        rintro e wx ⟨rfl, Tx, vx, hPx⟩
        have hbwx : Below w.heap.size w wx := hbws.trans (hPx.be.mono hbws.size)
        have hgx : 0 < SS.length → ps = some ⟨gs, 0, none⟩ ∧ CRow wx gs 0 SS ∧ gs < wx.heap.size := fun h0 => ⟨(hgs h0).1, (hgs h0).2.1.step hPx.be (hgs h0).2.2, Nat.lt_of_lt_of_le (hgs h0).2.2 hPx.be.size⟩
        have hqb' : 0 < hb.length → qb = some ⟨bb, offb, none⟩ ∧ BRow wx bb offb hb := fun h0 => ⟨(hqb h0).1, (hqb h0).2.below hbwx h0 (Nat.le_refl _)⟩
        have hpy := put_any ps gs 0 caps SS qb bb offb capb hb true wx hgx hqb' (by omega) hlb
        have hTx : Tx.map (fun t => t.c) = SS := by
          rw [hPx.ce, List.take_of_length_le (by rw [ord_length]; exact Nat.le_refl _), HSS.out, HMM.out]
          exact alike_x _
        have hlx : Tx.length = SS.length := by rw [← hTx]; simp
        have HTX : Hid _ := hTx
        have HLX : Hid _ := hlx
        clear hpx hTx hlx
        go_wp2_with fail
        refine hpy.mono ?_
        rintro e wy ⟨rfl, Ty, vy, hPy⟩
        have hTy : Ty.map (fun t => t.c) = SS := by
          rw [hPy.ce, List.take_of_length_le (by rw [ord_length]; exact Nat.le_refl _), HSS.out, HMM.out]
          exact alike_y _
        have hly : Ty.length = SS.length := by rw [← hTy]; simp
        have HTY : Hid _ := hTy
        have HLY : Hid _ := hly
        have hLx := hPx.ls.below hPy.be
        have hgy : 0 < SS.length → ps = some ⟨gs, 0, none⟩ ∧ CRow wy gs 0 SS ∧ gs < ws.heap.size := fun h0 => ⟨(hgx h0).1, (hgx h0).2.1.step hPy.be (hgx h0).2.2, (hgs h0).2.2⟩
        have hxy : ∀ i, Ow (ws.heap.size + 1) ws.heap.size Tx vx i → i < wx.heap.size := fun i hi => hPx.ls.lt hi
        have hyy : ∀ i, Ow (wx.heap.size + 1) wx.heap.size Ty vy i → wx.heap.size ≤ i ∧ i < wy.heap.size := fun i hi => ⟨hPy.ow i hi, hPy.ls.lt hi⟩
        have hsx := hPx.be.size
        have hsy := hPy.be.size
        have hbwy : Below w.heap.size w wy := hbwx.trans (hPy.be.mono hbwx.size)
        have hlst := list_any _ _ Tx vx wy hLx (by rw [HLX.out]; omega)
        clear hpy hTy hly hgx
        go_wp2_with fail
        refine hlst.mono ?_
        rintro e w1 ⟨r1, vx1, rfl, hr1, hLx1, hKx1, hOx1, _⟩
        rw [HTX.out, HLX.out] at hr1
        obtain ⟨p1, cap1, g1, rfl, hg1⟩ := own_slice hr1
        have hgs1 : 0 < SS.length → ps = some ⟨gs, 0, none⟩ ∧ CRow w1 gs 0 SS := fun h0 => ⟨(hgy h0).1, (hgy h0).2.1.same fun o => by
          have := hKx1.block gs (Nat.lt_of_lt_of_le (hgy h0).2.2 (Nat.le_trans hsx hsy)) (fun hf => by have := hPx.ow gs hf; have := (hgy h0).2.2; omega)
          simp only [World.cell?, this]⟩
        have hLy1 : Ls w1 (wx.heap.size + 1) wx.heap.size Ty vy [] := hPy.ls.kept fun i hi => hKx1.block i (hyy i hi).2 (fun hf => by have := hxy i hf; have := (hyy i hi).1; omega)
        have hbw1 : Below w.heap.size w w1 := hbwy.trans (hKx1.below hbwy.size fun i hi => Nat.le_trans hbws.size (hPx.ow i hi))
        have hsm1 := same8_any p1 ps g1 0 cap1 gs 0 caps SS w1 (fun h0 => ⟨(hg1 h0).1, (hg1 h0).2.1⟩) hgs1 (by omega)
        clear hlst hr1 hg1
        go_wp2_with fail
        refine hsm1.mono ?_
        rintro e w2 ⟨rfl, hb2⟩
        have hLx2 := hLx1.below hb2
        have hLy2 := hLy1.below hb2
        have hbw2 := below2 hbw1 hb2
        have hs1 := hKx1.size
        have hs2 := hb2.size
        have hgs2 : 0 < SS.length → ps = some ⟨gs, 0, none⟩ ∧ CRow w2 gs 0 SS := fun h0 => ⟨(hgs1 h0).1, (hgs1 h0).2.step hb2 ((hgs1 h0).2 0 h0).lt⟩
        have hlst := list_any _ _ Ty vy w2 hLy2 (by rw [HLY.out]; omega)
        clear hsm1 hLx1 hLy1
        go_wp2_with fail
        refine hlst.mono ?_
        rintro e w3 ⟨r3, vy3, rfl, hr3, hLy3, hKy3, hOy3, _⟩
        rw [HTY.out, HLY.out] at hr3
        obtain ⟨p3, cap3, g3, rfl, hg3⟩ := own_slice hr3
        have hgs3 : 0 < SS.length → ps = some ⟨gs, 0, none⟩ ∧ CRow w3 gs 0 SS := fun h0 => ⟨(hgs2 h0).1, (hgs2 h0).2.same fun o => by
          have := hKy3.block gs ((hgs2 h0).2 0 h0).lt (fun hf => by have := (hyy gs hf).1; have := (hgy h0).2.2; omega)
          simp only [World.cell?, this]⟩
        have hLx3 : Ls w3 (ws.heap.size + 1) ws.heap.size Tx vx1 [] := hLx2.kept fun i hi => hKy3.block i (hLx2.lt hi) (fun hf => by
          have := hyy i hf
          rcases hOx1 i hi with a | a
          · have := hxy i a; omega
          · omega)
        have hbw3 : Below w.heap.size w w3 := hbw2.trans (hKy3.below hbw2.size fun i hi => Nat.le_trans hbwx.size (hyy i hi).1)
        have hsm3 := same8_any p3 ps g3 0 cap3 gs 0 caps SS w3 (fun h0 => ⟨(hg3 h0).1, (hg3 h0).2.1⟩) hgs3 (by omega)
        clear hlst hr3 hg3
        go_wp2_with fail
        refine hsm3.mono ?_
        rintro e w4 ⟨rfl, hb4⟩
        have hlnx := SLen_any _ _ Tx vx1 [] w4 (hLx3.below hb4)
        have hlny := SLen_any _ _ Ty vy3 [] w4 (hLy3.below hb4)
        rw [HLX.out] at hlnx
        rw [HLY.out] at hlny
        have hbw4 := below2 hbw3 hb4
        clear hsm3
        go_wp2_with fail
        refine hlnx.mono ?_
        rintro e w5 ⟨rfl, rfl⟩
        go_wp2_with fail
        refine hlny.mono ?_
        rintro e w6 ⟨rfl, rfl⟩
        go_wp2
        go_ret
        exact ⟨rfl, hbw4⟩

end Go.Proofs.Ytmekcfbopjgbeaa
