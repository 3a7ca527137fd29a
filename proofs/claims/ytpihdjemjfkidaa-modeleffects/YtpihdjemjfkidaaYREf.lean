/-
  The document's answer for a model: Effect.
-/
import Derived.Test.YtpihdjemjfkidaaYNew
namespace Go.Proofs.Ytpihdjemjfkidaa
open Go.RowKit Go.BigFrame Go.Sort
attribute [local go_sem] size_bstr toList_bstr ls_def

theorem fold_unseen (cs : List Cl) : ∀ l : Lk, (l.seen = false → l.new = zC) → ((cs.foldl seeL l).seen = false → (cs.foldl seeL l).new = zC) := by
  induction cs with
  | nil => exact fun l h => h
  | cons c cs ih =>
    intro l h
    refine ih (seeL l c) ?_
    unfold seeL
    split
    · exact fun h => by cases h
    · exact h
theorem newR_ver (r c : List UInt8) (cs : List Cl) : (newR (lookL r c cs)).ver = (lookL r c cs).new.ver := by
  unfold newR
  cases hs : (lookL r c cs).seen with
  | true => rfl
  | false =>
    have e : (lookL r c cs).new = zC := fold_unseen cs ⟨r, c, zC, false⟩ (fun _ => rfl) hs
    rw [e]
    rfl
theorem newR_gone (l : Lk) : (newR l).gone = !thereL l := by
  unfold newR thereL
  cases l.seen with
  | true => simp
  | false => rfl
theorem newR_there {l : Lk} (h : thereL l = true) : newR l = l.new := by
  unfold thereL at h
  unfold newR
  cases hs : l.seen with
  | true => rfl
  | false => rw [hs] at h; cases h
theorem hq_st {w w' : World} {q : Option Addr} {b off : Nat} {cs : List Cl} (h : 0 < cs.length → q = some ⟨b, off, none⟩ ∧ CRow w b off cs ∧ b < w.heap.size) (hb : Below w.heap.size w w') : 0 < cs.length → q = some ⟨b, off, none⟩ ∧ CRow w' b off cs ∧ b < w'.heap.size :=
  fun h0 => ⟨(h h0).1, (h h0).2.1.step hb (h h0).2.2, Nat.lt_of_lt_of_le (h h0).2.2 hb.size⟩
theorem fld2 (r c : List UInt8) (v : Int) (g : Bool) (x : List UInt8) (W : World) : (Instr.field 39 (clV ⟨r, c, v, g, x⟩) 2).run Try.prog W = .ok (.int .u64 v) W := by
  kernel_rfl
theorem RzB.other {w : World} {b n : Nat} {z : Rz} {p q r s t : Value} (h : RzB w b z) (hn : b ≠ n) : RzB (((((w.setCell ⟨n, 0, none⟩ p).setCell ⟨n, 1, none⟩ q).setCell ⟨n, 2, none⟩ r).setCell ⟨n, 3, none⟩ s).setCell ⟨n, 4, none⟩ t) b z :=
  ((heap_set_other _ hn).trans ((heap_set_other _ hn).trans ((heap_set_other _ hn).trans ((heap_set_other _ hn).trans (heap_set_other _ hn))))).trans h
theorem OqB.other5 {w : World} {b n : Nat} {o : Oq} {p q r s t : Value} (h : OqB w b o) (hn : b ≠ n) : OqB (((((w.setCell ⟨n, 0, none⟩ p).setCell ⟨n, 1, none⟩ q).setCell ⟨n, 2, none⟩ r).setCell ⟨n, 3, none⟩ s).setCell ⟨n, 4, none⟩ t) b o :=
  ((heap_set_other _ hn).trans ((heap_set_other _ hn).trans ((heap_set_other _ hn).trans ((heap_set_other _ hn).trans (heap_set_other _ hn))))).trans h
theorem mayO_kind {o : Oq} (h : mayO o = true) : 1 ≤ o.kind ∧ o.kind ≤ 5 := by
  unfold mayO at h
  rw [decide_eq_true_eq] at h
  exact ⟨h.1, h.2.1⟩
theorem may3 {r c v x : List UInt8} {h : Bool} (hm : mayO ⟨3, r, c, v, h, x⟩ = true) : v = [] := by
  unfold mayO at hm
  rw [decide_eq_true_eq] at hm
  have e := hm.2.2.1
  unfold mayQ at e
  simp at e
  exact e.1
/-- One more than a count, as the document reckons it. -/
def nxtV (c : Int) : Int := if c + 1 = 18446744073709551616 then 0 else c + 1
theorem nxt_wrap {c : Int} (h0 : 0 ≤ c) (h1 : c < 18446744073709551616) : IntKind.u64.wrap (c + 1) = nxtV c := by
  unfold nxtV
  rw [IntKind.wrap_u64]
  split <;> omega
theorem nxt_long {c : Int} (h0 : 0 ≤ c) (h1 : c < 18446744073709551616) : (1099511627776 < nxtV c ∨ nxtV c = 0) ↔ 1099511627776 ≤ c := by
  unfold nxtV
  split <;> omega
theorem nxt_short {c : Int} (h : ¬ 1099511627776 ≤ c) : nxtV c = c + 1 := by
  unfold nxtV
  rw [if_neg]
  omega

set_option maxHeartbeats 8000000 in
set_option maxRecDepth 100000 in
theorem REffect_any (o : Oq) (q : Option Addr) (b off cap : Nat) (cs : List Cl) (w : World) (hq : 0 < cs.length → q = some ⟨b, off, none⟩ ∧ CRow w b off cs ∧ b < w.heap.size) (hv : ∀ c ∈ cs, 0 ≤ c.ver ∧ c.ver < 18446744073709551616) (hn : cs.length ≤ 1000000000) :
    Calls Try.prog 6 #[oqV o, .slice q cs.length cap] w fun e w' => ∃ v, e = .returned (.tuple #[rzV (effR o cs), v]) ∧ w'.ownsRow w.heap.size 39 5 v (effC o cs).length (ccells (effC o cs)) ∧ Below w.heap.size w w' := by
  obtain ⟨er, her⟩ : ∃ er, er = effR o cs := ⟨_, rfl⟩
  obtain ⟨ec, hec⟩ : ∃ ec, ec = effC o cs := ⟨_, rfl⟩
  rw [← her, ← hec]
  have HER : Hid _ := her
  have HEC : Hid _ := hec
  clear her hec
  obtain ⟨w1, hw1⟩ : ∃ w1, w1 = (w.alloc (.cells (oqC o) 23)).alloc (.cells #[.int .i64 0, .bool false, .string ⟨#[]⟩, .string ⟨#[]⟩, .int .u64 0] 29) := ⟨_, rfl⟩
  have hb1 : Below w.heap.size w w1 := by rw [hw1]; exact ((Below.refl _ _).alloc (Nat.le_refl _) _).alloc (by simp) _
  have x1 : OqB w1 w.heap.size o := by rw [hw1]; exact (Below.heap_alloc _ _ _ (by simp)).trans (heap_alloc_new w _)
  have y1 : RzB w1 (w.heap.size + 1) rz0 := by
    have h := RzB.new (w.alloc (.cells (oqC o) 23))
    rw [World.size_alloc] at h
    rw [hw1]
    exact h
  have HW1 : Hid _ := hw1
  clear hw1
  have hck := YMay_any o w1
  go_enter Try.func6, Try.ntmps6
  go_upto_region 1 with fail
  rw [show #[.int .i64 o.kind, .string (bstr o.row), .string (bstr o.col), .string (bstr o.val), .bool o.has, .string (bstr o.exp)] = oqC o from rfl, ← HW1.out]
  obtain ⟨c0, c1, c2, c3, c4, c5⟩ := x1.facts
  go_wp2_with fail
  refine hck.mono ?_
  rintro e w2 ⟨rfl, hb2⟩
  have x2 := op_row _ _ x1 hb2 (blk_lt x1)
  have y2 : RzB w2 (w.heap.size + 1) rz0 := y1.below hb2 (blk_lt y1)
  have hb12 := below2 hb1 hb2
  clear c0 c1 c2 c3 c4 c5 x1 y1 hb1 hb2 hck HW1
  obtain ⟨q0, q1, q2, q3, q4⟩ := y2.facts
  have fz := (mcells y2).2
  obtain ⟨c0, c1, c2, c3, c4, c5⟩ := x2.facts
  by_cases hbad : o.kind = 5 ∨ mayO o = false
  · obtain rfl : er = ⟨2, false, [], [], 0⟩ := by rw [HER.out]; unfold effR; rw [if_pos hbad]
    obtain rfl : ec = [] := by rw [HEC.out]; unfold effC; rw [if_pos hbad]
    have HR : Hid _ := y2.set ⟨2, false, [], [], 0⟩
    have HB : Hid _ := below_set5 (n := w.heap.size + 1) (.int .i64 2) (.bool false) (.string ⟨#[]⟩) (.string ⟨#[]⟩) (.int .u64 0) hb12 (Nat.le_succ _)
    cases hm : mayO o with
    | false =>
      go_wp2
      exact ret_rz2 Try.results6 rfl rfl HR.out rfl ⟨_, rfl, ⟨rfl, .inl ⟨rfl, rfl⟩⟩, HB.out⟩
    | true =>
      have hk5 : (o.kind == 5) = true := by simpa [hm] using hbad
      go_wp2
      exact ret_rz2 Try.results6 rfl rfl HR.out rfl ⟨_, rfl, ⟨rfl, .inl ⟨rfl, rfl⟩⟩, HB.out⟩
  · have hk5 : ¬ o.kind = 5 := fun h => hbad (.inl h)
    have hmo : mayO o = true := by cases h : mayO o; exact absurd (.inr h) hbad; rfl
    rw [hmo]
    have HMO : Hid _ := hmo
    clear hbad hmo
    have hq2 := hq_st hq hb12
    go_wp2_with fail
    refine (RNewest_any q b off cap cs o.row o.col w2 hq2 hn).mono ?_
    rintro e w3 ⟨rfl, hb3⟩
    obtain ⟨w4, hw4⟩ : ∃ w4, w4 = w3.alloc (.cells #[.string (bstr (newR (lookL o.row o.col cs)).row), .string (bstr (newR (lookL o.row o.col cs)).col), .int .u64 (newR (lookL o.row o.col cs)).ver, .bool (newR (lookL o.row o.col cs)).gone, .string (bstr (newR (lookL o.row o.col cs)).val)] 39) := ⟨_, rfl⟩
    have hb4 : Below w3.heap.size w3 w4 := by rw [hw4]; exact (Below.refl _ _).alloc (Nat.le_refl _) _
    have z4 : CelB w4 w3.heap.size (newR (lookL o.row o.col cs)) := by rw [hw4]; exact heap_alloc_new w3 _
    have hb34 := below2 hb3 hb4
    have x4 := op_row _ _ x2 hb34 (blk_lt x2)
    have y4 := y2.below hb34 (blk_lt y2)
    have hbl4 := below2 hb12 hb34
    have HW4 : Hid _ := hw4
    clear hw4 c0 c1 c2 c3 c4 c5 q0 q1 q2 q3 q4 fz x2 y2 hb3 hb4 hb34 hb12 hq2
    go_upto_region 4 with fail
    rw [← HW4.out]
    clear HW4
    have hq4 := hq_st hq hbl4
    have hNw := RNewest_any q b off cap cs o.row [] w4 hq4 hn
    have hcb := look_all (fun c => 0 ≤ c.ver ∧ c.ver < 18446744073709551616) o.row [] cs hv (by decide)
    have hnv := newR_ver o.row [] cs
    have hgn := newR_gone (lookL o.row o.col cs)
    have heR : er = _ := HER.out
    have heC : ec = _ := HEC.out
    unfold effR at heR
    unfold effC at heC
    have hno : ¬ (o.kind = 5 ∨ mayO o = false) := by rw [HMO.out]; simpa using hk5
    rw [if_neg hno] at heR heC
    have hlr := look_row o.row o.col cs
    have HNT : Hid (thereL (lookL o.row o.col cs) = true → newR (lookL o.row o.col cs) = (lookL o.row o.col cs).new) := newR_there
    obtain ⟨la, hla⟩ : ∃ la, la = lookL o.row o.col cs := ⟨_, rfl⟩
    obtain ⟨lc, hlc⟩ : ∃ lc, lc = lookL o.row [] cs := ⟨_, rfl⟩
    rw [← hla, ← hlc] at heR heC
    rw [← hla] at hgn hlr z4 HNT
    rw [← hlc] at hcb hnv hNw
    rw [← hla]
    obtain ⟨nw, hnw⟩ : ∃ nw, nw = newR la := ⟨_, rfl⟩
    rw [← hnw] at z4 hgn HNT
    rw [← hnw]
    obtain ⟨nc, hnc⟩ : ∃ nc, nc = newR lc := ⟨_, rfl⟩
    rw [← hnc] at hnv hNw
    obtain ⟨cnt, hcnt⟩ : ∃ cnt, cnt = lc.new.ver := ⟨_, rfl⟩
    rw [← hcnt] at hnv hcb heR heC
    have HCB : Hid _ := hcb
    have hwr := nxt_wrap hcb.1 hcb.2
    obtain ⟨tb, htb⟩ : ∃ tb, tb = thereL la := ⟨_, rfl⟩
    rw [← htb] at hgn HNT heR heC
    have HTB : Hid _ := htb
    have HLR : Hid _ := hlr
    have HAS : Hid _ := hla
    clear hla hlc hnw hnc hcnt htb hlr hno HER HEC hq4 hcb hq hv
    obtain ⟨p0, p1, p2, p3, p4⟩ := z4.facts
    obtain ⟨c0, c1, c2, c3, c4, c5⟩ := x4.facts
    rw [hgn] at p3
    go_wp2_with fail
    refine hNw.mono ?_
    rintro e w5 ⟨rfl, hb5⟩
    obtain ⟨ncr, ncc, ncv, ncg, ncx⟩ := nc
    simp only at hnv
    subst hnv
    clear hNw
    have z5 : CelB w5 w3.heap.size nw := (hb5.block _ (blk_lt z4)).trans z4
    have x5 := op_row _ _ x4 hb5 (blk_lt x4)
    have y5 := y4.below hb5 (blk_lt y4)
    have hbl5 := below2 hbl4 hb5
    clear p0 p1 p2 p3 p4 c0 c1 c2 c3 c4 c5 z4 x4 y4 hbl4 hb5
    obtain ⟨c0, c1, c2, c3, c4, c5⟩ := x5.facts
    have hfd : ∀ W : World, (Instr.field 39 (clV ⟨ncr, ncc, ncv, ncg, ncx⟩) 2).run Try.prog W = .ok (.int .u64 ncv) W := fun W => fld2 ncr ncc ncv ncg ncx W
    have g6 : ∀ bb oo, bb < w5.heap.size → (w5.alloc (.cells #[.int .i64 0, .bool false, .string ⟨#[]⟩, .string ⟨#[]⟩, .int .u64 0] 29)).cell? ⟨bb, oo, none⟩ = w5.cell? ⟨bb, oo, none⟩ := fun bb oo hb => World.cell?_of_block (Below.heap_alloc _ _ _ hb)
    have k1 := (g6 _ 1 (blk_lt x5)).trans c1
    have k2 := (g6 _ 2 (blk_lt x5)).trans c2
    go_upto_region 8 with fail
    obtain ⟨P, HP⟩ : ∃ P, Hid (P = w5.heap.size) := ⟨_, rfl⟩
    obtain ⟨nn, hnn⟩ : ∃ nn, nn = nxtV ncv := ⟨_, rfl⟩
    obtain ⟨w7, hw7⟩ : ∃ w7, w7 = (w5.alloc (.cells #[.int .i64 0, .bool false, .string ⟨#[]⟩, .string ⟨#[]⟩, .int .u64 0] 29)).alloc (.cells #[.string (bstr o.row), .string (bstr o.col), .int .u64 nn, .bool false, .string ⟨#[]⟩] 39) := ⟨_, rfl⟩
    have hb7 : Below w5.heap.size w5 w7 := by rw [hw7]; exact ((Below.refl _ _).alloc (Nat.le_refl _) _).alloc (by simp) _
    have u7 : RzB w7 P rz0 := by rw [hw7, HP.out]; exact (Below.heap_alloc _ _ _ (by simp)).trans (RzB.new w5)
    have v7 : CelB w7 (P + 1) ⟨o.row, o.col, nn, false, []⟩ := by
      have h := heap_alloc_new (w5.alloc (.cells #[.int .i64 0, .bool false, .string ⟨#[]⟩, .string ⟨#[]⟩, .int .u64 0] 29)) (.cells #[.string (bstr o.row), .string (bstr o.col), .int .u64 nn, .bool false, .string ⟨#[]⟩] 39)
      rw [World.size_alloc] at h
      rw [hw7, HP.out]
      exact h
    have z7 : CelB w7 w3.heap.size nw := (hb7.block _ (blk_lt z5)).trans z5
    have x7 := op_row _ _ x5 hb7 (blk_lt x5)
    have y7 := y5.below hb7 (blk_lt y5)
    have hbl7 := below2 hbl5 hb7
    have hPl : w.heap.size + 1 < P ∧ w3.heap.size < P := by rw [HP.out]; exact ⟨blk_lt y5, blk_lt z5⟩
    have HNN : Hid _ := hnn
    rw [← hnn, ← hw7, ← HP.out]
    clear hw7 hnn HP hb7 z5 x5 y5 hbl5 c0 c1 c2 c3 c4 c5 k1 k2 g6 hfd hwr
    obtain ⟨c0, c1, c2, c3, c4, c5⟩ := x7.facts
    obtain ⟨p0, p1, p2, p3, p4⟩ := z7.facts
    rw [hgn] at p3
    have fo := (mcells u7).2
    have fc := (mcells v7).2
    have fr := (mcells y7).2
    obtain ⟨q0, q1, q2, q3, q4⟩ := y7.facts
    obtain ⟨s0, s1, s2, s3, s4⟩ := u7.facts
    obtain ⟨t0, t1, t2, t3, t4⟩ := v7.facts
    obtain ⟨ok, orow, ocol, oval, ohas, oexp⟩ := o
    simp only at hk5 heR heC HLR c0 c1 c2 c3 c4 c5 t0 t1 t2 t3 t4
    by_cases hk2 : ok = 2
    · subst hk2
      rw [if_pos rfl] at heR heC
      cases tb with
      | false =>
        have e1 : er = rz0 := by rw [heR]; unfold tellL; rw [← HTB.out]; rfl
        clear heR
        subst e1 heC
        have HR : Hid _ := y7.set rz0
        have HB : Hid _ := below_set5 (n := w.heap.size + 1) (.int .i64 0) (.bool false) (.string (bstr [])) (.string (bstr [])) (.int .u64 0) hbl7 (Nat.le_succ _)
        go_wp2
        exact ret_rz2 Try.results6 rfl rfl HR.out rfl ⟨_, rfl, ⟨rfl, .inl ⟨rfl, rfl⟩⟩, HB.out⟩
      | true =>
        have hnl := HNT.out rfl
        have e1 : er = ⟨0, true, [], nw.val, nw.ver⟩ := by rw [heR, hnl]; unfold tellL; rw [← HTB.out]; rfl
        clear heR hnl
        subst e1 heC
        have yO := y7.other (n := P) (p := .int .i64 0) (q := .bool true) (r := .string ⟨#[]⟩) (s := .string (bstr nw.val)) (t := .int .u64 nw.ver) (by omega)
        have HR : Hid _ := yO.set ⟨0, true, [], nw.val, nw.ver⟩
        have hbO := below_set5 (n := P) (.int .i64 0) (.bool true) (.string ⟨#[]⟩) (.string (bstr nw.val)) (.int .u64 nw.ver) hbl7 (by omega)
        have HB : Hid _ := below_set5 (n := w.heap.size + 1) (.int .i64 0) (.bool true) (.string (bstr [])) (.string (bstr nw.val)) (.int .u64 nw.ver) hbO (Nat.le_succ _)
        clear yO hbO
        go_wp2
        exact ret_rz2 (r := ⟨0, true, [], nw.val, nw.ver⟩) Try.results6 rfl rfl HR.out rfl ⟨_, rfl, ⟨rfl, .inl ⟨rfl, rfl⟩⟩, HB.out⟩
    rw [if_neg hk2] at heR heC
    have hlg : (1099511627776 < nn ∨ nn = 0) ↔ 1099511627776 ≤ ncv := by rw [HNN.out]; exact nxt_long HCB.out.1 HCB.out.2
    have hsh : ¬ 1099511627776 ≤ ncv → nn = ncv + 1 := fun h => by rw [HNN.out]; exact nxt_short h
    have HLG : Hid _ := hlg
    have HSH : Hid _ := hsh
    clear hlg hsh
    go_upto_block 0 with fail
    go_cut [8] from 43 (fun s8 wx => s8 = .int .u64 nn ∧ ∃ (fd cg : Bool) (cx : List UInt8), RzB wx P ⟨0, fd, [], [], nn⟩ ∧ CelB wx (P + 1) ⟨orow, ocol, nn, cg, cx⟩ ∧ OqB wx w.heap.size ⟨ok, orow, ocol, oval, ohas, oexp⟩ ∧ RzB wx (w.heap.size + 1) rz0 ∧ Below w.heap.size w wx ∧ er = chgR ⟨ok, orow, ocol, oval, ohas, oexp⟩ ncv ∧ ec = chgC la ⟨ok, orow, ocol, cx, ohas, oexp⟩ ncv ∧ (fd = !(ok == 1) ∧ cg = (ok == 3)))
    case first =>
      by_cases hk1 : ok = 1
      · subst hk1
        rw [if_neg (by simp), if_neg (by simp)] at heR heC
        have hv1 := heap_set_same v7 (o := 4) (.string (bstr oval))
        have yV : RzB (w7.setCell ⟨P + 1, 4, none⟩ (.string (bstr oval))) (w.heap.size + 1) rz0 := (heap_set_other _ (by omega)).trans y7
        have xV : OqB (w7.setCell ⟨P + 1, 4, none⟩ (.string (bstr oval))) w.heap.size ⟨1, orow, ocol, oval, ohas, oexp⟩ := (heap_set_other _ (by omega)).trans x7
        have uV : RzB (w7.setCell ⟨P + 1, 4, none⟩ (.string (bstr oval))) P rz0 := (heap_set_other _ (by omega)).trans u7
        have hbV := hbl7.setCell (p := ⟨P + 1, 4, none⟩) (by show w.heap.size ≤ P + 1; omega) (.string (bstr oval))
        have HY : Hid _ := yV.other (n := P) (p := .int .i64 0) (q := .bool false) (r := .string ⟨#[]⟩) (s := .string ⟨#[]⟩) (t := .int .u64 nn) (by omega)
        have HX : Hid _ := xV.other5 (n := P) (p := .int .i64 0) (q := .bool false) (r := .string ⟨#[]⟩) (s := .string ⟨#[]⟩) (t := .int .u64 nn) (by omega)
        have HV : Hid _ := CelB.other (c := ⟨orow, ocol, nn, false, oval⟩) hv1 (n := P) (p := .int .i64 0) (q := .bool false) (r := .string ⟨#[]⟩) (s := .string ⟨#[]⟩) (t := .int .u64 nn) (by omega)
        have HU : Hid _ := uV.set ⟨0, false, [], [], nn⟩
        have HB : Hid _ := below_set5 (n := P) (.int .i64 0) (.bool false) (.string ⟨#[]⟩) (.string ⟨#[]⟩) (.int .u64 nn) hbV (by omega)
        clear hv1 yV xV uV hbV
        go_wp2
        go_meet
        case rel => exact ⟨rfl, false, false, oval, HU.out, HV.out, HX.out, HY.out, HB.out, heR, heC, rfl, rfl⟩
      by_cases hk3 : ok = 3
      · subst hk3
        cases tb with
        | false =>
          rw [if_pos ⟨rfl, rfl⟩] at heR heC
          subst heR heC
          have HR : Hid _ := y7.set rz0
          have HB : Hid _ := below_set5 (n := w.heap.size + 1) (.int .i64 0) (.bool false) (.string (bstr [])) (.string (bstr [])) (.int .u64 0) hbl7 (Nat.le_succ _)
          go_wp2
          exact ret_rz2 (r := rz0) Try.results6 rfl rfl HR.out rfl ⟨_, rfl, ⟨rfl, .inl ⟨rfl, rfl⟩⟩, HB.out⟩
        | true =>
          rw [if_neg (by simp), if_neg (by simp)] at heR heC
          have hov : oval = [] := may3 HMO.out
          subst hov
          have hv1 := heap_set_same v7 (o := 3) (.bool true)
          have yV : RzB (w7.setCell ⟨P + 1, 3, none⟩ (.bool true)) (w.heap.size + 1) rz0 := (heap_set_other _ (by omega)).trans y7
          have xV : OqB (w7.setCell ⟨P + 1, 3, none⟩ (.bool true)) w.heap.size ⟨3, orow, ocol, [], ohas, oexp⟩ := (heap_set_other _ (by omega)).trans x7
          have uV : RzB (w7.setCell ⟨P + 1, 3, none⟩ (.bool true)) P rz0 := (heap_set_other _ (by omega)).trans u7
          have hbV := hbl7.setCell (p := ⟨P + 1, 3, none⟩) (by show w.heap.size ≤ P + 1; omega) (.bool true)
          have HY : Hid _ := yV.other (n := P) (p := .int .i64 0) (q := .bool true) (r := .string ⟨#[]⟩) (s := .string ⟨#[]⟩) (t := .int .u64 nn) (by omega)
          have HX : Hid _ := xV.other5 (n := P) (p := .int .i64 0) (q := .bool true) (r := .string ⟨#[]⟩) (s := .string ⟨#[]⟩) (t := .int .u64 nn) (by omega)
          have HV : Hid _ := CelB.other (c := ⟨orow, ocol, nn, true, []⟩) hv1 (n := P) (p := .int .i64 0) (q := .bool true) (r := .string ⟨#[]⟩) (s := .string ⟨#[]⟩) (t := .int .u64 nn) (by omega)
          have HU : Hid _ := uV.set ⟨0, true, [], [], nn⟩
          have HB : Hid _ := below_set5 (n := P) (.int .i64 0) (.bool true) (.string ⟨#[]⟩) (.string ⟨#[]⟩) (.int .u64 nn) hbV (by omega)
          clear hv1 yV xV uV hbV
          go_wp2
          go_meet
          case rel => exact ⟨rfl, true, true, [], HU.out, HV.out, HX.out, HY.out, HB.out, heR, heC, rfl, rfl⟩
      obtain rfl : ok = 4 := by have := mayO_kind HMO.out; simp only at this; omega
      cases tb with
      | false =>
        cases ohas with
        | false =>
          rw [if_neg (by simp), if_neg (by unfold asL; rw [← HTB.out]; simp)] at heR heC
          have hv1 := heap_set_same v7 (o := 4) (.string (bstr oval))
          have yV : RzB (w7.setCell ⟨P + 1, 4, none⟩ (.string (bstr oval))) (w.heap.size + 1) rz0 := (heap_set_other _ (by omega)).trans y7
          have xV : OqB (w7.setCell ⟨P + 1, 4, none⟩ (.string (bstr oval))) w.heap.size ⟨4, orow, ocol, oval, false, oexp⟩ := (heap_set_other _ (by omega)).trans x7
          have uV : RzB (w7.setCell ⟨P + 1, 4, none⟩ (.string (bstr oval))) P rz0 := (heap_set_other _ (by omega)).trans u7
          have hbV := hbl7.setCell (p := ⟨P + 1, 4, none⟩) (by show w.heap.size ≤ P + 1; omega) (.string (bstr oval))
          have HY : Hid _ := yV.other (n := P) (p := .int .i64 0) (q := .bool true) (r := .string ⟨#[]⟩) (s := .string ⟨#[]⟩) (t := .int .u64 nn) (by omega)
          have HX : Hid _ := xV.other5 (n := P) (p := .int .i64 0) (q := .bool true) (r := .string ⟨#[]⟩) (s := .string ⟨#[]⟩) (t := .int .u64 nn) (by omega)
          have HV : Hid _ := CelB.other (c := ⟨orow, ocol, nn, false, oval⟩) hv1 (n := P) (p := .int .i64 0) (q := .bool true) (r := .string ⟨#[]⟩) (s := .string ⟨#[]⟩) (t := .int .u64 nn) (by omega)
          have HU : Hid _ := uV.set ⟨0, true, [], [], nn⟩
          have HB : Hid _ := below_set5 (n := P) (.int .i64 0) (.bool true) (.string ⟨#[]⟩) (.string ⟨#[]⟩) (.int .u64 nn) hbV (by omega)
          clear hv1 yV xV uV hbV
          go_wp2
          go_meet
          case rel => exact ⟨rfl, true, false, oval, HU.out, HV.out, HX.out, HY.out, HB.out, heR, heC, rfl, rfl⟩
        | true =>
          rw [if_neg (by simp), if_pos ⟨rfl, by unfold asL; rw [← HTB.out]; rfl⟩] at heR heC
          have e1 : er = rz0 := by rw [heR]; unfold tellL; rw [← HTB.out]; rfl
          clear heR
          subst e1 heC
          have HR : Hid _ := y7.set rz0
          have HB : Hid _ := below_set5 (n := w.heap.size + 1) (.int .i64 0) (.bool false) (.string (bstr [])) (.string (bstr [])) (.int .u64 0) hbl7 (Nat.le_succ _)
          go_wp2
          exact ret_rz2 (r := rz0) Try.results6 rfl rfl HR.out rfl ⟨_, rfl, ⟨rfl, .inl ⟨rfl, rfl⟩⟩, HB.out⟩
      | true =>
        have hnl := HNT.out rfl
        cases ohas with
        | false =>
          rw [if_neg (by simp), if_pos ⟨rfl, by unfold asL; rw [← HTB.out]; rfl⟩] at heR heC
          have e1 : er = ⟨0, false, [], nw.val, nw.ver⟩ := by rw [heR, hnl]; unfold tellL; rw [← HTB.out]; rfl
          clear heR
          subst e1 heC
          have yO := y7.other (n := P) (p := .int .i64 0) (q := .bool false) (r := .string ⟨#[]⟩) (s := .string (bstr nw.val)) (t := .int .u64 nw.ver) (by omega)
          have HR : Hid _ := yO.set ⟨0, false, [], nw.val, nw.ver⟩
          have hbO := below_set5 (n := P) (.int .i64 0) (.bool false) (.string ⟨#[]⟩) (.string (bstr nw.val)) (.int .u64 nw.ver) hbl7 (by omega)
          have HB : Hid _ := below_set5 (n := w.heap.size + 1) (.int .i64 0) (.bool false) (.string (bstr [])) (.string (bstr nw.val)) (.int .u64 nw.ver) hbO (Nat.le_succ _)
          clear yO hbO hnl
          go_wp2
          exact ret_rz2 (r := ⟨0, false, [], nw.val, nw.ver⟩) Try.results6 rfl rfl HR.out rfl ⟨_, rfl, ⟨rfl, .inl ⟨rfl, rfl⟩⟩, HB.out⟩
        | true =>
          by_cases hve : nw.val = oexp
          · subst hve
            rw [if_neg (by simp), if_neg (by unfold asL; rw [← HTB.out, ← hnl]; simp)] at heR heC
            clear hnl
            have hv1 := heap_set_same v7 (o := 4) (.string (bstr oval))
            have yV : RzB (w7.setCell ⟨P + 1, 4, none⟩ (.string (bstr oval))) (w.heap.size + 1) rz0 := (heap_set_other _ (by omega)).trans y7
            have xV : OqB (w7.setCell ⟨P + 1, 4, none⟩ (.string (bstr oval))) w.heap.size ⟨4, orow, ocol, oval, true, nw.val⟩ := (heap_set_other _ (by omega)).trans x7
            have uV : RzB (w7.setCell ⟨P + 1, 4, none⟩ (.string (bstr oval))) P rz0 := (heap_set_other _ (by omega)).trans u7
            have hbV := hbl7.setCell (p := ⟨P + 1, 4, none⟩) (by show w.heap.size ≤ P + 1; omega) (.string (bstr oval))
            have HY : Hid _ := yV.other (n := P) (p := .int .i64 0) (q := .bool true) (r := .string ⟨#[]⟩) (s := .string ⟨#[]⟩) (t := .int .u64 nn) (by omega)
            have HX : Hid _ := xV.other5 (n := P) (p := .int .i64 0) (q := .bool true) (r := .string ⟨#[]⟩) (s := .string ⟨#[]⟩) (t := .int .u64 nn) (by omega)
            have HV : Hid _ := CelB.other (c := ⟨orow, ocol, nn, false, oval⟩) hv1 (n := P) (p := .int .i64 0) (q := .bool true) (r := .string ⟨#[]⟩) (s := .string ⟨#[]⟩) (t := .int .u64 nn) (by omega)
            have HU : Hid _ := uV.set ⟨0, true, [], [], nn⟩
            have HB : Hid _ := below_set5 (n := P) (.int .i64 0) (.bool true) (.string ⟨#[]⟩) (.string ⟨#[]⟩) (.int .u64 nn) hbV (by omega)
            clear hv1 yV xV uV hbV
            go_wp2
            go_meet
            case rel => exact ⟨rfl, true, false, oval, HU.out, HV.out, HX.out, HY.out, HB.out, heR, heC, rfl, rfl⟩
          · have hvb : (nw.val == oexp) = false := by simpa using hve
            rw [if_neg (by simp), if_pos ⟨rfl, by unfold asL; rw [← HTB.out, ← hnl]; simpa using hve⟩] at heR heC
            have e1 : er = ⟨0, false, [], nw.val, nw.ver⟩ := by rw [heR, hnl]; unfold tellL; rw [← HTB.out]; rfl
            clear heR
            subst e1 heC
            have yO := y7.other (n := P) (p := .int .i64 0) (q := .bool false) (r := .string ⟨#[]⟩) (s := .string (bstr nw.val)) (t := .int .u64 nw.ver) (by omega)
            have HR : Hid _ := yO.set ⟨0, false, [], nw.val, nw.ver⟩
            have hbO := below_set5 (n := P) (.int .i64 0) (.bool false) (.string ⟨#[]⟩) (.string (bstr nw.val)) (.int .u64 nw.ver) hbl7 (by omega)
            have HB : Hid _ := below_set5 (n := w.heap.size + 1) (.int .i64 0) (.bool false) (.string (bstr [])) (.string (bstr nw.val)) (.int .u64 nw.ver) hbO (Nat.le_succ _)
            clear yO hbO hnl
            go_wp2
            exact ret_rz2 (r := ⟨0, false, [], nw.val, nw.ver⟩) Try.results6 rfl rfl HR.out rfl ⟨_, rfl, ⟨rfl, .inl ⟨rfl, rfl⟩⟩, HB.out⟩
    case rest =>
      obtain ⟨rfl, fd, cg, cx, hU, hV, hX, hY, hB, hR1, hC1, hfd, hcg⟩ := hcut
      have hlr := HLR.out
      clear x7 y7 z7 u7 v7 hbl7 c0 c1 c2 c3 c4 c5 p0 p1 p2 p3 p4 q0 q1 q2 q3 q4 s0 s1 s2 s3 s4 t0 t1 t2 t3 t4 fo fc fr hgn heR heC hk5 hk2
      by_cases hL : 1099511627776 ≤ ncv
      · have e1 : er = ⟨3, false, [], [], 0⟩ := by rw [hR1]; unfold chgR; rw [if_pos hL]
        have e2 : ec = [] := by rw [hC1]; unfold chgC; rw [if_pos hL]
        clear hR1 hC1
        subst e1 e2
        obtain ⟨q0, q1, q2, q3, q4⟩ := hY.facts
        have fr := (mcells hY).2
        have HR : Hid _ := hY.set ⟨3, false, [], [], 0⟩
        have HB : Hid _ := below_set5 (n := w.heap.size + 1) (.int .i64 3) (.bool false) (.string ⟨#[]⟩) (.string ⟨#[]⟩) (.int .u64 0) hB (Nat.le_succ _)
        rcases HLG.out.2 hL with hc | hc
        · clear hU hV hX hY hB hfd hcg
          go_wp2
          exact ret_rz2 (r := ⟨3, false, [], [], 0⟩) Try.results6 rfl rfl HR.out rfl ⟨_, rfl, ⟨rfl, .inl ⟨rfl, rfl⟩⟩, HB.out⟩
        · subst hc
          clear hU hV hX hY hB hfd hcg
          go_wp2
          exact ret_rz2 (r := ⟨3, false, [], [], 0⟩) Try.results6 rfl rfl HR.out rfl ⟨_, rfl, ⟨rfl, .inl ⟨rfl, rfl⟩⟩, HB.out⟩
      · have hn1 : ¬ 1099511627776 < nn := fun h => hL (HLG.out.1 (.inl h))
        have hn0 : ¬ nn = 0 := fun h => hL (HLG.out.1 (.inr h))
        have hnn := HSH.out hL
        have e1 : er = ⟨0, fd, [], [], nn⟩ := by rw [hR1, hfd, hnn]; unfold chgR; rw [if_neg hL]
        have e2 : ec = [⟨orow, [], nn, false, []⟩, ⟨orow, ocol, nn, cg, cx⟩] := by rw [hC1, hcg, hnn]; unfold chgC; rw [if_neg hL, hlr.1, hlr.2]
        clear hR1 hC1 hnn hfd hcg hlr
        subst e1 e2
        obtain ⟨wS, hwS⟩ : ∃ wS, wS = wc.alloc (.cells #[.string (bstr orow), .string ⟨#[]⟩, .int .u64 nn, .bool false, .string ⟨#[]⟩, .string (bstr orow), .string (bstr ocol), .int .u64 nn, .bool cg, .string (bstr cx)] 39) := ⟨_, rfl⟩
        have hbS : Below wc.heap.size wc wS := by rw [hwS]; exact (Below.refl _ _).alloc (Nat.le_refl _) _
        have hOS : wS.ownsRow wc.heap.size 39 5 (.slice (some ⟨wc.heap.size, 0, none⟩) 2 2) 2 (ccells [⟨orow, [], nn, false, []⟩, ⟨orow, ocol, nn, cg, cx⟩]) := by rw [hwS]; exact own_two wc ⟨orow, [], nn, false, []⟩ ⟨orow, ocol, nn, cg, cx⟩
        have hYS := hY.below hbS (blk_lt hY)
        have hUS := hU.below hbS (blk_lt hU)
        have hBS := below2 hB hbS
        have hgN : ∀ g, (Value.slice (some ⟨wc.heap.size, 0, none⟩) 2 2).ownBlock = some g → g ≠ w.heap.size + 1 := by
          intro g hg
          have hgw : wc.heap.size = g := by simpa [Value.ownBlock] using hg
          have := blk_lt hY
          omega
        have HR : Hid _ := hYS.set ⟨0, fd, [], [], nn⟩
        have HB : Hid _ := below_set5 (n := w.heap.size + 1) (.int .i64 0) (.bool fd) (.string (bstr [])) (.string (bstr [])) (.int .u64 nn) hBS (Nat.le_succ _)
        have HO : Hid _ := own_set5 (p := .int .i64 0) (q := .bool fd) (r := .string (bstr [])) (s := .string (bstr [])) (t := .int .u64 nn) (own_mono hOS hB.size) (N := w.heap.size + 1) hgN
        obtain ⟨q0, q1, q2, q3, q4⟩ := hY.facts
        obtain ⟨Q0, Q1, Q2, Q3, Q4⟩ := hYS.facts
        have fr := (mcells hY).2
        have fS := (mcells hYS).2
        obtain ⟨s0, s1, s2, s3, s4⟩ := hU.facts
        obtain ⟨S0, S1, S2, S3, S4⟩ := hUS.facts
        obtain ⟨t0, t1, t2, t3, t4⟩ := hV.facts
        obtain ⟨_, c1, _, _, _, _⟩ := hX.facts
        simp only at c1 t0 t1 t2 t3 t4 s0 s1 s2 s3 s4 S0 S1 S2 S3 S4
        rw [hwS] at Q0 Q1 Q2 Q3 Q4 fS S0 S1 S2 S3 S4
        obtain ⟨W9, hW9⟩ : ∃ W9, W9 = ((((wc.setCell ⟨w.heap.size + 1, 0, none⟩ (.int .i64 0)).setCell ⟨w.heap.size + 1, 1, none⟩ (.bool fd)).setCell ⟨w.heap.size + 1, 2, none⟩ (.string (bstr []))).setCell ⟨w.heap.size + 1, 3, none⟩ (.string (bstr []))).setCell ⟨w.heap.size + 1, 4, none⟩ (.int .u64 nn) := ⟨_, rfl⟩
        have hz9 : W9.heap.size = wc.heap.size := by rw [hW9]; simp
        have hY9 : RzB W9 (w.heap.size + 1) ⟨0, fd, [], [], nn⟩ := by rw [hW9]; exact hY.set ⟨0, fd, [], [], nn⟩
        have hB9 : Below w.heap.size w W9 := by rw [hW9]; exact below_set5 _ _ _ _ _ hB (Nat.le_succ _)
        have hO9 := own_two W9 ⟨orow, [], nn, false, []⟩ ⟨orow, ocol, nn, cg, cx⟩
        rw [hz9] at hO9
        have HO9 : Hid _ := own_mono hO9 hB.size
        have HY9 : Hid (RzB (W9.alloc (.cells #[.string (bstr orow), .string ⟨#[]⟩, .int .u64 nn, .bool false, .string ⟨#[]⟩, .string (bstr orow), .string (bstr ocol), .int .u64 nn, .bool cg, .string (bstr cx)] 39)).drew (w.heap.size + 1) ⟨0, fd, [], [], nn⟩) := (Below.heap_alloc _ _ _ (blk_lt hY9)).trans hY9
        have HB9 : Hid (Below w.heap.size w (W9.alloc (.cells #[.string (bstr orow), .string ⟨#[]⟩, .int .u64 nn, .bool false, .string ⟨#[]⟩, .string (bstr orow), .string (bstr ocol), .int .u64 nn, .bool cg, .string (bstr cx)] 39)).drew) := (hB9.alloc hB9.size _).drew
        have HW9 : Hid _ := hW9
        clear hW9 hz9 hY9 hB9 hO9
        have HWS : Hid _ := hwS
        clear hwS hgN hOS hYS hUS hBS hU hV hX hY hB hbS
        go_wp2_with fail
        go_region
        all_goals first
          | (rw [← HW9.out]; go_wp2; exact ret_rz2 (r := ⟨0, fd, [], [], nn⟩) Try.results6 rfl rfl HY9.out rfl ⟨_, rfl, HO9.out, HB9.out⟩)
          | (rw [← HWS.out]; go_wp2; exact ret_rz2 (r := ⟨0, fd, [], [], nn⟩) Try.results6 rfl rfl HR.out rfl ⟨_, rfl, HO.out, HB.out.drew⟩)
          | trace_state

end Go.Proofs.Ytpihdjemjfkidaa
