/-
  Effect of a model's operation.
-/
import Derived.Test.YtlkikfkchgmmhaaYChk
import Derived.Test.YtlkikfkchgmmhaaYFn3
import Derived.Deep.Cut
import Derived.Deep.CutBlock
namespace Go.Proofs.Ytlkikfkchgmmhaa
open Go.RowKit Go.BigFrame Go.Sort
attribute [local go_sem] size_bstr toList_bstr ls_def

def lookL (r c : List UInt8) (cs : List Cl) : Lk := cs.foldl seeL ⟨r, c, zC, false⟩
theorem seeL_place (l : Lk) (c : Cl) : (seeL l c).row = l.row ∧ (seeL l c).col = l.col := by unfold seeL; split <;> exact ⟨rfl, rfl⟩
theorem fold_place (cs : List Cl) : ∀ l : Lk, (cs.foldl seeL l).row = l.row ∧ (cs.foldl seeL l).col = l.col := by
  induction cs with
  | nil => exact fun l => ⟨rfl, rfl⟩
  | cons c cs ih => exact fun l => ⟨(ih (seeL l c)).1.trans (seeL_place l c).1, (ih (seeL l c)).2.trans (seeL_place l c).2⟩
theorem fold_all (P : Cl → Prop) (cs : List Cl) (h : ∀ c ∈ cs, P c) : ∀ l : Lk, P l.new → P (cs.foldl seeL l).new := by
  induction cs with
  | nil => exact fun l hl => hl
  | cons c cs ih =>
    intro l hl
    refine ih (fun x hx => h x (List.mem_cons_of_mem _ hx)) _ ?_
    unfold seeL
    split
    · exact h c List.mem_cons_self
    · exact hl
theorem look_row (r c : List UInt8) (cs : List Cl) : (lookL r c cs).row = r ∧ (lookL r c cs).col = c := fold_place cs _
theorem look_all (P : Cl → Prop) (r c : List UInt8) (cs : List Cl) (h : ∀ c ∈ cs, P c) (h0 : P zC) : P (lookL r c cs).new := fold_all P cs h _ h0
theorem look_take (r c : List UInt8) (cs : List Cl) {i : Nat} (hi : i < cs.length) : lookL r c (cs.take (i + 1)) = seeL (lookL r c (cs.take i)) cs[i] := by
  unfold lookL
  rw [List.take_succ_eq_append_getElem hi, List.foldl_append]
  rfl
/-- What an operation answers by the cells of its row, and what comes of it. -/
def effR (o : Oq) (cs : List Cl) : Rz :=
  if o.kind = 5 ∨ mayO o = false then ⟨2, false, [], [], 0⟩
  else if o.kind = 2 then tellL (lookL o.row o.col cs)
  else if o.kind = 3 ∧ thereL (lookL o.row o.col cs) = false then rz0
  else if o.kind = 4 ∧ asL (lookL o.row o.col cs) o = false then ⟨(tellL (lookL o.row o.col cs)).err, false, (tellL (lookL o.row o.col cs)).row, (tellL (lookL o.row o.col cs)).val, (tellL (lookL o.row o.col cs)).ver⟩
  else chgR o (lookL o.row [] cs).new.ver
def effC (o : Oq) (cs : List Cl) : List Cl :=
  if o.kind = 5 ∨ mayO o = false then []
  else if o.kind = 2 then []
  else if o.kind = 3 ∧ thereL (lookL o.row o.col cs) = false then []
  else if o.kind = 4 ∧ asL (lookL o.row o.col cs) o = false then []
  else chgC (lookL o.row o.col cs) o (lookL o.row [] cs).new.ver

/-- Where Effect stands: the operation, the result, the two looks. -/
structure EJ (w : World) (P : Nat) (o : Oq) (cs : List Cl) (i : Nat) (W : World) : Prop where
  op : OqB W w.heap.size o
  rz : RzB W (w.heap.size + 1) rz0
  cn : LkB W P (lookL o.row [] (cs.take i))
  at_ : LkB W (P + 1) (lookL o.row o.col (cs.take i))
  bl : Below w.heap.size w W

theorem mayO_len {o : Oq} (h : mayO o = true) : o.row.length ≤ 32 ∧ o.col.length ≤ 16 ∧ o.val.length ≤ 256 := by
  unfold mayO at h
  rw [decide_eq_true_eq] at h
  obtain ⟨_, _, _, h1, _, h2, h3, _⟩ := h
  refine ⟨?_, h2, h3⟩
  split at h1 <;> omega
theorem bel_kp {a b c : World} {S : Nat → Prop} (h : Below a.heap.size a b) (k : Kp b c S) (hS : ∀ i, S i → a.heap.size ≤ i) : Below a.heap.size a c :=
  ⟨k.os.trans h.os, k.tape.trans h.tape, k.output.trans h.output, Nat.le_trans h.size k.size, fun i hi => (k.block i (Nat.lt_of_lt_of_le hi h.size) (fun hs => by have := hS i hs; omega)).trans (h.block i hi)⟩

set_option maxHeartbeats 8000000 in
set_option maxRecDepth 100000 in
theorem YEffect_any (o : Oq) (q : Option Addr) (b off cap : Nat) (cs : List Cl) (w : World) (hq : 0 < cs.length → q = some ⟨b, off, none⟩ ∧ CRow w b off cs ∧ b < w.heap.size) (hf : ∀ c ∈ cs, Fits c) (hv : ∀ c ∈ cs, 0 ≤ c.ver) (hn : cs.length ≤ 1000000000) :
    Calls Try.prog 17 #[oqV o, .slice q cs.length cap] w fun e w' => ∃ v, e = .returned (.tuple #[rzV (effR o cs), v]) ∧ w'.ownsRow w.heap.size 38 5 v (effC o cs).length (ccells (effC o cs)) ∧ Below w.heap.size w w' := by
  obtain ⟨er, her⟩ : ∃ er, er = effR o cs := ⟨_, rfl⟩
  obtain ⟨ec, hec⟩ : ∃ ec, ec = effC o cs := ⟨_, rfl⟩
  rw [← her, ← hec]
  have HER : Hid _ := her
  have HEC : Hid _ := hec
  clear her hec
  obtain ⟨w1, hw1⟩ : ∃ w1, w1 = (w.alloc (.cells (oqC o) 32)).alloc (.cells #[.int .i64 0, .bool false, .string ⟨#[]⟩, .string ⟨#[]⟩, .int .u64 0] 29) := ⟨_, rfl⟩
  have hb1 : Below w.heap.size w w1 := by rw [hw1]; exact ((Below.refl _ _).alloc (Nat.le_refl _) _).alloc (by simp) _
  have x1 : OqB w1 w.heap.size o := by rw [hw1]; exact (Below.heap_alloc _ _ _ (by simp)).trans (heap_alloc_new w _)
  have y1 : RzB w1 (w.heap.size + 1) rz0 := by
    have h := RzB.new (w.alloc (.cells (oqC o) 32))
    rw [World.size_alloc] at h
    rw [hw1]
    exact h
  have HW1 : Hid _ := hw1
  clear hw1
  obtain ⟨q0, q1, q2, q3, q4⟩ := y1.facts
  have fz := (mcells y1).2
  obtain ⟨c0, c1, c2, c3, c4, c5⟩ := x1.facts
  have hRE : ∀ W, RzB W (w.heap.size + 1) rz0 → Below w.heap.size w W → RzB (((((W.setCell ⟨w.heap.size + 1, 0, none⟩ (.int .i64 2)).setCell ⟨w.heap.size + 1, 1, none⟩ (.bool false)).setCell ⟨w.heap.size + 1, 2, none⟩ (.string ⟨#[]⟩)).setCell ⟨w.heap.size + 1, 3, none⟩ (.string ⟨#[]⟩)).setCell ⟨w.heap.size + 1, 4, none⟩ (.int .u64 0)) (w.heap.size + 1) ⟨2, false, [], [], 0⟩ ∧ Below w.heap.size w (((((W.setCell ⟨w.heap.size + 1, 0, none⟩ (.int .i64 2)).setCell ⟨w.heap.size + 1, 1, none⟩ (.bool false)).setCell ⟨w.heap.size + 1, 2, none⟩ (.string ⟨#[]⟩)).setCell ⟨w.heap.size + 1, 3, none⟩ (.string ⟨#[]⟩)).setCell ⟨w.heap.size + 1, 4, none⟩ (.int .u64 0)) := fun W h1 h2 => ⟨h1.set ⟨2, false, [], [], 0⟩, below_set5 _ _ _ _ _ h2 (Nat.le_succ _)⟩
  by_cases hk : o.kind = 5
  · obtain rfl : er = ⟨2, false, [], [], 0⟩ := by rw [HER.out]; unfold effR; rw [if_pos (.inl hk)]
    obtain rfl : ec = [] := by rw [HEC.out]; unfold effC; rw [if_pos (.inl hk)]
    have HR : Hid _ := hRE w1 y1 hb1
    obtain ⟨k, r, c, v, h, x⟩ := o
    simp only at hk
    subst hk
    simp only at c0
    go_enter Try.func17, Try.ntmps17
    go_upto_region 1 with fail
    rw [show #[.int .i64 5, .string (bstr r), .string (bstr c), .string (bstr v), .bool h, .string (bstr x)] = oqC ⟨5, r, c, v, h, x⟩ from rfl, ← HW1.out]
    go_wp2
    exact ret_rz2 Try.results17 rfl rfl HR.out.1 rfl ⟨_, rfl, ⟨rfl, .inl ⟨rfl, rfl⟩⟩, HR.out.2⟩
  · have hck := YCheck_any o w1
    go_enter Try.func17, Try.ntmps17
    go_upto_region 1 with fail
    rw [show #[.int .i64 o.kind, .string (bstr o.row), .string (bstr o.col), .string (bstr o.val), .bool o.has, .string (bstr o.exp)] = oqC o from rfl, ← HW1.out]
    go_wp2_with fail
    refine hck.mono ?_
    rintro e w2 ⟨rfl, hb2⟩
    have x2 := op_row _ _ x1 hb2 (blk_lt x1)
    have y2 : RzB w2 (w.heap.size + 1) rz0 := y1.below hb2 (blk_lt y1)
    have hb12 := below2 hb1 hb2
    clear q0 q1 q2 q3 q4 fz c0 c1 c2 c3 c4 c5 x1 y1 hb1 hb2 hck HW1
    obtain ⟨q0, q1, q2, q3, q4⟩ := y2.facts
    have fz := (mcells y2).2
    obtain ⟨c0, c1, c2, c3, c4, c5⟩ := x2.facts
    cases hm : mayO o with
    | false =>
      obtain rfl : er = ⟨2, false, [], [], 0⟩ := by rw [HER.out]; unfold effR; rw [if_pos (.inr hm)]
      obtain rfl : ec = [] := by rw [HEC.out]; unfold effC; rw [if_pos (.inr hm)]
      have HR : Hid _ := hRE w2 y2 hb12
      clear hRE
      go_wp2
      exact ret_rz2 Try.results17 rfl rfl HR.out.1 rfl ⟨_, rfl, ⟨rfl, .inl ⟨rfl, rfl⟩⟩, HR.out.2⟩
    | true =>
      clear hRE
      have HMO : Hid _ := hm
      clear hm
      have hP := blk_lt y2
      obtain ⟨P, HP⟩ : ∃ P, Hid (P = w2.heap.size) := ⟨_, rfl⟩
      obtain ⟨w4, hw4⟩ : ∃ w4, w4 = (w2.alloc (.cells (lkC ⟨o.row, [], zC, false⟩) 72)).alloc (.cells (lkC ⟨o.row, o.col, zC, false⟩) 72) := ⟨_, rfl⟩
      have hb3 : Below w2.heap.size w2 (w2.alloc (.cells (lkC ⟨o.row, [], zC, false⟩) 72)) := (Below.refl _ _).alloc (Nat.le_refl _) _
      have hb4 : Below w2.heap.size w2 w4 := by rw [hw4]; exact hb3.alloc (by simp) _
      have z1 : LkB w4 P (lookL o.row [] (cs.take 0)) := by rw [hw4, HP.out]; exact (Below.heap_alloc _ _ _ (by simp)).trans (heap_alloc_new w2 _)
      have z2 : LkB w4 (P + 1) (lookL o.row o.col (cs.take 0)) := by
        have h := heap_alloc_new (w2.alloc (.cells (lkC ⟨o.row, [], zC, false⟩) 72)) (.cells (lkC ⟨o.row, o.col, zC, false⟩) 72)
        rw [World.size_alloc] at h
        rw [hw4, HP.out]
        exact h
      have hJ : EJ w P o cs 0 w4 := ⟨op_row _ _ x2 hb4 (blk_lt x2), y2.below hb4 (blk_lt y2), z1, z2, below2 hb12 hb4⟩
      have HP2 : Hid (w.heap.size + 1 < P) := (by rw [HP.out]; exact hP : w.heap.size + 1 < P)
      have x3 := op_row _ _ x2 hb3 (blk_lt x2)
      have HW4 : Hid _ := hw4
      go_upto_region 4 with fail
      rw [show #[.string (bstr o.row), .string ⟨#[]⟩, .string ⟨#[]⟩, .string ⟨#[]⟩, .int .u64 0, .bool false, .string ⟨#[]⟩, .bool false] = lkC ⟨o.row, [], zC, false⟩ from rfl]
      clear c0 c1 c2 c3 c4 c5 q0 q1 q2 q3 q4 fz hw4
      obtain ⟨c0, c1, c2, c3, c4, c5⟩ := x3.facts
      go_upto_region 5 with fail
      rw [show #[.string (bstr o.row), .string (bstr o.col), .string ⟨#[]⟩, .string ⟨#[]⟩, .int .u64 0, .bool false, .string ⟨#[]⟩, .bool false] = lkC ⟨o.row, o.col, zC, false⟩ from rfl, ← HW4.out, ← HP.out]
      have hk5 : (o.kind == 5) = false := by simpa using hk
      rw [hk5]
      clear HW4 HP hb3 hb4 z1 z2 x3 c0 c1 c2 c3 c4 c5 x2 y2 hb12 hP
      go_wp2_with fail
      go_loopw [9, 32] (fun _ s32 wr => ∃ i : Nat, s32 = .int .i64 (i : Int) ∧ i ≤ cs.length ∧ EJ w P o cs i wr) (fun _ s32 _ => cs.length - (intOf s32).toNat)
      case atStart => exact ⟨0, rfl, by omega, hJ⟩
      case round =>
        clear hJ
        obtain ⟨i, rfl, hil, hJ⟩ := hrel
        by_cases hlt : i < cs.length
        · have hiz : (i : Int) < (cs.length : Int) := by omega
          obtain ⟨rfl, hR, hbl⟩ := hq (by omega)
          obtain ⟨c, hc⟩ : ∃ c, c = cs[i] := ⟨_, rfl⟩
          have hA := (hR i hlt).step hJ.bl hbl
          rw [← hc] at hA
          have HT1 : Hid _ := look_take o.row [] cs hlt
          have HT2 : Hid _ := look_take o.row o.col cs hlt
          rw [← hc] at HT1 HT2
          obtain ⟨a0, a1, a2, a3, a4⟩ := id hA
          have hb5 : Below wr.heap.size wr (wr.alloc (.cells #[.string (bstr c.row), .string (bstr c.col), .int .u64 c.ver, .bool c.gone, .string (bstr c.val)] 38)) := (Below.refl _ _).alloc (Nat.le_refl _) _
          have x5 := heap_alloc_new wr (.cells #[.string (bstr c.row), .string (bstr c.col), .int .u64 c.ver, .bool c.gone, .string (bstr c.val)] 38)
          obtain ⟨w5, hw5⟩ : ∃ w5, w5 = wr.alloc (.cells #[.string (bstr c.row), .string (bstr c.col), .int .u64 c.ver, .bool c.gone, .string (bstr c.val)] 38) := ⟨_, rfl⟩
          rw [← hw5] at hb5 x5
          have HW5 : Hid _ := hw5
          have hPs := HP2.out
          have hc5 := hJ.cn.below hb5 (blk_lt hJ.cn)
          have ha5 := hJ.at_.below hb5 (blk_lt hJ.at_)
          have ho5 := op_row _ _ hJ.op hb5 (blk_lt hJ.op)
          have hr5 := hJ.rz.below hb5 (blk_lt hJ.rz)
          have hbl5 := below2 hJ.bl hb5
          have hsz := blk_lt hJ.at_
          have HLT : Hid (i + 1 ≤ cs.length) := hlt
          clear hw5 hR hA hc hlt hil hb5 hJ
          go_upto_region 8 with fail
          rw [← HW5.out]
          clear HW5 a0 a1 a2 a3 a4
          obtain ⟨d0, d1, d2, d3, d4⟩ : w5.cell? ⟨wr.heap.size, 0, none⟩ = some (.string (bstr c.row)) ∧ w5.cell? ⟨wr.heap.size, 1, none⟩ = some (.string (bstr c.col)) ∧ w5.cell? ⟨wr.heap.size, 2, none⟩ = some (.int .u64 c.ver) ∧ w5.cell? ⟨wr.heap.size, 3, none⟩ = some (.bool c.gone) ∧ w5.cell? ⟨wr.heap.size, 4, none⟩ = some (.string (bstr c.val)) := ⟨(mcells x5).1 0, (mcells x5).1 1, (mcells x5).1 2, (mcells x5).1 3, (mcells x5).1 4⟩
          go_wp2_with fail
          refine (see_any P _ c w5 hc5).mono ?_
          rintro e w6 ⟨rfl, hc6, hk6⟩
          have x6 := (hk6.block _ (blk_lt x5) (by omega)).trans x5
          have ha6 := ha5.kept hk6 (by omega)
          have ho6 : OqB w6 w.heap.size o := (hk6.block _ (blk_lt ho5) (by omega)).trans ho5
          have hr6 := hr5.kept hk6 (by omega)
          have hbl6 := bel_kp hbl5 hk6 (by omega)
          clear d0 d1 d2 d3 d4 hc5 ha5 ho5 hr5 hbl5 hk6 x5
          obtain ⟨d0, d1, d2, d3, d4⟩ : w6.cell? ⟨wr.heap.size, 0, none⟩ = some (.string (bstr c.row)) ∧ w6.cell? ⟨wr.heap.size, 1, none⟩ = some (.string (bstr c.col)) ∧ w6.cell? ⟨wr.heap.size, 2, none⟩ = some (.int .u64 c.ver) ∧ w6.cell? ⟨wr.heap.size, 3, none⟩ = some (.bool c.gone) ∧ w6.cell? ⟨wr.heap.size, 4, none⟩ = some (.string (bstr c.val)) := ⟨(mcells x6).1 0, (mcells x6).1 1, (mcells x6).1 2, (mcells x6).1 3, (mcells x6).1 4⟩
          go_wp2_with fail
          refine (see_any (P + 1) _ c w6 ha6).mono ?_
          rintro e w7 ⟨rfl, ha7, hk7⟩
          have hJ7 : EJ w P o cs (i + 1) w7 := ⟨(hk7.block _ (blk_lt ho6) (by omega)).trans ho6, hr6.kept hk7 (by omega), by rw [HT1.out]; exact hc6.kept hk7 (by omega), by rw [HT2.out]; exact ha7, bel_kp hbl6 hk7 (by omega)⟩
          clear d0 d1 d2 d3 d4 hc6 ha6 ho6 hr6 hbl6 hk7 x6 ha7
          go_wp2
          go_roundw
          case rel => exact ⟨i + 1, by go_num, HLT.out, hJ7⟩
          case measure => have := HLT.out; simp [intOf]; omega
        · have hiz : ¬ (i : Int) < (cs.length : Int) := by omega
          have hie : i = cs.length := by omega
          subst hie
          obtain ⟨ho, hr, hcn, hat, hbl⟩ := hJ
          rw [List.take_length] at hcn hat
          have hPs := HP2.out
          have HFa : Hid _ := look_all Fits o.row o.col cs hf ⟨by decide, by decide, by decide⟩
          have HVc : Hid _ := look_all (fun c => 0 ≤ c.ver) o.row [] cs hv (by decide)
          obtain ⟨la, hla⟩ : ∃ la, la = lookL o.row o.col cs := ⟨_, rfl⟩
          obtain ⟨lc, hlc⟩ : ∃ lc, lc = lookL o.row [] cs := ⟨_, rfl⟩
          have HLA : Hid (la.row = o.row ∧ la.col = o.col) := by rw [hla]; exact look_row _ _ _
          have heR : er = _ := HER.out
          have heC : ec = _ := HEC.out
          unfold effR at heR
          unfold effC at heC
          have hno : ¬ (o.kind = 5 ∨ mayO o = false) := by rw [HMO.out]; simpa using hk
          rw [if_neg hno, ← hla, ← hlc] at heR heC
          rw [← hla] at hat HFa
          rw [← hlc] at hcn HVc
          clear HER HEC hno hla hlc hq hf hv hn hil hlt
          obtain ⟨c0, c1, c2, c3, c4, c5⟩ := ho.facts
          obtain ⟨q0, q1, q2, q3, q4⟩ := hr.facts
          have fz := (mcells hr).2
          have c4c := (LkB.facts hcn).2.2.2.2.1
          obtain ⟨hlr, hlcol, hlv⟩ := mayO_len HMO.out
          have hch : ∀ W, LkB W (P + 1) la → Calls Try.prog 34 #[.pointer (some ⟨P + 1, 0, none⟩), oqV o, .int .u64 lc.new.ver] W fun e w' => ∃ v, e = .returned (.tuple #[rzV (chgR o lc.new.ver), v]) ∧ w'.ownsRow W.heap.size 38 5 v (chgC la o lc.new.ver).length (ccells (chgC la o lc.new.ver)) ∧ Below W.heap.size W w' := fun W h => by
            have := change_any (P + 1) la o lc.new.ver.toNat W h (by rw [HLA.out.1]; omega) (by rw [HLA.out.2]; omega) (by omega)
            rw [Int.toNat_of_nonneg HVc.out] at this
            exact this
          clear hlr hlcol hlv
          by_cases hk2 : o.kind = 2
          · rw [if_pos hk2] at heR heC
            subst heR heC
            go_wp2_with fail
            refine (tell_any (P + 1) la wr hat HFa.out.2.2).mono ?_
            rintro e w8 ⟨rfl, hb8⟩
            have y8 := hr.below hb8 (blk_lt hr)
            have hbw := below2 hbl hb8
            clear q0 q1 q2 q3 q4 fz
            obtain ⟨q0, q1, q2, q3, q4⟩ := y8.facts
            have fz := (mcells y8).2
            have HR : Hid _ := y8.set (tellL la)
            have HB : Hid _ := below_set5 (n := w.heap.size + 1) (.int .i64 (tellL la).err) (.bool (tellL la).found) (.string (bstr (tellL la).row)) (.string (bstr (tellL la).val)) (.int .u64 (tellL la).ver) hbw (Nat.le_succ _)
            clear hb8 y8 hbw
            go_wp2
            exact ret_rz2 Try.results17 rfl rfl HR.out rfl ⟨_, rfl, ⟨rfl, .inl ⟨rfl, rfl⟩⟩, HB.out⟩
          · rw [if_neg hk2] at heR heC
            by_cases hk3 : o.kind = 3
            · obtain ⟨ok, orow, ocol, oval, ohas, oexp⟩ := o
              simp only at hk3 hk2 hk
              subst hk3
              have hth := there_any (P + 1) la wr hat
              cases hx : thereL la with
              | false =>
                rw [if_pos ⟨rfl, hx⟩] at heR heC
                rw [hx] at hth
                subst heR heC
                have HR : Hid _ := hr.set rz0
                have HB : Hid _ := below_set5 (n := w.heap.size + 1) (.int .i64 0) (.bool false) (.string ⟨#[]⟩) (.string ⟨#[]⟩) (.int .u64 0) hbl (Nat.le_succ _)
                go_wp2_with fail
                refine hth.mono ?_
                rintro e w8 ⟨rfl, rfl⟩
                go_wp2
                exact ret_rz2 Try.results17 rfl rfl HR.out rfl ⟨_, rfl, ⟨rfl, .inl ⟨rfl, rfl⟩⟩, HB.out⟩
              | true =>
                rw [if_neg (by rw [hx]; simp), if_neg (by simp)] at heR heC
                rw [hx] at hth
                subst heR heC
                go_wp2_with fail
                refine hth.mono ?_
                rintro e w8 ⟨rfl, rfl⟩
                go_wp2_with fail
                refine (hch w8 hat).mono ?_
                rintro e wz ⟨v, rfl, how, hbz⟩
                have yz := hr.below hbz (blk_lt hr)
                have hbw := below2 hbl hbz
                clear q0 q1 q2 q3 q4 fz
                obtain ⟨q0, q1, q2, q3, q4⟩ := yz.facts
                have fz := (mcells yz).2
                have HR : Hid _ := yz.set (chgR ⟨3, orow, ocol, oval, ohas, oexp⟩ lc.new.ver)
                have HB : Hid _ := below_set5 (n := w.heap.size + 1) (.int .i64 (chgR ⟨3, orow, ocol, oval, ohas, oexp⟩ lc.new.ver).err) (.bool (chgR ⟨3, orow, ocol, oval, ohas, oexp⟩ lc.new.ver).found) (.string (bstr (chgR ⟨3, orow, ocol, oval, ohas, oexp⟩ lc.new.ver).row)) (.string (bstr (chgR ⟨3, orow, ocol, oval, ohas, oexp⟩ lc.new.ver).val)) (.int .u64 (chgR ⟨3, orow, ocol, oval, ohas, oexp⟩ lc.new.ver).ver) hbw (Nat.le_succ _)
                have hgN : ∀ g, v.ownBlock = some g → g ≠ w.heap.size + 1 := by
                  intro g hg
                  have h1 := (how.lt g hg).1
                  have h2 := blk_lt hr
                  omega
                have HO : Hid _ := own_set5 (p := .int .i64 (chgR ⟨3, orow, ocol, oval, ohas, oexp⟩ lc.new.ver).err) (q := .bool (chgR ⟨3, orow, ocol, oval, ohas, oexp⟩ lc.new.ver).found) (r := .string (bstr (chgR ⟨3, orow, ocol, oval, ohas, oexp⟩ lc.new.ver).row)) (s := .string (bstr (chgR ⟨3, orow, ocol, oval, ohas, oexp⟩ lc.new.ver).val)) (t := .int .u64 (chgR ⟨3, orow, ocol, oval, ohas, oexp⟩ lc.new.ver).ver) (own_mono how hbl.size) (N := w.heap.size + 1) hgN
                clear hgN how hbz yz hbw
                go_wp2
                exact ret_rz2 Try.results17 rfl rfl HR.out rfl ⟨_, rfl, HO.out, HB.out⟩
            · rw [if_neg (fun h => hk3 h.1)] at heR heC
              by_cases hk4 : o.kind = 4
              · obtain ⟨ok, orow, ocol, oval, ohas, oexp⟩ := o
                simp only at hk4 hk3 hk2 hk
                subst hk4
                have has := as_any (P + 1) la ⟨4, orow, ocol, oval, ohas, oexp⟩ wr hat
                cases hx : asL la ⟨4, orow, ocol, oval, ohas, oexp⟩ with
                | false =>
                  rw [if_pos ⟨rfl, hx⟩] at heR heC
                  rw [hx] at has
                  subst heR heC
                  go_wp2_with fail
                  refine has.mono ?_
                  rintro e w8 ⟨rfl, hb8⟩
                  have hat8 := hat.below hb8 (blk_lt hat)
                  have hcn8 := hcn.below hb8 (blk_lt hcn)
                  have hr8 := hr.below hb8 (blk_lt hr)
                  have ho8 := op_row _ _ ho hb8 (blk_lt ho)
                  have hbl8 := below2 hbl hb8
                  clear c0 c1 c2 c3 c4 c5 q0 q1 q2 q3 q4 fz c4c has hb8
                  obtain ⟨c0, c1, c2, c3, c4, c5⟩ := ho8.facts
                  obtain ⟨q0, q1, q2, q3, q4⟩ := hr8.facts
                  have fz := (mcells hr8).2
                  have c4c := (LkB.facts hcn8).2.2.2.2.1
                  go_wp2_with fail
                  refine (tell_any (P + 1) la w8 hat8 HFa.out.2.2).mono ?_
                  rintro e w9 ⟨rfl, hb9⟩
                  have hr9 := hr8.below hb9 (blk_lt hr8)
                  have hbl9 := below2 hbl8 hb9
                  have hlt9 := blk_lt hr9
                  clear c0 c1 c2 c3 c4 c5 q0 q1 q2 q3 q4 fz c4c hb9 hch
                  obtain ⟨t, ht⟩ : ∃ t, t = tellL la := ⟨_, rfl⟩
                  rw [← ht]
                  have HTT : Hid _ := ht
                  clear ht
                  have hbA : Below w9.heap.size w9 (w9.alloc (.cells (rzC t) 29)) := (Below.refl _ _).alloc (Nat.le_refl _) _
                  have xA : RzB (w9.alloc (.cells (rzC t) 29)) w9.heap.size t := heap_alloc_new w9 _
                  obtain ⟨wA, hwA⟩ : ∃ wA, wA = w9.alloc (.cells (rzC t) 29) := ⟨_, rfl⟩
                  rw [← hwA] at hbA xA
                  have hrA := hr9.below hbA hlt9
                  have hblA := below2 hbl9 hbA
                  have HWA : Hid _ := hwA
                  clear hwA
                  go_upto_region 17 with fail
                  rw [show #[.int .i64 t.err, .bool t.found, .string (bstr t.row), .string (bstr t.val), .int .u64 t.ver] = rzC t from rfl, ← HWA.out]
                  have fA := (mcells xA).2
                  obtain ⟨e0, e1, e2, e3, e4⟩ := xA.facts
                  have xB : RzB (wA.setCell ⟨w9.heap.size, 1, none⟩ (.bool false)) w9.heap.size ⟨t.err, false, t.row, t.val, t.ver⟩ := heap_set_same xA (o := 1) (.bool false)
                  have hrB : RzB (wA.setCell ⟨w9.heap.size, 1, none⟩ (.bool false)) (w.heap.size + 1) rz0 := (heap_set_other _ (by omega)).trans hrA
                  have hblB := hblA.setCell (p := ⟨w9.heap.size, 1, none⟩) (by show w.heap.size ≤ w9.heap.size; omega) (.bool false)
                  obtain ⟨wB, hwB⟩ : ∃ wB, wB = wA.setCell ⟨w9.heap.size, 1, none⟩ (.bool false) := ⟨_, rfl⟩
                  rw [← hwB] at xB hrB hblB
                  have HWB : Hid _ := hwB
                  clear hwB
                  go_upto_region 18 with fail
                  rw [← HWB.out]
                  clear e0 e1 e2 e3 e4 fA HWA HWB xA hrA hblA hbA
                  obtain ⟨e0, e1, e2, e3, e4⟩ := xB.facts
                  obtain ⟨q0, q1, q2, q3, q4⟩ := hrB.facts
                  have fz := (mcells hrB).2
                  have HR : Hid _ := hrB.set ⟨t.err, false, t.row, t.val, t.ver⟩
                  have HB : Hid _ := below_set5 (n := w.heap.size + 1) (.int .i64 t.err) (.bool false) (.string (bstr t.row)) (.string (bstr t.val)) (.int .u64 t.ver) hblB (Nat.le_succ _)
                  go_wp2
                  have htt := HTT.out
                  subst htt
                  exact ret_rz2 Try.results17 rfl rfl HR.out rfl ⟨_, rfl, ⟨rfl, .inl ⟨rfl, rfl⟩⟩, HB.out⟩
                | true =>
                  rw [if_neg (by rw [hx]; simp)] at heR heC
                  rw [hx] at has
                  subst heR heC
                  go_wp2_with fail
                  refine has.mono ?_
                  rintro e w8 ⟨rfl, hb8⟩
                  have hat8 := hat.below hb8 (blk_lt hat)
                  have hcn8 := hcn.below hb8 (blk_lt hcn)
                  have hr8 := hr.below hb8 (blk_lt hr)
                  have ho8 := op_row _ _ ho hb8 (blk_lt ho)
                  have hbl8 := below2 hbl hb8
                  clear c0 c1 c2 c3 c4 c5 q0 q1 q2 q3 q4 fz c4c has hb8
                  obtain ⟨c0, c1, c2, c3, c4, c5⟩ := ho8.facts
                  obtain ⟨q0, q1, q2, q3, q4⟩ := hr8.facts
                  have fz := (mcells hr8).2
                  have c4c := (LkB.facts hcn8).2.2.2.2.1
                  go_wp2_with fail
                  refine (hch w8 hat8).mono ?_
                  rintro e wz ⟨v, rfl, how, hbz⟩
                  have yz := hr8.below hbz (blk_lt hr8)
                  have hbw := below2 hbl8 hbz
                  clear q0 q1 q2 q3 q4 fz
                  obtain ⟨q0, q1, q2, q3, q4⟩ := yz.facts
                  have fz := (mcells yz).2
                  have HR : Hid _ := yz.set (chgR ⟨4, orow, ocol, oval, ohas, oexp⟩ lc.new.ver)
                  have HB : Hid _ := below_set5 (n := w.heap.size + 1) (.int .i64 (chgR ⟨4, orow, ocol, oval, ohas, oexp⟩ lc.new.ver).err) (.bool (chgR ⟨4, orow, ocol, oval, ohas, oexp⟩ lc.new.ver).found) (.string (bstr (chgR ⟨4, orow, ocol, oval, ohas, oexp⟩ lc.new.ver).row)) (.string (bstr (chgR ⟨4, orow, ocol, oval, ohas, oexp⟩ lc.new.ver).val)) (.int .u64 (chgR ⟨4, orow, ocol, oval, ohas, oexp⟩ lc.new.ver).ver) hbw (Nat.le_succ _)
                  have hgN : ∀ g, v.ownBlock = some g → g ≠ w.heap.size + 1 := by
                    intro g hg
                    have h1 := (how.lt g hg).1
                    have h2 := blk_lt hr8
                    omega
                  have HO : Hid _ := own_set5 (p := .int .i64 (chgR ⟨4, orow, ocol, oval, ohas, oexp⟩ lc.new.ver).err) (q := .bool (chgR ⟨4, orow, ocol, oval, ohas, oexp⟩ lc.new.ver).found) (r := .string (bstr (chgR ⟨4, orow, ocol, oval, ohas, oexp⟩ lc.new.ver).row)) (s := .string (bstr (chgR ⟨4, orow, ocol, oval, ohas, oexp⟩ lc.new.ver).val)) (t := .int .u64 (chgR ⟨4, orow, ocol, oval, ohas, oexp⟩ lc.new.ver).ver) (own_mono how hbl8.size) (N := w.heap.size + 1) hgN
                  clear hgN how hbz yz hbw
                  go_wp2
                  exact ret_rz2 Try.results17 rfl rfl HR.out rfl ⟨_, rfl, HO.out, HB.out⟩
              · rw [if_neg (fun h => hk4 h.1)] at heR heC
                subst heR heC
                go_wp2_with fail
                refine (hch wr hat).mono ?_
                rintro e wz ⟨v, rfl, how, hbz⟩
                have yz := hr.below hbz (blk_lt hr)
                have hbw := below2 hbl hbz
                clear q0 q1 q2 q3 q4 fz
                obtain ⟨q0, q1, q2, q3, q4⟩ := yz.facts
                have fz := (mcells yz).2
                have HR : Hid _ := yz.set (chgR o lc.new.ver)
                have HB : Hid _ := below_set5 (n := w.heap.size + 1) (.int .i64 (chgR o lc.new.ver).err) (.bool (chgR o lc.new.ver).found) (.string (bstr (chgR o lc.new.ver).row)) (.string (bstr (chgR o lc.new.ver).val)) (.int .u64 (chgR o lc.new.ver).ver) hbw (Nat.le_succ _)
                have hgN : ∀ g, v.ownBlock = some g → g ≠ w.heap.size + 1 := by
                  intro g hg
                  have h1 := (how.lt g hg).1
                  have h2 := blk_lt hr
                  omega
                have HO : Hid _ := own_set5 (p := .int .i64 (chgR o lc.new.ver).err) (q := .bool (chgR o lc.new.ver).found) (r := .string (bstr (chgR o lc.new.ver).row)) (s := .string (bstr (chgR o lc.new.ver).val)) (t := .int .u64 (chgR o lc.new.ver).ver) (own_mono how hbl.size) (N := w.heap.size + 1) hgN
                clear hgN how hbz yz hbw
                go_wp2
                exact ret_rz2 Try.results17 rfl rfl HR.out rfl ⟨_, rfl, HO.out, HB.out⟩

end Go.Proofs.Ytlkikfkchgmmhaa
