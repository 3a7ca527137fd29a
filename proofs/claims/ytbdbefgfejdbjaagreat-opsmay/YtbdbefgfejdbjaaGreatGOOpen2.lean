/-
  ops.Members, ops.Entry: which may be.
  How arguments that are entries are read.
-/
import Derived.Test.YtbdbefgfejdbjaaGreatGOCmd
import Derived.Test.YtbdbefgfejdbjaaGreatGOOpen
namespace Go.Proofs.YtbdbefgfejdbjaaGreat
open Go.RowKit Go.BigFrame
attribute [local go_sem] size_bstr toList_bstr

/-- Nodes, each above the one ahead. -/
def ascB (a : Int) : List Int → Bool
  | [] => true
  | x :: l => !decide (x ≤ a) && nodeB x && ascB x l
def membB (l : List Int) : Bool := ascB (-1) l && decide (0 < l.length)

set_option maxHeartbeats 4000000 in
set_option maxRecDepth 100000 in
theorem oMembers_any (q : Option Addr) (cap : Nat) (l : List Int) (w : World) (h : IArg w q l) (hl : l.length ≤ 9223372036854775807) :
    Calls Tryz.prog 12 #[.slice q l.length cap] w fun e w' => e = .returned (.int .i64 (if membB l then 0 else 2)) ∧ Below w.heap.size w w' := by
  obtain ⟨m, hm⟩ : ∃ m, m = membB l := ⟨_, rfl⟩
  rw [← hm]
  have HM : Hid (m = (ascB (-1) l && decide (0 < l.length))) := hm
  clear hm
  go_enter Tryz.func12, Tryz.ntmps12
  go_wp2
  go_loopw [3, 8] (fun s3 s8 wr => ∃ (i : Nat) (a : Int), s8 = .int .i64 (i : Int) ∧ s3 = .int .i64 a ∧ i ≤ l.length ∧ Hid (ascB (-1) l = ascB a (l.drop i)) ∧ Below w.heap.size w wr) (fun _ s8 _ => l.length + 1 - (intOf s8).toNat)
  case atStart => exact ⟨0, -1, rfl, rfl, by omega, (rfl : ascB (-1) l = ascB (-1) (l.drop 0)), Below.refl _ _⟩
  case round =>
    obtain ⟨i, a, rfl, rfl, hil, hasc, hbr⟩ := hrel
    by_cases hlt : i < l.length
    · have hi1 : (i : Int) < (l.length : Int) := by omega
      obtain ⟨b, off, rfl, hr⟩ := h (by omega)
      have c0 := cell_below hbr (hr i hlt)
      have hd := List.drop_eq_getElem_cons hlt
      obtain ⟨x, hx⟩ : ∃ x, x = l[i] := ⟨_, rfl⟩
      rw [← hx] at c0 hd
      have HA : Hid (ascB (-1) l = (!decide (x ≤ a) && nodeB x && ascB x (l.drop (i + 1)))) := by show _ = _; rw [hasc.out, hd]; rfl
      clear hd hx hr hasc
      by_cases hxa : x ≤ a
      · have hm : m = false := by rw [HM.out, HA.out, decide_eq_true hxa]; rfl
        subst hm
        go_wp2
        go_ret
        exact ⟨rfl, hbr⟩
      · have K := fun W : World => (show Calls Tryz.prog _ _ W (fun e w' => e = .returned (.bool (nodeB x)) ∧ Below W.heap.size W w') from oNode_any x W)
        have hxd : decide (x ≤ a) = false := decide_eq_false hxa
        rw [hxd] at HA
        generalize nodeB x = nb at *
        clear hxd
        go_wp2_with fail
        refine (K _).mono ?_
        rintro e w2 ⟨rfl, hb2⟩
        replace hbr := below2 hbr hb2
        clear c0 hb2 K
        cases nb
        case false =>
          have hm : m = false := by rw [HM.out, HA.out]; rfl
          subst hm
          go_wp2
          go_ret
          exact ⟨rfl, hbr⟩
        case true =>
          go_wp2
          go_roundw
          case rel => exact ⟨i + 1, x, by simp, rfl, by omega, HA.out, hbr⟩
          case measure => simp [intOf]; omega
    · obtain rfl : i = l.length := by omega
      have ha : ascB (-1) l = true := by rw [hasc.out, List.drop_length]; rfl
      have hm : m = decide (0 < l.length) := by rw [HM.out, ha, Bool.true_and]
      clear ha HM hasc
      go_wp2_with fail
      refine (jArg_any _ _).mono ?_
      rintro e w2 ⟨rfl, rfl⟩
      rw [← hm]
      clear hm
      cases m
      all_goals
        go_wp2
        go_ret
        exact ⟨rfl, hbr⟩

/-- An entry: its fields, its members, where they lie. -/
structure Et where
  ix : Int
  te : Int
  kd : Int
  cm : Cm
  mem : List Int
  q : Option Addr
  cap : Nat
def etC (e : Et) : List Value := [.int .u64 e.ix, .int .u64 e.te, .int .i64 e.kd] ++ (cmC e.cm ++ [.slice e.q e.mem.length e.cap])
def okE (ix te kd : Int) (cm : Cm) (mem : List Int) : Bool := (if kd = 1 then okC cm && decide (mem.length = 0) else if kd = 2 then decide (cm = cm0) && membB mem else false) && decide (0 < ix) && decide (0 < te)

set_option maxHeartbeats 8000000 in
set_option maxRecDepth 100000 in
theorem oEntry_any (e : Et) (w : World) (h : IArg w e.q e.mem) (hl : e.mem.length ≤ 9223372036854775807) :
    Calls Tryz.prog 19 #[.agg (etC e).toArray] w fun x w' => x = .returned (.int .i64 (if okE e.ix e.te e.kd e.cm e.mem then 0 else 2)) ∧ Below w.heap.size w w' := by
  obtain ⟨ix, te, kd, cm, mem, q, cap⟩ := e
  simp only at h hl ⊢
  obtain ⟨ok, hok⟩ : ∃ ok, ok = okE ix te kd cm mem := ⟨_, rfl⟩
  rw [← hok]
  obtain ⟨G, hG⟩ : ∃ G, G = (if kd = 1 then okC cm && decide (mem.length = 0) else if kd = 2 then decide (cm = cm0) && membB mem else false) := ⟨_, rfl⟩
  have HOK : Hid (ok = (G && decide (0 < ix) && decide (0 < te))) := by show _ = _; rw [hok, hG]; rfl
  have HG : Hid (G = (if kd = 1 then okC cm && decide (mem.length = 0) else if kd = 2 then decide (cm = cm0) && membB mem else false)) := hG
  clear hok hG
  obtain ⟨w1, hw1⟩ : ∃ w1, w1 = w.alloc (.cells (etC ⟨ix, te, kd, cm, mem, q, cap⟩).toArray 38) := ⟨_, rfl⟩
  have hb1 : Below w.heap.size w w1 := by rw [hw1]; exact (Below.refl _ _).alloc (Nat.le_refl _) _
  have hx1 : Blk w1 w.heap.size 38 (etC ⟨ix, te, kd, cm, mem, q, cap⟩).toArray := by rw [hw1]; exact heap_alloc_new w _
  have hm1 := h.below hb1
  have HX : Hid (Blk w1 w.heap.size 38 (etC ⟨ix, te, kd, cm, mem, q, cap⟩).toArray) := hx1
  clear hx1 h
  have c2 : w1.cell? ⟨w.heap.size, 2, none⟩ = some (.int .i64 kd) := (mcells HX.out).1 2
  have hr : w1.rangeAt w.heap.size 3 (cmC cm) := range_of_block HX.out [.int .u64 ix, .int .u64 te, .int .i64 kd] (cmC cm) [.slice q mem.length cap] rfl
  have hlen : (Tryz.prog.info? 28).map (·.size) = some (cmC cm).length := by rw [show (cmC cm).length = 20 from rfl]; kernel_rfl
  go_enter Tryz.func19, Tryz.ntmps19
  go_upto_region 1 with fail
  rw [← hw1]
  clear hw1
  go_upto_block 0 with fail
  clear c2
  go_cut [3] from 6 to 29 (fun s3 wx => s3 = .bool G ∧ Blk wx w.heap.size 38 (etC ⟨ix, te, kd, cm, mem, q, cap⟩).toArray ∧ Below w.heap.size w wx)
  case first =>
    by_cases k1 : kd = 1
    case pos =>
      subst k1
      have hg : G = (okC cm && decide (mem.length = 0)) := by rw [HG.out, if_pos rfl]
      clear HG
      have K := oCmd_any cm w1
      generalize okC cm = b at *
      have HG : Hid _ := hg
      clear hg
      go_wp2_with (first | refine wpList_load_mid rfl 28 _ rfl w.heap.size 3 rfl (cmC cm) _ hr Tryz.underlying28 rfl hlen ?_ | fail)
      refine K.mono ?_
      rintro e w2 ⟨rfl, hb2⟩
      have X2 := blk_below HX.out hb2
      have B2 := below2 hb1 hb2
      have c23 : w2.cell? ⟨w.heap.size, 23, none⟩ = some (.slice q mem.length cap) := (mcells X2).1 23
      clear hr hb2 hm1 hb1 HX K
      cases b
      case false =>
        go_wp2
        go_meet
        case rel => exact ⟨congrArg Value.bool HG.out.symm, X2, B2⟩
      case true =>
        go_wp2
        go_meet
        case rel => exact ⟨congrArg Value.bool (by rw [HG.out, Bool.true_and, Bool.eq_iff_iff]; simp), X2, B2⟩
    case neg =>
    have e1 : (kd == 1) = false := beq_eq_false_iff_ne.2 k1
    have HG2 : Hid (G = if kd = 2 then decide (cm = cm0) && membB mem else false) := by show _ = _; rw [HG.out, if_neg k1]
    clear HG
    by_cases k2 : kd = 2
    case pos =>
      subst k2
      have hg : G = (decide (cm = cm0) && membB mem) := by rw [HG2.out, if_pos rfl]
      clear HG2
      have hq : ∀ W, (binOp .eql 28 (.agg (cmC cm).toArray) (.agg #[.int .i64 0, .int .i64 0, .int .u64 0, .int .u64 0, .int .i64 0, .string ⟨#[]⟩, .string ⟨#[]⟩, .string ⟨#[]⟩, .bool false, .string ⟨#[]⟩, .int .u64 0, .int .i64 0, .string ⟨#[]⟩, .string ⟨#[]⟩, .int .i64 0, .bool false, .int .i64 0, .string ⟨#[]⟩, .int .i64 0, .int .i64 0])).run Tryz.prog W = .ok (.bool (decide (cm = cm0))) W := fun W => cm_eql cm cm0 W
      have hgu : ∀ (x y : Operand) (W : World), (eqGuard .eql 28 x y (.agg (cmC cm).toArray) (.agg #[.int .i64 0, .int .i64 0, .int .u64 0, .int .u64 0, .int .i64 0, .string ⟨#[]⟩, .string ⟨#[]⟩, .string ⟨#[]⟩, .bool false, .string ⟨#[]⟩, .int .u64 0, .int .i64 0, .string ⟨#[]⟩, .string ⟨#[]⟩, .int .i64 0, .bool false, .int .i64 0, .string ⟨#[]⟩, .int .i64 0, .int .i64 0])).run Tryz.prog W = .ok () W := fun x y W => cm_guard .eql x y _ _ W
      have K := oMembers_any q cap mem w1 hm1 hl
      have c23 : w1.cell? ⟨w.heap.size, 23, none⟩ = some (.slice q mem.length cap) := (mcells HX.out).1 23
      generalize membB mem = mb at *
      generalize decide (cm = cm0) = d at *
      have HG : Hid _ := hg
      clear hg
      cases d
      case false =>
        go_wp2_with (first | refine wpList_load_mid rfl 28 _ rfl w.heap.size 3 rfl (cmC cm) _ hr Tryz.underlying28 rfl hlen ?_ | fail)
        go_meet
        case rel => exact ⟨congrArg Value.bool HG.out.symm, HX.out, hb1⟩
      case true =>
        go_wp2_with (first | refine wpList_load_mid rfl 28 _ rfl w.heap.size 3 rfl (cmC cm) _ hr Tryz.underlying28 rfl hlen ?_ | fail)
        refine K.mono ?_
        rintro e w2 ⟨rfl, hb2⟩
        have X2 := blk_below HX.out hb2
        have B2 := below2 hb1 hb2
        clear hr hb2 hm1 hb1 HX K
        cases mb
        all_goals
          go_wp2
          go_meet
          case rel => exact ⟨congrArg Value.bool HG.out.symm, X2, B2⟩
    case neg =>
      have hg : G = false := by rw [HG2.out, if_neg k2]
      have HG : Hid _ := hg
      clear hg HG2
      have e2 : (kd == 2) = false := beq_eq_false_iff_ne.2 k2
      go_wp2
      go_meet
      case rel => exact ⟨congrArg Value.bool HG.out.symm, HX.out, hb1⟩
  case rest =>
    obtain ⟨rfl, X2, B2⟩ := hcut
    have hok := HOK.out
    clear HOK hr hb1 hm1 HX HG
    have c0 : wc.cell? ⟨w.heap.size, 0, none⟩ = some (.int .u64 ix) := (mcells X2).1 0
    have c1 : wc.cell? ⟨w.heap.size, 1, none⟩ = some (.int .u64 te) := (mcells X2).1 1
    clear X2
    cases G
    case false =>
      obtain rfl : ok = false := hok
      go_wp2_with fail
      refine (jArg_any false _).mono ?_
      rintro e w3 ⟨rfl, rfl⟩
      go_wp2
      go_ret
      exact ⟨rfl, B2⟩
    case true =>
      by_cases h0 : 0 < ix
      case neg =>
        obtain rfl : ok = false := by rw [hok, decide_eq_false h0]; rfl
        clear hok
        go_wp2_with fail
        refine (jArg_any false _).mono ?_
        rintro e w3 ⟨rfl, rfl⟩
        go_wp2
        go_ret
        exact ⟨rfl, B2⟩
      case pos =>
        have hd : decide (0 < te) = ok := by rw [hok, decide_eq_true h0]; rfl
        clear hok
        go_wp2_with fail
        refine (jArg_any ok _).mono ?_
        rintro e w3 ⟨rfl, rfl⟩
        clear hd
        cases ok
        all_goals
          go_wp2
          go_ret
          exact ⟨rfl, B2⟩

end Go.Proofs.YtbdbefgfejdbjaaGreat

namespace Go.Proofs.YtbdbefgfejdbjaaGreat
set_option maxRecDepth 100000
open Go.ChangeShapes Go.WideShapes Go.ChangeAt Go.RowKit Go.Deep

theorem ent_cells : Tryz.prog.cellsOf 38 = 24 := by kernel_rfl
theorem ints_cells : Tryz.prog.cellsOf 29 = 1 := by kernel_rfl

section
variable {H : Type} {enc : TypeId × Value → H} {w : World} {base : Nat} {spare : Nat → Bool} {held : Bool}

/-- Numbers read. -/
theorem view_ints {fuel : Nat} {cs : List Value} {x : DataW H × List MemPlace} (h : DataW.trod enc Tryz.prog w base spare held fuel 29 cs = some x) :
    ∃ (q : Option Addr) (cap : Nat) (l : List Int), cs = [.slice q l.length cap] ∧ IArg w q l ∧ l.length ≤ maxLen := by
  rcases open_ints Tryz.underlying29 Tryz.underlying3 int_cells h with ⟨hcs, _⟩ | ⟨a, len, cap, zs, hcs, _, hl, hm, hz, _, hcell, hwz⟩
  · exact ⟨none, 0, [], hcs, fun h => absurd h (by simp), by simp⟩
  · have hlz : len ≤ zs.length := by rw [hz]; split <;> omega
    have htl : (zs.take len).length = len := by rw [List.length_take]; omega
    refine ⟨some a, cap, zs.take len, by rw [hcs, htl], fun h0 => ?_, by rw [htl]; exact Nat.le_trans hl hm⟩
    rw [htl] at h0
    obtain ⟨bb, off, spot⟩ := a
    have hc0 := hcell 0 (by omega)
    have hspot : spot = none := by simpa [Addr.add] using World.cell?_spot hc0
    subst hspot
    refine ⟨bb, off, rfl, fun i hi => ?_⟩
    rw [htl] at hi
    have := hcell i (by omega)
    rw [Addr.add_lit] at this
    rw [this]
    simp [List.getD, List.getElem?_eq_getElem (show i < zs.length by omega)]
theorem view_ent {fuel : Nat} {cs : List Value} {x : DataW H × List MemPlace} (h : DataW.trod enc Tryz.prog w base spare held fuel 38 cs = some x) :
    ∃ e : Et, cs = etC e ∧ IArg w e.q e.mem ∧ e.mem.length ≤ maxLen ∧ e.ix ≤ 18446744073709551615 ∧ e.te ≤ 18446744073709551615 ∧ 0 ≤ e.cm.ep := by
  obtain ⟨y0, y1, y2, y3, y4, n, hx, hl, h0, h1, h2, h3, h4⟩ := trod_struct5x Tryz.underlying38 h
  rw [ent_cells] at hl
  match cs, hl with
  | [c0, c1, c2, c3, c4, c5, c6, c7, c8, c9, c10, c11, c12, c13, c14, c15, c16, c17, c18, c19, c20, c21, c22, c23], _ =>
    simp only [u64_cells, int_cells, ints_cells, cmd_cells, List.drop_zero, List.drop_succ_cons, List.take_succ_cons, List.take_zero] at h0 h1 h2 h3 h4
    obtain ⟨v0, e0, k0⟩ := DataW.trod_int Tryz.underlying22 h0
    obtain ⟨v1, e1, k1⟩ := DataW.trod_int Tryz.underlying22 h1
    obtain ⟨v2, e2, _⟩ := DataW.trod_int Tryz.underlying3 h2
    obtain ⟨c, e3, _, b3, _⟩ := view_cmd h3
    obtain ⟨q, cap, l, e4, hm, hml⟩ := view_ints h4
    simp only [List.cons.injEq, and_true] at e0 e1 e2 e4
    subst e0 e1 e2 e4
    have b0 := bounds_u64 k0.2
    have b1 := bounds_u64 k1.2
    have b0' : v0 ≤ 18446744073709551615 := by omega
    have b1' : v1 ≤ 18446744073709551615 := by omega
    refine ⟨⟨v0, v1, v2, c, l, q, cap⟩, ?_, hm, hml, b0', b1', b3.1⟩
    unfold etC
    rw [← e3]
    rfl
/-- An argument that is an entry. -/
theorem arg_ent {v : Value} {d : DataW H} {p : List MemPlace} {r : Reach} {b : Nat} (hv : Value.okWide Tryz.prog w r b 38 v) (h : DataW.Trod enc Tryz.prog w base spare held 38 v d p) :
    ∃ e : Et, v = .agg (etC e).toArray ∧ IArg w e.q e.mem ∧ e.mem.length ≤ maxLen ∧ e.ix ≤ 18446744073709551615 ∧ e.te ≤ 18446744073709551615 ∧ 0 ≤ e.cm.ep := by
  obtain ⟨cs, rfl, _⟩ := okWide_struct Tryz.underlying38 hv
  obtain ⟨fuel, hf⟩ := h
  obtain ⟨e, hc, hb⟩ := view_ent hf
  refine ⟨e, ?_, hb⟩
  obtain ⟨l⟩ := cs
  have : l = etC e := by simpa [Value.cells] using hc
  rw [this]
end

end Go.Proofs.YtbdbefgfejdbjaaGreat
