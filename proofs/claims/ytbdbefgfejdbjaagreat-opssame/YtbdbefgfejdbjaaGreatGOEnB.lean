/-
  Any entry laid: its bytes where it may be, refused where not.
  Entries there and back: the bytes of one, and no bytes more or fewer.
-/
import Derived.Test.YtbdbefgfejdbjaaGreatGOFit
import Derived.Test.YtbdbefgfejdbjaaGreatGOLst
import Derived.Test.YtbdbefgfejdbjaaGreatGOEnt
import Derived.Test.YtbdbefgfejdbjaaGreatGOTakEs
namespace Go.Proofs.YtbdbefgfejdbjaaGreat
open Go.RowKit Go.BigFrame
attribute [local go_sem] size_bstr toList_bstr append_bstr

/-- An entry's fields but for its members; its bytes. -/
def etL (e : Et) : List Lit := [.int .u64 e.ix, .int .u64 e.te, .int .i64 e.kd] ++ cmL e.cm
def etB (e : Et) : List UInt8 := layKs entK (etL e) ++ layMem e.mem
abbrev okEt (e : Et) : Bool := okE e.ix e.te e.kd e.cm e.mem
/-- Its numbers lie where numbers of their types lie. -/
structure InE (e : Et) : Prop where
  ix : e.ix ≤ 18446744073709551615
  te : e.te ≤ 18446744073709551615
  ep : 0 ≤ e.cm.ep
theorem etC_eq (e : Et) : etC e = (etL e).map Lit.toCell ++ [.slice e.q e.mem.length e.cap] := rfl
theorem etC_len (e : Et) : (etC e).length = 24 := rfl
theorem et_fit {e : Et} (h : okEt e = true) (i : InE e) : fitKs entK (etL e) ∧ fitM e.mem := by
  unfold okEt okE at h
  simp only [Bool.and_eq_true, decide_eq_true_eq] at h
  obtain ⟨⟨h0, h1⟩, h2⟩ := h
  have hc : fitKs cmdK (cmL e.cm) ∧ fitM e.mem ∧ (e.kd = 1 ∨ e.kd = 2) := by
    split at h0
    · rename_i hk
      simp only [Bool.and_eq_true, decide_eq_true_eq] at h0
      refine ⟨ok_fit h0.1 i.ep, ?_, Or.inl hk⟩
      rw [List.eq_nil_of_length_eq_zero h0.2]
      exact ⟨by simp, by simp⟩
    · split at h0
      · rename_i hk
        simp only [Bool.and_eq_true, decide_eq_true_eq] at h0
        refine ⟨?_, memb_fit h0.2, Or.inr hk⟩
        rw [h0.1]
        exact fitKs_of (by kernel_rfl)
      · simp at h0
  refine ⟨?_, hc.2.1⟩
  have hk := hc.2.2
  refine ⟨?_, ?_, ?_, hc.1⟩
  · exact ⟨by omega, i.ix⟩
  · exact ⟨by omega, i.te⟩
  · show 0 ≤ e.kd ∧ e.kd ≤ 2147483647
    omega
theorem et_len {e : Et} (h : okEt e = true) (i : InE e) : (etB e).length ≤ 4000 := by
  obtain ⟨f1, f2⟩ := et_fit h i
  have h1 := layKs_len2 f1
  have h2 := layMem_len f2
  have h3 : ((etL e).map tlen).sum ≤ 2000 := by
    unfold etL
    rw [List.map_append, List.sum_append]
    have e1 : ([Lit.int .u64 e.ix, .int .u64 e.te, .int .i64 e.kd].map tlen).sum = 0 := rfl
    rw [e1, Nat.zero_add]
    unfold okEt okE at h
    simp only [Bool.and_eq_true, decide_eq_true_eq] at h
    have h0 := h.1.1
    split at h0
    · simp only [Bool.and_eq_true, decide_eq_true_eq] at h0
      exact tlen_cm h0.1
    · split at h0
      · simp only [Bool.and_eq_true, decide_eq_true_eq] at h0
        rw [h0.1]
        rw [tl_eq, sum7]
        decide
      · simp at h0
  have l1 : entK.length = 23 := rfl
  unfold etB
  rw [List.length_append]
  omega

def ansE (e : Et) : Value := .tuple #[.string (bstr (if okEt e then etB e else [])), .int .i64 (if okEt e then 0 else 2)]

set_option maxHeartbeats 8000000 in
set_option maxRecDepth 100000 in
theorem oEncE1_any (e : Et) (w : World) (hm : IArg w e.q e.mem) (hl : e.mem.length ≤ 9223372036854775807) (hi : InE e) : Calls Tryz.prog 48 #[.agg (etC e).toArray, .func (.func 19) #[] #[], .func (.func 49) #[] #[]] w fun x w' => x = .returned (ansE e) ∧ Below w.heap.size w w' := by
  have hx0 := blk_new w 38 (etC e).toArray
  have hb0 : Below w.heap.size w (w.alloc (.cells (etC e).toArray 38)) := (Below.refl _ _).alloc (Nat.le_refl _) _
  have hr0 : (w.alloc (.cells (etC e).toArray 38)).rangeAt w.heap.size 0 (etC e) := range_of_block hx0 [] _ [] (by simp)
  have hlen : (Tryz.prog.info? 38).map (·.size) = some (etC e).length := by rw [etC_len]; kernel_rfl
  have hm0 := hm.below hb0
  have KE := fun W (h : IArg W e.q e.mem) => oEntry_any e W h hl
  have KL : okEt e = true → ∀ W : World, IArg W e.q e.mem → Calls Tryz.prog 49 #[.agg (etC e).toArray] W fun x w' => x = .returned (.string (bstr (etB e))) ∧ Below W.heap.size W w' := fun ho W hW => by
    obtain ⟨f1, f2⟩ := et_fit ho hi
    have := layMem_len f2
    rw [etC_eq]
    exact oLayEntry_any (etL e) _ (layMem e.mem) W f1 (by omega) (fun W' hb => oLayMem_any e.q e.cap e.mem W' (hW.below hb) (by have := f2.1; omega) f2.2)
  have hA : Hid (ansE e = .tuple #[.string (bstr (if okEt e then etB e else [])), .int .i64 (if okEt e then 0 else 2)]) := rfl
  generalize ansE e = A at *
  have KE' : ∀ W, IArg W e.q e.mem → Calls Tryz.prog 19 #[.agg (etC e).toArray] W fun x w' => x = .returned (.int .i64 (if okEt e then 0 else 2)) ∧ Below W.heap.size W w' := KE
  clear KE
  generalize okEt e = ok at *
  generalize etB e = B at *
  generalize hC : etC e = C at *
  clear hC
  go_enter Tryz.func48, Tryz.ntmps48
  go_wp2_with (first | refine wpList_load_mid rfl 38 _ rfl w.heap.size 0 rfl C _ hr0 Tryz.underlying38 rfl hlen ?_ | fail)
  refine (KE' _ hm0).mono ?_
  rintro x w2 ⟨rfl, hb2⟩
  have hm2 := hm0.below hb2
  have hr2 : w2.rangeAt w.heap.size 0 C := range_of_block (blk_below hx0 hb2) [] _ [] (by simp)
  have hB2 := below2 hb0 hb2
  clear hx0 hb0 hr0 hb2 hm0 KE'
  cases ok
  case false =>
    go_wp2
    all_goals
      go_ret2
      exact ⟨by rw [hA.out]; rfl, hB2⟩
  case true =>
  go_wp2_with (first | refine wpList_load_mid rfl 38 _ rfl w.heap.size 0 rfl C _ hr2 Tryz.underlying38 rfl hlen ?_ | fail)
  refine (KL trivial _ hm2).mono ?_
  rintro x w3 ⟨rfl, hb3⟩
  have hB3 := below2 hB2 hb3
  clear hr2 hB2 hb3 hm2 KL
  go_wp2
  go_ret2
  exact ⟨by rw [hA.out]; rfl, hB3⟩

set_option maxHeartbeats 8000000 in
set_option maxRecDepth 100000 in
theorem oEncE_any (e : Et) (w : World) (hm : IArg w e.q e.mem) (hl : e.mem.length ≤ 9223372036854775807) (hi : InE e) : Calls Tryz.prog 17 #[.agg (etC e).toArray] w fun x w' => x = .returned (ansE e) ∧ Below w.heap.size w w' := by
  have hx0 := blk_new w 38 (etC e).toArray
  have hb0 : Below w.heap.size w (w.alloc (.cells (etC e).toArray 38)) := (Below.refl _ _).alloc (Nat.le_refl _) _
  have hr0 : (w.alloc (.cells (etC e).toArray 38)).rangeAt w.heap.size 0 (etC e) := range_of_block hx0 [] _ [] (by simp)
  have hlen : (Tryz.prog.info? 38).map (·.size) = some (etC e).length := by rw [etC_len]; kernel_rfl
  have K := oEncE1_any e _ (hm.below hb0) hl hi
  have hA : Hid (ansE e = .tuple #[.string (bstr (if okEt e then etB e else [])), .int .i64 (if okEt e then 0 else 2)]) := rfl
  obtain ⟨s, n, hs⟩ : ∃ s n, ansE e = .tuple #[.string s, .int .i64 n] := ⟨_, _, rfl⟩
  rw [hs] at K ⊢
  clear hA hs hx0
  generalize etC e = C at *
  go_enter Tryz.func17, Tryz.ntmps17
  go_wp2_with (first | refine wpList_load_mid rfl 38 _ rfl w.heap.size 0 rfl C _ hr0 Tryz.underlying38 rfl hlen ?_ | fail)
  refine K.mono ?_
  rintro x w2 ⟨rfl, hb2⟩
  have hB2 := below2 hb0 hb2
  clear hr0 hb2 hb0 K
  go_wp2
  go_ret2
  exact ⟨rfl, hB2⟩

end Go.Proofs.YtbdbefgfejdbjaaGreat

namespace Go.Proofs.YtbdbefgfejdbjaaGreat
open Go.RowKit Go.BigFrame

theorem lits_inj : ∀ {a b : List Int}, a.map (Lit.int .i64) = b.map (Lit.int .i64) → a = b
  | [], [], _ => rfl
  | x :: a, y :: b, h => by
    simp only [List.map_cons, List.cons.injEq, Lit.int.injEq, true_and] at h
    rw [h.1, lits_inj h.2]
  | [], _ :: _, h => by simp at h
  | _ :: _, [], h => by simp at h
theorem fit_rep : ∀ {l : List Int}, (∀ x ∈ l, 0 ≤ x ∧ x ≤ 2147483647) → fitKs (List.replicate l.length .I) (l.map (Lit.int .i64))
  | [], _ => trivial
  | x :: _, h => ⟨h x List.mem_cons_self, fit_rep fun y hy => h y (List.mem_cons_of_mem _ hy)⟩
theorem rep_fit : ∀ {l : List Int}, fitKs (List.replicate l.length .I) (l.map (Lit.int .i64)) → ∀ x ∈ l, 0 ≤ x ∧ x ≤ 2147483647
  | [], _ => by simp
  | _ :: _, h => fun y hy => by
    rcases List.mem_cons.1 hy with rfl | hy
    · exact h.1
    · exact rep_fit h.2 y hy
/-- Members there and back. -/
theorem mem_lay {l : List Int} (h : fitM l) (r : List UInt8) : memI ⟨true, layMem l ++ r⟩ = l ∧ memE ⟨true, layMem l ++ r⟩ = ⟨true, r⟩ := by
  have h1 := h.1
  obtain ⟨p1, p2, p3⟩ := nA_num (x := l.length) (m := 5) (r := layKs (List.replicate l.length .I) (l.map (Lit.int .i64)) ++ r) (by omega) h1
  have e0 : layMem l ++ r = Lib.uvarint l.length ++ (layKs (List.replicate l.length .I) (l.map (Lit.int .i64)) ++ r) := by
    unfold layMem
    rw [List.append_assoc]
  have en : memN ⟨true, layMem l ++ r⟩ = l.length := by
    unfold memN
    rw [e0]
    exact p2
  have es : memS0 ⟨true, layMem l ++ r⟩ = ⟨true, layKs (List.replicate l.length .I) (l.map (Lit.int .i64)) ++ r⟩ := by
    unfold memS0
    rw [e0]
    show Ps.mk _ _ = _
    rw [p1, p3]
  obtain ⟨t1, t2⟩ := takes_lay r (fit_rep h.2)
  constructor
  · apply lits_inj
    show (memL _ _).map _ = _
    rw [memL_lits, en, es, t1]
  · show memSt _ _ = _
    rw [en, es]
    exact t2
theorem mem_back {s : Ps} (h : (memE s).a = true) : s.a = true ∧ s.l = layMem (memI s) ++ (memE s).l ∧ fitM (memI s) := by
  obtain ⟨h1, h2, h3⟩ := takes_back (ks := List.replicate (memN s) .I) (s := memS0 s) h
  obtain ⟨h4, h5, h6⟩ := nA_back (show nA s.a 5 s.l = true from h1)
  have hl : (memI s).length = memN s := memI_length s
  have hm := memL_lits (memN s) (memS0 s)
  have h3' : fitKs (List.replicate (memI s).length .I) ((memI s).map (Lit.int .i64)) := by
    rw [hl]
    exact hm.symm ▸ h3
  refine ⟨h4, ?_, by rw [hl]; exact h6, rep_fit h3'⟩
  unfold layMem
  rw [hl, List.append_assoc]
  rw [show (memI s).map (Lit.int .i64) = takVs (List.replicate (memN s) .I) (memS0 s) from hm]
  rw [show (memE s).l = (takSs (List.replicate (memN s) .I) (memS0 s)).l from rfl, ← h2]
  exact h5
theorem fit_gi : ∀ {t : Lit}, fitK .I t → t = .int .i64 (gi t)
  | .int .i64 _, _ => rfl
theorem et_lit (e : Et) : etOf (etL e) e.mem e.q e.cap = e := rfl
theorem okEl_et (e : Et) : okEl (etL e) e.mem = okEt e := rfl
/-- An entry's bytes, with something behind them. -/
theorem et_take {e : Et} (h : okEt e = true) (i : InE e) (r : List UInt8) : entHd (etB e ++ r) = etL e ∧ entMem (etB e ++ r) = e.mem ∧ entEnd (etB e ++ r) = ⟨true, r⟩ := by
  obtain ⟨f1, f2⟩ := et_fit h i
  have e0 : etB e ++ r = layKs entK (etL e) ++ (layMem e.mem ++ r) := by
    unfold etB
    rw [List.append_assoc]
  obtain ⟨t1, t2⟩ := takes_lay (layMem e.mem ++ r) f1
  obtain ⟨m1, m2⟩ := mem_lay f2 r
  unfold entHd entMem entEnd
  rw [e0, t1, t2]
  exact ⟨rfl, m1, m2⟩
theorem et_dec {e : Et} (h : okEt e = true) (i : InE e) : decEO (etB e) = true ∧ entHd (etB e) = etL e ∧ entMem (etB e) = e.mem := by
  have t := et_take h i []
  rw [List.append_nil] at t
  obtain ⟨t1, t2, t3⟩ := t
  refine ⟨?_, t1, t2⟩
  unfold decEO
  rw [t1, t2, t3, okEl_et]
  show (true && decide (([] : List UInt8).length = 0) && okEt e) = true
  rw [h]
  rfl
theorem et_more {e : Et} (h : okEt e = true) (i : InE e) (b : UInt8) : decEO (etB e ++ [b]) = false := by
  obtain ⟨t1, t2, t3⟩ := et_take h i [b]
  unfold decEO
  rw [t3]
  rfl
/-- What is an entry is the bytes of what it is read as. -/
theorem et_back {l : List UInt8} (h : decEO l = true) (q : Option Addr) (cap : Nat) : okEt (etOf (entHd l) (entMem l) q cap) = true ∧ InE (etOf (entHd l) (entMem l) q cap) ∧ etL (etOf (entHd l) (entMem l) q cap) = entHd l ∧ etB (etOf (entHd l) (entMem l) q cap) = l := by
  unfold decEO at h
  simp only [Bool.and_eq_true, decide_eq_true_eq] at h
  obtain ⟨⟨h1, h2⟩, h3⟩ := h
  obtain ⟨m1, m2, m3⟩ := mem_back (s := takSs entK ⟨true, l⟩) h1
  obtain ⟨k1, k2, k3⟩ := takes_back m1
  have hnil : (entEnd l).l = [] := List.eq_nil_of_length_eq_zero h2
  have m2' : (takSs entK ⟨true, l⟩).l = layMem (entMem l) := by
    rw [m2, show (memE (takSs entK ⟨true, l⟩)).l = (entEnd l).l from rfl, hnil, List.append_nil]
    rfl
  have hb : l = layKs entK (entHd l) ++ layMem (entMem l) := by
    rw [← m2']
    exact k2
  have k3' : fitKs entK (entHd l) := k3
  have hL : etL (etOf (entHd l) (entMem l) q cap) = entHd l := by
    show etL (etOf (takVs entK ⟨true, l⟩) _ q cap) = takVs entK ⟨true, l⟩
    rfl
  refine ⟨h3, ?_, hL, ?_⟩
  · rw [← hL] at k3'
    obtain ⟨a, b, _, _, _, _, f, _⟩ := k3'
    exact ⟨a.2, b.2, f.1⟩
  · unfold etB
    rw [hL]
    exact hb.symm
theorem et_ne {e : Et} (h : okEt e = true) (i : InE e) : etB e ≠ [] := by
  intro hn
  have t := (et_take h i []).2.2
  rw [hn] at t
  have : (entEnd []).a = false := by kernel_rfl
  rw [List.append_nil] at t
  rw [t] at this
  exact absurd this (by decide)
theorem et_cut {e : Et} (h : okEt e = true) (i : InE e) : decEO (etB e).dropLast = false := by
  cases hd : decEO (etB e).dropLast with
  | false => rfl
  | true =>
    obtain ⟨a, b, _, d⟩ := et_back hd none 0
    have h3 := List.dropLast_concat_getLast (et_ne h i)
    have h4 := (et_dec h i).1
    rw [← h3, ← d, et_more a b] at h4
    exact absurd h4 (by decide)

end Go.Proofs.YtbdbefgfejdbjaaGreat
