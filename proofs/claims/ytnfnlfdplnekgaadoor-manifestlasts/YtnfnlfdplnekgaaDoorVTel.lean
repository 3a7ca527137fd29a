/-
  files$1: all files of a state are told, level by level.
-/
import Derived.Test.YtnfnlfdplnekgaaDoorGVLay
namespace Go.Proofs.YtnfnlfdplnekgaaDoor
open Go.RowKit Go.BigFrame Go.Sort
attribute [local go_sem] Oper.semAt_some
attribute [local go_sem] size_bstr toList_bstr ls_def

set_option maxHeartbeats 4000000 in
set_option maxRecDepth 100000 in
theorem files1_any (g lr : Nat) (v : Value) (vs : List Value) (lv : List (List Fi)) (J : Nat → Nat → World → Prop) (Jx : World → Prop) (w : World) (hn : lv.length ≤ 1000000000000) (hm : ∀ l ∈ lv, l.length ≤ 1000000000000)
    (hab : ∀ i t W W', J i t W → Below W.heap.size W W' → J i t W') (hbx : ∀ i t W, J i t W → W.cell? ⟨g, 0, none⟩ = some v ∧ LArg W v vs lv)
    (hnx : ∀ i l W, lv[i]? = some l → J i l.length W → J (i + 1) 0 W)
    (hY : ∀ m i t l f W, lv[i]? = some l → l[t]? = some f → J i t W → YieldAt Fence.wide m Tryd.prog lr #[.int .i64 (i : Int), fiV f] W fun e W' => (e = .returned (.bool true) ∧ J i (t + 1) W') ∨ (e = .returned (.bool false) ∧ Jx W'))
    (hJ : J 0 0 w) :
    Calls Tryd.prog 44 #[.func (.yield lr) #[] #[], .pointer (some ⟨g, 0, none⟩)] w fun e W => (∃ u, e = .returned u) ∧ (J lv.length 0 W ∨ Jx W) := by
  obtain ⟨c0, hL⟩ := hbx 0 0 w hJ
  obtain ⟨q, cap, hv, hc, hr⟩ := id hL.sl
  subst hv
  clear hL hr
  refine calls_in Tryd.func44 rfl ?_
  simp only [Tryd.ntmps44, List.size_toArray, List.length_cons, List.length_nil, Nat.reduceAdd, Nat.reduceSub, Array.replicate_succ, Array.replicate_zero, List.push_toArray, List.append_toArray, List.nil_append, List.cons_append]
  gi_wp2
  refine wpIn_loop_n (fun m a wr => ∃ (i : Nat) (u2 u3 u4 u5 u6 u9 u10 u11 u12 u13 u14 u15 u16 u17 u18 u19 u20 u21 u22 u23 u24 u25 u26 : Value), a = { tmps := #[.func (.yield lr) #[] #[], .pointer (some ⟨g, 0, none⟩), u2, u3, u4, u5, u6, .slice q lv.length cap, .int .i64 (lv.length : Int), u9, u10, u11, u12, u13, u14, u15, u16, u17, u18, u19, u20, u21, u22, u23, u24, u25, u26], defers := [] } ∧ u9 = .int .i64 (i : Int) ∧ i + m = lv.length ∧ J i 0 wr) lv.length ?start ?round
  case start => exact ⟨0, _, _, _, _, _, _, _, _, _, _, _, _, _, _, _, _, _, _, _, _, _, _, _, rfl, rfl, by omega, hJ⟩
  case round =>
    clear hJ c0
    rintro m a wr ⟨i, u2, u3, u4, u5, u6, u9, u10, u11, u12, u13, u14, u15, u16, u17, u18, u19, u20, u21, u22, u23, u24, u25, u26, rfl, rfl, him, hJi⟩
    cases m with
    | zero =>
      have hie : i = lv.length := by omega
      subst hie
      gi_wp2
      exact ⟨rfl, _, results_none rfl _ _ _, ⟨_, rfl⟩, Or.inl hJi⟩
    | succ m =>
      have hlt : i < lv.length := by omega
      have hiz : (i : Int) < (lv.length : Int) := by omega
      obtain ⟨l, hl⟩ : ∃ l, lv[i]? = some l := ⟨_, List.getElem?_eq_getElem hlt⟩
      have hll : l.length ≤ 1000000000000 := hm l (List.mem_of_getElem? hl)
      obtain ⟨b, off, cap', u, hq, hu, ca, hA⟩ := (hbx i 0 wr hJi).2.at_ hlt
      have hle : lv[i] = l := by rw [List.getElem?_eq_getElem hlt] at hl; exact Option.some.inj hl
      rw [hle] at hA
      obtain ⟨rfl, rfl⟩ : q = some ⟨b, off, none⟩ ∧ cap' = cap := by
        injection hq with h1 h2 h3
        exact ⟨h1, h3.symm⟩
      clear hq
      obtain ⟨q2, cap2, rfl, hc2, _⟩ := id hA.sl
      clear hA
      gi_wp2
      refine wpIn_loop_n (fun m' a wr => ∃ (t : Nat) (u2 u4 u5 u6 u10 u11 u12 u13 u16 u17 u18 u19 u20 u21 u22 u23 u24 u25 u26 : Value), a = { tmps := #[.func (.yield lr) #[] #[], .pointer (some ⟨g, 0, none⟩), u2, .int .i64 (i : Int), u4, u5, u6, .slice (some ⟨b, off, none⟩) lv.length cap', .int .i64 (lv.length : Int), .int .i64 (i : Int), u10, u11, u12, u13, .slice q2 l.length cap2, .int .i64 (l.length : Int), u16, u17, u18, u19, u20, u21, u22, u23, u24, u25, u26], defers := [] } ∧ u16 = .int .i64 (t : Int) ∧ t + m' = l.length ∧ J i t wr) l.length ?start2 ?round2
      case start2 => exact ⟨0, _, _, _, _, _, _, _, _, _, _, _, _, _, _, _, _, _, _, _, rfl, rfl, by omega, hJi⟩
      case round2 =>
        clear hJi ca
        rintro m' a wr2 ⟨t, u2, u4, u5, u6, u10, u11, u12, u13, u16, u17, u18, u19, u20, u21, u22, u23, u24, u25, u26, rfl, rfl, htm, hJt⟩
        cases m' with
        | zero =>
          have hte : t = l.length := by omega
          subst hte
          have hJn := hnx i l wr2 hl hJt
          clear hJt
          gi_wp2
          exact ⟨m, rfl, i + 1, _, _, _, _, _, _, _, _, _, _, _, _, _, _, _, _, _, _, _, _, _, _, _, rfl, by go_num, by omega, hJn⟩
        | succ m' =>
          have htl : t < l.length := by omega
          have htz : (t : Int) < (l.length : Int) := by omega
          obtain ⟨f, hf⟩ : ∃ f, l[t]? = some f := ⟨_, List.getElem?_eq_getElem htl⟩
          have hfe : l[t] = f := by rw [List.getElem?_eq_getElem htl] at hf; exact Option.some.inj hf
          obtain ⟨b', off', cap'', u', hq', hu', ca', hA'⟩ := (hbx i t wr2 hJt).2.at_ hlt
          rw [hle] at hA'
          rw [hu] at hu'
          cases hu'
          obtain ⟨q3, cap3, hq3, hc3, hrow⟩ := id hA'.sl
          cases hq3
          obtain ⟨b3, off3, rfl, hb3, hR⟩ := hrow (by omega)
          have hAt := hR t htl
          rw [hfe] at hAt
          have hJa := hab i t wr2 (wr2.alloc (.cells #[.int .u64 (f.id : Int), .string (bstr f.low), .string (bstr f.high), .int .i64 f.n] 48)) hJt ((Below.refl _ _).alloc (Nat.le_refl _) _)
          obtain ⟨fn, tmps, assign, body, hyr, hRR⟩ := hY (3 - 1) i t l f _ hl hf hJa
          obtain ⟨a0, a1, a2, a3⟩ := hAt
          obtain ⟨f0, f1, f2, f3⟩ := FAt.new wr2 48 f
          simp only [Nat.zero_add] at f0 f1 f2 f3
          clear hJt ca' hA' hR hb3 hrow
          obtain ⟨id, low, high, n⟩ := f
          simp only at a0 a1 a2 a3 f0 f1 f2 f3 hyr
          gi_wp2_with fail
          clear hyr
          refine hRR.mono ?_
          rintro e w3 (⟨rfl, hJ3⟩ | ⟨rfl, hJ3⟩)
          · gi_wp2
            exact ⟨m', rfl, t + 1, _, _, _, _, _, _, _, _, _, _, _, _, _, _, _, _, _, _, _, rfl, by go_num, by omega, hJ3⟩
          · gi_wp2
            exact ⟨rfl, _, results_none rfl _ _ _, ⟨_, rfl⟩, Or.inr hJ3⟩

end Go.Proofs.YtnfnlfdplnekgaaDoor
