/-
  The law's own 'tells'.
-/
import Derived.Test.YtijfmgpipnhkkaaSR6
import Derived.Sort.BigQuietIn
namespace Go.Proofs.Ytijfmgpipnhkkaa
open Go.RowKit
attribute [local go_sem] Oper.semAt_some
attribute [local go_sem] size_bstr toList_bstr ls_def
attribute [local go_sem high] cell_eql5 cell_neq5 cell_guard

structure Kep (P : Prop) : Prop where
  out : P
theorem cut_same {P G : Prop} (h : Kep P → G) (p : P) : G := h ⟨p⟩
theorem Ls.not {w : World} {l hd : Nat} {T : List Tw} {v : Value} {xs : List Value} (h : Ls w l hd T v xs) {j : Nat} {o : Obj} (hj : w.heap[j]? = some o) (ho : ∀ cur t, o ≠ .cells cur t (0, 0)) : ¬ Ow l hd T v j := fun hi => by
  obtain ⟨cur, t, e, _⟩ := h.what hi
  rw [hj] at e
  exact ho cur t (Option.some.inj e)
/-- The marks of loops that are through. -/
abbrev mrk (D : Nat) : Deferred := { target := .collected D, args := #[] }
theorem leaves_marks2 {P : Program} {fn : Func} {tmps : Array Value} {R : Ending → World → Prop} {n : Nat} {W0 : World} {v : Value} {S : Nat → Prop} (hres : ∀ W', Kp W0 W' S → (results fn tmps).run P W' = .ok v W') (hR : ∀ W', Kp W0 W' S → R (.returned v) W') :
    ∀ (Ds : List Nat) (W : World), Ds.Nodup → (∀ d ∈ Ds, S d ∧ W.heap[d]? = some (.deferred (some []))) → Kp W0 W S → LeavesInM Fence.wide n P fn tmps R (Ds.map mrk) .returning W := by
  intro Ds
  induction Ds with
  | nil =>
    intro W _ _ hb
    exact ⟨v, hres W hb, hR W hb⟩
  | cons d Ds ih =>
    intro W hn hd hb
    obtain ⟨h1, h2⟩ := hd d List.mem_cons_self
    rw [List.nodup_cons] at hn
    refine ⟨by simp, Or.inl ⟨d, _, rfl, run_takeDeferred h2, ih _ hn.2 (fun x hx => ?_) (hb.put _ (Or.inl h1))⟩⟩
    obtain ⟨h3, h4⟩ := hd x (List.mem_cons_of_mem _ hx)
    have hne : x ≠ d := fun e => hn.1 (e ▸ hx)
    exact ⟨h3, (World.putObj_heap_other hne).trans h4⟩

/-- The world of tells ahead of a turn. -/
structure TS (w : World) (l hd : Nat) (T : List Tw) (v : Value) (row col : List UInt8) (qw : Option Addr) (n cw : Nat) (leave : Int) (t tb : Nat) (Ds : List Nat) (v' : Value) (W : World) : Prop where
  b0 : W.heap[w.heap.size]? = some (.cells #[.slice qw n cw] 25 (0, 0))
  b1 : W.heap[w.heap.size + 1]? = some (.cells #[.int .i64 leave] 3 (0, 0))
  b2 : W.heap[w.heap.size + 1 + 1]? = some (.cells #[.bool false] 4 (0, 0))
  bx : Bx W (w.heap.size + 1 + 1 + 1) (some ⟨l, 0, none⟩) row col
  tn : W.heap[tb]? = some (.cells #[.int .i64 (t : Int)] 3 (0, 0))
  tg : w.heap.size + 6 ≤ tb
  ls : Ls W l hd T v' []
  kp : Kp w W (Ow l hd T v)
  fo : ∀ i, Ow l hd T v' i → Ow l hd T v i ∨ w.heap.size ≤ i
  ms : ∀ d ∈ Ds, w.heap.size ≤ d ∧ W.heap[d]? = some (.deferred (some []))
  nd : Ds.Nodup
theorem TS.below {w : World} {l hd : Nat} {T : List Tw} {v : Value} {row col : List UInt8} {qw : Option Addr} {n cw : Nat} {leave : Int} {t tb : Nat} {Ds : List Nat} {v' : Value} {W W' : World} (h : TS w l hd T v row col qw n cw leave t tb Ds v' W) (hb : Below W.heap.size W W') : TS w l hd T v row col qw n cw leave t tb Ds v' W' :=
  ⟨(hb.block _ (blk_lt h.b0)).trans h.b0, (hb.block _ (blk_lt h.b1)).trans h.b1, (hb.block _ (blk_lt h.b2)).trans h.b2, h.bx.step hb, (hb.block _ (blk_lt h.tn)).trans h.tn, h.tg, h.ls.below hb, h.kp.trans (Kp.of_below (fun _ => False) hb) (fun _ h => h.elim), h.fo, fun d hd => ⟨(h.ms d hd).1, (hb.block _ (blk_lt (h.ms d hd).2)).trans (h.ms d hd).2⟩, h.nd⟩
theorem TS.turn {w : World} {l hd : Nat} {T : List Tw} {v : Value} {row col : List UInt8} {qw : Option Addr} {n cw : Nat} {leave : Int} {t tb : Nat} {Ds : List Nat} {v' : Value} {W : World} (h : TS w l hd T v row col qw n cw leave t tb Ds v' W) (t' : Nat) : TS w l hd T v row col qw n cw leave t' W.heap.size Ds v' (W.alloc (.cells #[.int .i64 (t' : Int)] 3)) := by
  have h1 := h.below ((Below.refl _ _).alloc (Nat.le_refl _) (.cells #[.int .i64 (t' : Int)] 3))
  exact ⟨h1.b0, h1.b1, h1.b2, h1.bx, heap_alloc_new _ _, by have := h.tg; have := blk_lt h.tn; omega, h1.ls, h1.kp, h1.fo, h1.ms, h1.nd⟩
/-- The world of tells in a turn: W0: ahead of it. -/
structure TK (W0 : World) (l hd : Nat) (T : List Tw) (v' : Value) (nb D : Nat) (LR : Loop) (n : Nat) (T' : List Tw) (F : Nat → Prop) (W : World) : Prop where
  eT : T' = T
  kp : Kp W0 W (Ow l hd T v')
  fo : ∀ i, F i → Ow l hd T v' i ∨ W0.heap.size ≤ i
  rc : W.heap[D + 1]? = some (.loop LR)
  df : W.heap[D]? = some (.deferred (some []))
  nl : ¬ F (D + 1)
  nd : ¬ F D
  nbf : ¬ F nb
  nn : W.heap[nb]? = some (.cells #[.int .i64 (n : Int)] 3 (0, 0))
theorem TK.abd {W0 : World} {l hd : Nat} {T : List Tw} {v' : Value} {nb D : Nat} {LR : Loop} {n : Nat} {T' : List Tw} {F F' : Nat → Prop} {W W' : World} (h : TK W0 l hd T v' nb D LR n T' F W) (hK : Kp W W' F) (hF : ∀ i, F' i → F i ∨ W.heap.size ≤ i) : TK W0 l hd T v' nb D LR n T' F' W' := by
  have hsz := h.kp.size
  have key : ∀ i, i < W.heap.size → ¬ F i → ¬ F' i := fun i hi hn hf => by
    rcases hF i hf with q | q
    · exact hn q
    · omega
  refine ⟨h.eT, h.kp.trans hK h.fo, fun i hi => ?_, (hK.block _ (blk_lt h.rc) h.nl).trans h.rc, (hK.block _ (blk_lt h.df) h.nd).trans h.df, key _ (blk_lt h.rc) h.nl, key _ (blk_lt h.df) h.nd, key _ (blk_lt h.nn) h.nbf, (hK.block _ (blk_lt h.nn) h.nbf).trans h.nn⟩
  rcases hF i hi with q | q
  · exact h.fo i q
  · exact Or.inr (by omega)
theorem TS.next {w : World} {l hd : Nat} {T : List Tw} {v : Value} {row col : List UInt8} {qw : Option Addr} {n cw : Nat} {leave : Int} {t tb : Nat} {Ds : List Nat} {v' : Value} {W0 W2 : World} {v2 : Value} {nb D : Nat} {LR : Loop} {m : Nat} (h : TS w l hd T v row col qw n cw leave t tb Ds v' W0) (hL : Ls W2 l hd T v2 []) (hk : TK W0 l hd T v' nb D LR m T (Ow l hd T v2) W2) (hnb : W0.heap.size ≤ nb) (hD : nb < D) (o : Obj) :
    TS w l hd T v row col qw n cw leave t tb (D :: Ds) v2 (W2.putObj (D + 1) o) ∧ (W2.putObj (D + 1) o).heap[nb]? = some (.cells #[.int .i64 (m : Int)] 3 (0, 0)) := by
  have hs : ∀ i, i < W0.heap.size → ¬ Ow l hd T v' i → (W2.putObj (D + 1) o).heap[i]? = W0.heap[i]? := fun i hi hn => (World.putObj_heap_other (by omega)).trans (hk.kp.block i hi hn)
  have hw0 := h.kp.size
  refine ⟨⟨(hs _ (blk_lt h.b0) (h.ls.other h.b0 (by decide))).trans h.b0, (hs _ (blk_lt h.b1) (h.ls.other h.b1 (by decide))).trans h.b1, (hs _ (blk_lt h.b2) (h.ls.other h.b2 (by decide))).trans h.b2, ⟨(hs _ (blk_lt h.bx.a) (h.ls.other h.bx.a (by decide))).trans h.bx.a, (hs _ (blk_lt h.bx.r) (h.ls.other h.bx.r (by decide))).trans h.bx.r, (hs _ (blk_lt h.bx.c) (h.ls.other h.bx.c (by decide))).trans h.bx.c⟩, (hs _ (blk_lt h.tn) (h.ls.other h.tn (by decide))).trans h.tn, h.tg, hL.kept fun i hi => World.putObj_heap_other (fun e => hk.nl (e ▸ hi)), (h.kp.trans hk.kp h.fo).put _ (Or.inr (by omega)), fun i hi => ?_, fun d hd => ?_, ?_⟩, (World.putObj_heap_other (by omega)).trans hk.nn⟩
  · rcases hk.fo i hi with q | q
    · exact h.fo i q
    · exact Or.inr (by omega)
  · rcases List.mem_cons.1 hd with rfl | hd
    · exact ⟨by omega, (World.putObj_heap_other (by omega)).trans hk.df⟩
    · exact ⟨(h.ms d hd).1, (hs _ (blk_lt (h.ms d hd).2) (h.ls.not (h.ms d hd).2 (fun _ _ e => by cases e))).trans (h.ms d hd).2⟩
  · refine List.nodup_cons.2 ⟨fun hm => ?_, h.nd⟩
    have := blk_lt (h.ms _ hm).2
    omega

/-- The loop of tells, m turns ahead of its end. -/
def TI (w : World) (l hd : Nat) (B T : List Tw) (v : Value) (row col : List UInt8) (qw : Option Addr) (cw : Nat) (leave : Int) (m : Nat) (a : Act) (W : World) : Prop := ∃ (t tb : Nat) (Ds : List Nat) (v' : Value) (u5 u6 u7 u13 u14 u15 u16 u17 u18 u19 u20 u21 u22 u23 u24 u25 u26 u27 u28 u29 u30 u31 u32 u33 u34 u35 u36 u37 u38 u39 u40 u41 u42 u43 u44 u45 u46 u47 u48 u49 u50 u51 u52 u53 u54 u55 u56 u57 u58 u59 u60 u61 u62 u63 u64 u65 u66 u67 u68 u69 u70 u71 u72 u73 u74 : Value), a = { tmps := #[.pointer (some ⟨l, 0, none⟩), .string (bstr row), .string (bstr col), .slice qw B.length cw, .int .i64 leave, u5, u6, u7, .pointer (some ⟨w.heap.size, 0, none⟩), .pointer (some ⟨w.heap.size + 1, 0, none⟩), .pointer (some ⟨w.heap.size + 1 + 1, 0, none⟩), .func (.func 37) #[] #[.pointer (some ⟨w.heap.size + 1 + 1 + 1, 0, none⟩), .pointer (some ⟨w.heap.size + 1 + 1 + 1 + 1, 0, none⟩), .pointer (some ⟨w.heap.size + 1 + 1 + 1 + 1 + 1, 0, none⟩)], .pointer (some ⟨tb, 0, none⟩), u13, u14, u15, u16, u17, u18, u19, u20, u21, u22, u23, u24, u25, u26, u27, u28, u29, u30, u31, u32, u33, u34, u35, u36, u37, u38, u39, u40, u41, u42, u43, u44, u45, u46, u47, u48, u49, u50, u51, u52, u53, u54, u55, u56, u57, u58, u59, u60, u61, u62, u63, u64, u65, u66, u67, u68, u69, u70, u71, u72, u73, u74], defers := Ds.map mrk } ∧ t + m = 2 ∧ TS w l hd T v row col qw B.length cw leave t tb Ds v' W

set_option maxHeartbeats 4000000 in
set_option maxRecDepth 100000 in
theorem tells_rp (l hd : Nat) (A B : List Tw) (v : Value) (row col : List UInt8) (qw : Option Addr) (gw ow cw : Nat) (leave : Int) (w : World) (h : Ls w l hd (A ++ B) v []) (hA : ∀ t ∈ A, ccl t.c (plC row col) < 0) (hB : ∀ t ∈ B, 0 ≤ ccl t.c (plC row col)) (hn : B.length ≤ 1000000) (h1 : row.length ≤ 140737488351232) (h2 : col.length ≤ 140737488351232)
    (hw : 0 < B.length → qw = some ⟨gw, ow, none⟩ ∧ CRow w gw ow (B.map fun t => t.c) ∧ gw < w.heap.size ∧ ¬ Ow l hd (A ++ B) v gw) (RP0 : Ending → World → Prop)
    (hRP : Hid (∀ v' W, Ls W l hd (A ++ B) v' [] → Kp w W (Ow l hd (A ++ B) v) → (∀ i, Ow l hd (A ++ B) v' i → Ow l hd (A ++ B) v i ∨ w.heap.size ≤ i) → RP0 (.returned (.bool true)) W)) :
    Calls Try.prog 10 #[.pointer (some ⟨l, 0, none⟩), .string (bstr row), .string (bstr col), .slice qw B.length cw, .int .i64 leave] w RP0 := by
  obtain ⟨T, hT⟩ : ∃ T, T = A ++ B := ⟨_, rfl⟩
  have HTT : Hid _ := hT
  obtain ⟨wa, hwa⟩ : ∃ wa, wa = ((w.alloc (.cells #[.slice qw B.length cw] 25)).alloc (.cells #[.int .i64 leave] 3)).alloc (.cells #[.bool false] 4) := ⟨_, rfl⟩
  have hba : Below w.heap.size w wa := by rw [hwa]; exact (((Below.refl _ _).alloc (Nat.le_refl _) _).alloc (by simp) _).alloc (by simp; omega) _
  have a0 : wa.heap[w.heap.size]? = some (.cells #[.slice qw B.length cw] 25 (0, 0)) := by rw [hwa]; exact (Below.heap_alloc _ _ _ (by simp; omega)).trans ((Below.heap_alloc _ _ _ (by simp)).trans (heap_alloc_new w _))
  have a1 : wa.heap[w.heap.size + 1]? = some (.cells #[.int .i64 leave] 3 (0, 0)) := by
    rw [hwa]
    refine (Below.heap_alloc _ _ _ (by simp)).trans ?_
    have := heap_alloc_new (w.alloc (.cells #[.slice qw B.length cw] 25)) (.cells #[.int .i64 leave] 3)
    rwa [World.size_alloc] at this
  have a2 : wa.heap[w.heap.size + 1 + 1]? = some (.cells #[.bool false] 4 (0, 0)) := by
    rw [hwa]
    have := heap_alloc_new ((w.alloc (.cells #[.slice qw B.length cw] 25)).alloc (.cells #[.int .i64 leave] 3)) (.cells #[.bool false] 4)
    rwa [World.size_alloc, World.size_alloc] at this
  have has : wa.heap.size = w.heap.size + 1 + 1 + 1 := by rw [hwa]; simp
  have hfr := From_any (some ⟨l, 0, none⟩) row col wa h1 h2
  refine calls_marks Try.func10 rfl ?_
  simp only [Try.ntmps10, List.size_toArray, List.length_cons, List.length_nil, Nat.reduceAdd, Nat.reduceSub, Array.replicate_succ, Array.replicate_zero, List.push_toArray, List.append_toArray, List.nil_append, List.cons_append]
  have HS : Hid _ := has
  have HW : Hid _ := hwa
  clear has hwa
  gi_wp2_with fail
  rw [← HW.out]
  refine ⟨trivial, (callsIn_wide.2 hfr).mono ?_⟩
  rintro e w1 ⟨rfl, hbx, hb1⟩
  rw [HS.out] at hbx ⊢
  have hb01 := below2 hba hb1
  have hT1 : TS w l hd T v row col qw B.length cw leave 0 w1.heap.size [] v (w1.alloc (.cells #[.int .i64 ((0 : Nat) : Int)] 3)) := by
    rw [hT]
    have hb2 : Below w1.heap.size w1 (w1.alloc (.cells #[.int .i64 ((0 : Nat) : Int)] 3)) := (Below.refl _ _).alloc (Nat.le_refl _) _
    have hlt := hbx.lt
    exact ⟨(hb2.block _ (by omega)).trans ((hb1.block _ (blk_lt a0)).trans a0), (hb2.block _ (by omega)).trans ((hb1.block _ (blk_lt a1)).trans a1), (hb2.block _ (by omega)).trans ((hb1.block _ (blk_lt a2)).trans a2), hbx.step hb2, heap_alloc_new _ _, by omega, h.below (below2 hb01 hb2), Kp.of_below _ (below2 hb01 hb2), fun i hi => Or.inl hi, fun d hd => (by cases hd), List.nodup_nil⟩
  clear hfr HW hba a0 a1 a2 hb1 hbx hT
  gi_wp2_with fail
  refine wpIn_loop_n (TI w l hd B T v row col qw cw leave) 2 ?start ?round
  case start => exact ⟨0, w1.heap.size, [], v, _, _, _, _, _, _, _, _, _, _, _, _, _, _, _, _, _, _, _, _, _, _, _, _, _, _, _, _, _, _, _, _, _, _, _, _, _, _, _, _, _, _, _, _, _, _, _, _, _, _, _, _, _, _, _, _, _, _, _, _, _, _, _, _, _, rfl, rfl, hT1⟩
  case round =>
    clear hT1
    rintro m a W0 ⟨t, tb, Ds, v', u5, u6, u7, u13, u14, u15, u16, u17, u18, u19, u20, u21, u22, u23, u24, u25, u26, u27, u28, u29, u30, u31, u32, u33, u34, u35, u36, u37, u38, u39, u40, u41, u42, u43, u44, u45, u46, u47, u48, u49, u50, u51, u52, u53, u54, u55, u56, u57, u58, u59, u60, u61, u62, u63, u64, u65, u66, u67, u68, u69, u70, u71, u72, u73, u74, rfl, htm, hTS⟩
    have ct : W0.cell? ⟨tb, 0, none⟩ = some (.int .i64 (t : Int)) := (cells_block hTS.tn).1 0
    cases m with
    | zero =>
      obtain rfl : t = 2 := by omega
      have c2 : W0.cell? ⟨w.heap.size + 1 + 1, 0, none⟩ = some (.bool false) := (cells_block hTS.b2).1 0
      have f2 : W0.frozen? ⟨w.heap.size + 1 + 1, 0, none⟩ = false := (cells_block hTS.b2).2 0
      have HTS : Hid _ := hTS
      have s2 := heap_set_same hTS.b2 (o := 0) (.bool true)
      obtain ⟨W4, hW4⟩ : ∃ W4, W4 = W0.setCell ⟨w.heap.size + 1 + 1, 0, none⟩ (.bool true) := ⟨_, rfl⟩
      rw [← hW4] at s2
      have HW4 : Hid _ := hW4
      have hne : ∀ i, i ≠ w.heap.size + 1 + 1 → W4.heap[i]? = W0.heap[i]? := fun i hi => by rw [hW4]; exact heap_set_other _ hi
      have hd2 : w.heap.size + 1 + 1 ∉ Ds := fun hd => by
        have := (hTS.ms _ hd).2
        rw [hTS.b2] at this
        cases this
      clear hW4
      gi_wp2
      rw [← HW4.out]
      refine leaves_marks2 (W0 := W4) (S := fun i => i ∈ Ds) (v := .bool true) (fun W' hk => ?_) (fun W' hk => ?_) Ds W4 hTS.nd (fun d hd => ⟨hd, (hne d (fun e => hd2 (e ▸ hd))).trans (hTS.ms d hd).2⟩) (Kp.refl _ _)
      · have c5 : W'.cell? ⟨w.heap.size + 1 + 1, 0, none⟩ = some (.bool true) := (cells_block ((hk.block _ (blk_lt s2) hd2).trans s2)).1 0
        simp [results, Try.results10, go_sem, c5]
      · have hT := HTT.out
        have hls := hTS.ls
        have hkp := hTS.kp
        have hfo := hTS.fo
        have hoth := hTS.ls.other hTS.b2 (by decide)
        have hnot : ∀ i, Ow l hd T v' i → i ∉ Ds := fun i hi hd => hTS.ls.not (hTS.ms i hd).2 (fun _ _ e => by cases e) hi
        have hlt4 : ∀ i, i < W0.heap.size → i < W4.heap.size := fun i hi => by rw [HW4.out]; simpa using hi
        have hK4 : Kp w W4 (Ow l hd T v) := by rw [HW4.out]; exact hkp.setCell _ (Or.inr (by omega))
        have hL4 : Ls W' l hd T v' [] := hls.kept fun i hi => (hk.block i (hlt4 i (hls.lt hi)) (hnot i hi)).trans (hne i (fun e => hoth (e ▸ hi)))
        have hK5 : Kp w W' (Ow l hd T v) := hK4.trans hk (fun i hi => Or.inr (hTS.ms i hi).1)
        rw [hT] at hL4 hK5 hfo
        exact hRP.out v' W' hL4 hK5 hfo
    | succ m =>
      have hlt : (t : Int) < 2 := by omega
      obtain ⟨wr, hwr⟩ : ∃ wr, wr = W0.alloc (.cells #[.int .i64 0] 3) := ⟨_, rfl⟩
      have hbr : Below W0.heap.size W0 wr := by rw [hwr]; exact (Below.refl _ _).alloc (Nat.le_refl _) _
      have hrn : wr.heap[W0.heap.size]? = some (.cells #[.int .i64 ((0 : Nat) : Int)] 3 (0, 0)) := by rw [hwr]; exact heap_alloc_new _ _
      have hrs : wr.heap.size = W0.heap.size + 1 := by rw [hwr]; simp
      have HWR : Hid _ := hwr
      have HRS : Hid _ := hrs
      clear hwr hrs
      gi_wp2_with fail
      rw [← HWR.out]
      refine wp_range2 (by omega) rfl (enters_of Try.func37 (by kernel_rfl) rfl) ?_
      intro RR hRR
      have hbW : Below wr.heap.size wr ((wr.alloc (.deferred (some []))).alloc (.loop RR)) := ((Below.refl _ _).alloc (Nat.le_refl _) _).alloc (by simp) _
      have hW1 : ((wr.alloc (.deferred (some []))).alloc (.loop RR)).heap[wr.heap.size + 1]? = some (.loop RR) := by
        have := World.alloc_heap_new (wr.alloc (.deferred (some []))) (.loop RR)
        rwa [World.size_alloc] at this
      have hW2 : ((wr.alloc (.deferred (some []))).alloc (.loop RR)).heap[wr.heap.size]? = some (.deferred (some [])) := (Below.heap_alloc _ _ _ (by simp)).trans (World.alloc_heap_new wr _)
      obtain ⟨W1, hWW⟩ : ∃ W1, W1 = (wr.alloc (.deferred (some []))).alloc (.loop RR) := ⟨_, rfl⟩
      rw [← hWW] at hbW hW1 hW2 ⊢
      clear hWW ct
      have hb2 : Below W0.heap.size W0 W1 := below2 hbr hbW
      have hTS1 := hTS.below hb2
      obtain ⟨J, hJ⟩ : ∃ J : List Tw → (Nat → Prop) → Nat → World → Prop, J = fun T' F j W => TK W0 l hd T v' W0.heap.size wr.heap.size RR j T' F W ∧ (t = 0 → leave < 1 ∨ (j : Int) < leave) := ⟨_, rfl⟩
      obtain ⟨Jx, hJx⟩ : ∃ Jx : List Tw → (Nat → Prop) → World → Prop, Jx = fun T' F W => ∃ n, TK W0 l hd T v' W0.heap.size wr.heap.size { RR with state := .done, pending := some (.exit 2) } n T' F W ∧ t = 0 ∧ (n : Int) = leave ∧ 1 ≤ n ∧ n ≤ B.length := ⟨_, rfl⟩
      have hab : Abd J := by
        rw [hJ]
        intro T' F F' j W W' h hK hF
        exact ⟨h.1.abd hK hF, h.2⟩
      have habx : Abx Jx := by
        rw [hJx]
        intro T' F F' W W' h hK hF
        obtain ⟨n, h1, h2⟩ := h
        exact ⟨n, h1.abd hK hF, h2⟩
      have hOw : ∀ i, Ow l hd (A ++ B) v' i → i < W0.heap.size := fun i hi => hTS.ls.lt (by rw [HTT.out]; exact hi)
      have hL1 : Ls W1 l hd (A ++ B) v' [] := by rw [← HTT.out]; exact hTS1.ls
      have hJ0 : J (A ++ B) (Ow l hd (A ++ B) v') 0 W1 := by
        rw [hJ]
        have hrs := HRS.out
        refine ⟨⟨HTT.out.symm, Kp.of_below _ hb2, fun i hi => Or.inl (by rw [HTT.out]; exact hi), hW1, hW2, fun hf => ?_, fun hf => ?_, fun hf => ?_, (hbW.block _ (by omega)).trans hrn⟩, fun _ => by omega⟩
        · have := hOw _ hf; omega
        · have := hOw _ hf; omega
        · have := hOw _ hf; omega
      have hfr := from1_any l hd (w.heap.size + 1 + 1 + 1) (wr.heap.size + 1) A B v' row col W1 J Jx hab habx hTS1.bx hL1 hA hB ?_ hJ0
      · refine hfr.mono ?_
        clear hfr hJ0 hL1 hab habx hTS1
        rintro e W2 ⟨⟨u, rfl⟩, T', v2, hL', hj | hj⟩
        · rw [hJ] at hj
          obtain ⟨hj, hlv⟩ := hj
          refine ⟨⟨_, rfl⟩, Or.inl ⟨hj.rc, ?_⟩⟩
          have hT' := hj.eT
          subst hT'
          obtain ⟨hN, hnb⟩ := hTS.next hL' hj (Nat.le_refl _) (by have := HRS.out; omega) (.loop { RR with state := .exhausted })
          generalize W2.putObj (wr.heap.size + 1) (.loop { RR with state := .exhausted }) = W3 at *
          have HN : Hid _ := hN
          have cn : W3.cell? ⟨W0.heap.size, 0, none⟩ = some (.int .i64 (B.length : Int)) := (cells_block hnb).1 0
          have cq : W3.cell? ⟨w.heap.size, 0, none⟩ = some (.slice qw B.length cw) := (cells_block hN.b0).1 0
          have cl : W3.cell? ⟨w.heap.size + 1, 0, none⟩ = some (.int .i64 leave) := (cells_block hN.b1).1 0
          have ct : W3.cell? ⟨tb, 0, none⟩ = some (.int .i64 (t : Int)) := (cells_block hN.tn).1 0
          clear hj hnb hL' hN hJ hJx
          have ht : t = 0 ∨ t = 1 := by omega
          rcases ht with rfl | rfl
          · by_cases hl : leave < 1
            · gi_wp2
              unfold TI
              exact ⟨1, W3.heap.size, wr.heap.size :: Ds, v2, _, _, _, _, _, _, _, _, _, _, _, _, _, _, _, _, _, _, _, _, _, _, _, _, _, _, _, _, _, _, _, _, _, _, _, _, _, _, _, _, _, _, _, _, _, _, _, _, _, _, _, _, _, _, _, _, _, _, _, _, _, _, _, _, _, rfl, by omega, HN.out.turn 1⟩
            · have hmin : min leave (B.length : Int) = (B.length : Int) := by have := hlv rfl; omega
              gi_wp2
              unfold TI
              exact ⟨1, W3.heap.size, wr.heap.size :: Ds, v2, _, _, _, _, _, _, _, _, _, _, _, _, _, _, _, _, _, _, _, _, _, _, _, _, _, _, _, _, _, _, _, _, _, _, _, _, _, _, _, _, _, _, _, _, _, _, _, _, _, _, _, _, _, _, _, _, _, _, _, _, _, _, _, _, _, rfl, by omega, HN.out.turn 1⟩
          · gi_wp2
            unfold TI
            exact ⟨2, W3.heap.size, wr.heap.size :: Ds, v2, _, _, _, _, _, _, _, _, _, _, _, _, _, _, _, _, _, _, _, _, _, _, _, _, _, _, _, _, _, _, _, _, _, _, _, _, _, _, _, _, _, _, _, _, _, _, _, _, _, _, _, _, _, _, _, _, _, _, _, _, _, _, _, _, _, rfl, by omega, HN.out.turn 2⟩
        · rw [hJx] at hj
          obtain ⟨n, hj, rfl, hnl, hn1, hnB⟩ := hj
          refine ⟨⟨_, rfl⟩, Or.inr ⟨.exit 2, hj.rc, ?_⟩⟩
          have hT' := hj.eT
          subst hT'
          obtain ⟨hN, hnb⟩ := hTS.next hL' hj (Nat.le_refl _) (by have := HRS.out; omega) (.loop { RR with state := .exhausted, pending := some (.exit 2) })
          generalize W2.putObj (wr.heap.size + 1) (.loop { RR with state := .exhausted, pending := some (.exit 2) }) = W3 at *
          have HN : Hid _ := hN
          have cn : W3.cell? ⟨W0.heap.size, 0, none⟩ = some (.int .i64 leave) := by rw [← hnl]; exact (cells_block hnb).1 0
          have cq : W3.cell? ⟨w.heap.size, 0, none⟩ = some (.slice qw B.length cw) := (cells_block hN.b0).1 0
          have cl : W3.cell? ⟨w.heap.size + 1, 0, none⟩ = some (.int .i64 leave) := (cells_block hN.b1).1 0
          have ct : W3.cell? ⟨tb, 0, none⟩ = some (.int .i64 ((0 : Nat) : Int)) := (cells_block hN.tn).1 0
          have hl : ¬ leave < 1 := by omega
          have hmin : min leave (B.length : Int) = leave := by omega
          clear hj hnb hL' hN hJ hJx hnl
          gi_wp2
          unfold TI
          exact ⟨1, W3.heap.size, wr.heap.size :: Ds, v2, _, _, _, _, _, _, _, _, _, _, _, _, _, _, _, _, _, _, _, _, _, _, _, _, _, _, _, _, _, _, _, _, _, _, _, _, _, _, _, _, _, _, _, _, _, _, _, _, _, _, _, _, _, _, _, _, _, _, _, _, _, _, _, _, _, rfl, by omega, HN.out.turn 1⟩
      · clear hJ0 hL1 hTS1 hb2 hW1 hW2 hbW hab habx
        intro mm k X T' F j c W hc hm hX hS hj
        rw [hJ] at hj
        obtain ⟨hj, hlv⟩ := hj
        have key : ∀ RP : Ending → World → Prop, Hid (∀ W', Stt l hd k T' F ((B.map (fun t => t.c)).drop (j + 1)) W' → J T' (Un F X) (j + 1) W' → (∀ i, X i → ¬ F i ∧ W'.heap[i]? = W.heap[i]?) → RP (.returned (.bool true)) W') → Hid (∀ W', Stt l hd k T' F ((B.map (fun t => t.c)).drop (j + 1)) W' → Jx T' (Un F X) W' → (∀ i, X i → ¬ F i ∧ W'.heap[i]? = W.heap[i]?) → RP (.returned (.bool false)) W') → YieldAt Fence.wide mm Try.prog (wr.heap.size + 1) #[clV c] W RP := by
          intro RP hY hN
          have hb : Below W.heap.size W (W.alloc (.cells #[.string (bstr c.row), .string (bstr c.col), .int .u64 c.ver, .bool c.gone, .string (bstr c.val)] 34)) := (Below.refl _ _).alloc (Nat.le_refl _) _
          have hda : (W.alloc (.cells #[.string (bstr c.row), .string (bstr c.col), .int .u64 c.ver, .bool c.gone, .string (bstr c.val)] 34)).heap[W.heap.size]? = some (.cells #[.string (bstr c.row), .string (bstr c.col), .int .u64 c.ver, .bool c.gone, .string (bstr c.val)] 34 (0, 0)) := heap_alloc_new _ _
          refine yield_round2 hj.rc hRR rfl ?_
          have HC : Hid _ := hc
          have HJ : Hid _ := hJ
          have HJX : Hid _ := hJx
          clear hc hJ hJx
          gi_wp2
          generalize hWa : W.alloc (.cells #[.string (bstr c.row), .string (bstr c.col), .int .u64 c.ver, .bool c.gone, .string (bstr c.val)] 34) = Wa at *
          have hra := (hb.block _ (blk_lt hj.rc)).trans hj.rc
          refine ⟨_, run_beginRound hra hRR.s, ?_⟩
          have hjl : j < B.length := by
            rcases Nat.lt_or_ge j B.length with a | a
            · exact a
            · have hcc := HC.out
              rw [List.getElem?_eq_none (by rw [List.length_map]; exact a)] at hcc; cases hcc
          have hne : W.heap.size ≠ wr.heap.size + 1 := by have := blk_lt hj.rc; omega
          have hKb : Kp W (Wa.putObj (wr.heap.size + 1) (.loop { RR with state := .busy })) (fun i => i = wr.heap.size + 1) := (Kp.of_below _ hb).put _ (Or.inl rfl)
          have hdb := (World.putObj_heap_other (w := Wa) (o := .loop { RR with state := .busy }) hne).trans hda
          have hrb : (Wa.putObj (wr.heap.size + 1) (.loop { RR with state := .busy })).heap[wr.heap.size + 1]? = some (.loop { RR with state := .busy }) := World.putObj_heap_same (blk_lt hra)
          generalize Wa.putObj (wr.heap.size + 1) (.loop { RR with state := .busy }) = Wb at *
          have hfx : ∀ i, i < W0.heap.size → ¬ Ow l hd T v' i → Wb.heap[i]? = W0.heap[i]? := fun i hi hn => (hKb.block i (by have := hj.kp.size; omega) (by have := HRS.out; omega)).trans (hj.kp.block i hi hn)
          have bq := (hfx _ (blk_lt hTS.b0) (hTS.ls.other hTS.b0 (by decide))).trans hTS.b0
          have bl := (hfx _ (blk_lt hTS.b1) (hTS.ls.other hTS.b1 (by decide))).trans hTS.b1
          have bt := (hfx _ (blk_lt hTS.tn) (hTS.ls.other hTS.tn (by decide))).trans hTS.tn
          have bn := (hKb.block _ (blk_lt hj.nn) (by have := HRS.out; omega)).trans hj.nn
          obtain ⟨rfl, hgR, hgl, hgo⟩ := hw (by omega)
          have hg0 : W0.heap[gw]? = w.heap[gw]? := hTS.kp.block gw hgl (by rw [HTT.out]; exact hgo)
          have hg1 : Wb.heap[gw]? = W0.heap[gw]? := hfx gw (by have := hTS.kp.size; omega) (fun ho => by
            rcases hTS.fo gw ho with q | q
            · exact hgo (by rw [← HTT.out]; exact q)
            · omega)
          have hgR' : CRow Wb gw ow (B.map fun t => t.c) := hgR.block (hg1.trans hg0)
          have hjm : j < (B.map fun t => t.c).length := by rw [List.length_map]; exact hjl
          have hLj : (B.map fun t => t.c)[j] = c := by
            have hcc := HC.out
            rw [List.getElem?_eq_getElem hjm] at hcc
            simpa using hcc
          obtain ⟨g0, g1, g2, g3, g4⟩ := hgR' j hjm
          rw [hLj] at g0 g1 g2 g3 g4
          have heq := eqC_self c
          have cn : Wb.cell? ⟨W0.heap.size, 0, none⟩ = some (.int .i64 (j : Int)) := (cells_block bn).1 0
          have cbb : Wb.cell? ⟨w.heap.size, 0, none⟩ = some (.slice (some ⟨gw, ow, none⟩) B.length cw) := (cells_block bq).1 0
          have hjz : (j : Int) < (B.length : Int) := by omega
          have hjd : decide ((B.length : Int) ≤ (j : Int)) = false := by simp; omega
          have d0 : Wb.cell? ⟨W.heap.size, 0, none⟩ = some (.string (bstr c.row)) := (cells_block hdb).1 0
          have d1 : Wb.cell? ⟨W.heap.size, 1, none⟩ = some (.string (bstr c.col)) := (cells_block hdb).1 1
          have d2 : Wb.cell? ⟨W.heap.size, 2, none⟩ = some (.int .u64 c.ver) := (cells_block hdb).1 2
          have d3 : Wb.cell? ⟨W.heap.size, 3, none⟩ = some (.bool c.gone) := (cells_block hdb).1 3
          have d4 : Wb.cell? ⟨W.heap.size, 4, none⟩ = some (.string (bstr c.val)) := (cells_block hdb).1 4
          have hmx : Try.prog.follows .mixedOrders = true := by kernel_rfl
          clear hLj hgR' hgR hWa hjm hg0 hg1
          gi_wp2
          apply cut_same
          case h =>
            intro main
            gi_region_o
            all_goals exact main.out
          clear g0 g1 g2 g3 g4 d0 d1 d2 d3 d4 hjd heq cbb cn hmx
          have blc : Wb.drew.heap[w.heap.size + 1]? = _ := bl
          have btc : Wb.drew.heap[tb]? = _ := bt
          have bnc : Wb.drew.heap[W0.heap.size]? = _ := bn
          have hrc : Wb.drew.heap[wr.heap.size + 1]? = _ := hrb
          have hKc : Kp W Wb.drew (fun i => i = wr.heap.size + 1) := hKb.drew
          clear bq bl bt bn hrb hKb hdb hfx
          generalize Wb.drew = Wc at *
          have hUn : ∀ i, Un F X i → i < W.heap.size ∧ ¬ (i = wr.heap.size + 1 ∨ i = W0.heap.size) := fun i hi => by
            refine ⟨?_, ?_⟩
            · rcases hi with hi | hi
              · obtain ⟨_, _, _, _, _, hSS⟩ := hS
                exact hSS.lt i hi
              · exact (hX i hi).1
            · rintro (rfl | rfl)
              · exact hj.nl hi
              · exact hj.nbf hi
          have fin : ∀ LR : Loop, Stt l hd k T' F ((B.map (fun t => t.c)).drop (j + 1)) ((Wc.setCell ⟨W0.heap.size, 0, none⟩ (.int .i64 ((j : Int) + 1))).putObj (wr.heap.size + 1) (.loop LR)) ∧ TK W0 l hd T v' W0.heap.size wr.heap.size LR (j + 1) T' (Un F X) ((Wc.setCell ⟨W0.heap.size, 0, none⟩ (.int .i64 ((j : Int) + 1))).putObj (wr.heap.size + 1) (.loop LR)) ∧ (∀ i, X i → ¬ F i ∧ ((Wc.setCell ⟨W0.heap.size, 0, none⟩ (.int .i64 ((j : Int) + 1))).putObj (wr.heap.size + 1) (.loop LR)).heap[i]? = W.heap[i]?) := by
            intro LR
            have hrs := HRS.out
            have hKd : Kp W Wc (fun i => i = wr.heap.size + 1 ∨ i = W0.heap.size) := hKc.mono fun i hi => Or.inl (Or.inl hi)
            have hK5 : Kp W ((Wc.setCell ⟨W0.heap.size, 0, none⟩ (.int .i64 ((j : Int) + 1))).putObj (wr.heap.size + 1) (.loop LR)) (fun i => i = wr.heap.size + 1 ∨ i = W0.heap.size) := (hKd.setCell _ (Or.inl (Or.inr rfl))).put _ (Or.inl (Or.inl rfl))
            refine ⟨hS.kept hK5.size fun i hi => hK5.block i (hUn i (Or.inl hi)).1 (hUn i (Or.inl hi)).2, ⟨hj.eT, hj.kp.trans hK5 (fun i hi => Or.inr (by omega)), hj.fo, World.putObj_heap_same ?_, (hK5.block _ (blk_lt hj.df) (by omega)).trans hj.df, hj.nl, hj.nd, hj.nbf, ?_⟩, fun i hi => ⟨(hX i hi).2, hK5.block i (hUn i (Or.inr hi)).1 (hUn i (Or.inr hi)).2⟩⟩
            · exact blk_lt ((heap_set_other (w := Wc) (b := W0.heap.size) (o := 0) (.int .i64 ((j : Int) + 1)) (by omega)).trans hrc)
            · rw [World.putObj_heap_other (by omega), heap_set_same bnc]
              rfl
          have FIN : Hid _ := fin
          have hrd : (Wc.setCell ⟨W0.heap.size, 0, none⟩ (.int .i64 ((j : Int) + 1))).heap[wr.heap.size + 1]? = some (.loop { RR with state := .busy }) := (heap_set_other _ (by have := HRS.out; omega)).trans hrc
          have htl := blk_lt hTS.tn
          have hll := blk_lt hTS.b1
          have cn : Wc.cell? ⟨W0.heap.size, 0, none⟩ = some (.int .i64 (j : Int)) := (cells_block bnc).1 0
          have fn : Wc.frozen? ⟨W0.heap.size, 0, none⟩ = false := (cells_block bnc).2 0
          have e1 : (Wc.setCell ⟨W0.heap.size, 0, none⟩ (.int .i64 ((j : Int) + 1))).cell? ⟨W0.heap.size, 0, none⟩ = some (.int .i64 ((j : Int) + 1)) := (cells_block (heap_set_same bnc _)).1 0
          have e2 : (Wc.setCell ⟨W0.heap.size, 0, none⟩ (.int .i64 ((j : Int) + 1))).cell? ⟨tb, 0, none⟩ = some (.int .i64 (t : Int)) := (cells_block ((heap_set_other _ (by omega)).trans btc)).1 0
          have e3 : (Wc.setCell ⟨W0.heap.size, 0, none⟩ (.int .i64 ((j : Int) + 1))).cell? ⟨w.heap.size + 1, 0, none⟩ = some (.int .i64 leave) := (cells_block ((heap_set_other _ (by omega)).trans blc)).1 0
          have e5 : ({ state := if (none : Option Code).isNone = true then LoopState.ready else LoopState.done, pending := none, fn := RR.fn, tmps := RR.tmps, params := RR.params, assign := RR.assign, body := RR.body, defers := RR.defers } : Loop) = RR := by
            have e1 := hRR.s
            have e2 := hRR.e
            cases RR
            simp_all
          have hjn : ¬ B.length ≤ j := by omega
          have hjb : (j : Int) < 1000000 := by omega
          have hj0 : (0 : Int) ≤ (j : Int) := by omega
          have HLV : Hid _ := hlv
          have HE5 : Hid _ := e5
          have HHJ : Hid _ := hj
          have HRD : Hid _ := hrd
          clear fin hUn hlv hS hX hKc bnc blc btc hrc hrd htl hll e5 hb hda hra hj hne hw hgo hgl hOw hbr hrn hm hjz
          have HTSS : Hid _ := hTS
          have HHR : Hid _ := hRR
          have HJLL : Hid _ := hjl
          clear hTS hRR hjl
          have ht : t = 0 ∨ t = 1 := by omega
          have hwp : wrap64 ((j : Int) + 1) = (j : Int) + 1 := by unfold wrap64; omega
          clear htm hlt hjb hj0 h1 h2 hn HS hRP hA hB HC HWR h hb01
          rcases ht with rfl | rfl
          · by_cases hl : (j : Int) + 1 = leave
            · have hl1 : ((j : Int) + 1 == leave) = true := by simpa using hl
              have hl2 : decide ((j : Int) + 1 = leave) = true := by simpa using hl
              have HL : Hid _ := hl
              clear hl
              gi_wp2
              refine ⟨_, _, run_endRound (r := { RR with state := .busy }) (some (.exit 2)) HRD.out, ?_⟩
              obtain ⟨y1, y2, y3⟩ := FIN.out { RR with state := .done, pending := some (.exit 2) }
              refine hN.out _ y1 ?_ y3
              rw [HJX.out]
              exact ⟨j + 1, y2, by trivial, by have := HL.out; omega, by omega, by have := HJLL.out; omega⟩
            · have hl1 : ((j : Int) + 1 == leave) = false := by simpa using hl
              have hl2 : decide ((j : Int) + 1 = leave) = false := by simpa using hl
              have HL : Hid _ := hl
              gi_wp2
              refine ⟨_, _, run_endRound (r := { RR with state := .busy }) none HRD.out, ?_⟩
              show RP _ (World.putObj _ _ (Obj.loop _))
              rw [HE5.out]
              obtain ⟨y1, y2, y3⟩ := FIN.out RR
              refine hY.out _ y1 ?_ y3
              rw [HJ.out]
              exact ⟨y2, fun _ => by have := HLV.out (by trivial); have := HL.out; omega⟩
          · gi_wp2
            refine ⟨_, _, run_endRound (r := { RR with state := .busy }) none HRD.out, ?_⟩
            show RP _ (World.putObj _ _ (Obj.loop _))
            rw [HE5.out]
            obtain ⟨y1, y2, y3⟩ := FIN.out RR
            refine hY.out _ y1 ?_ y3
            rw [HJ.out]
            exact ⟨y2, fun h => (by omega)⟩
        exact key _ (fun W' h1 h2 h3 => Or.inl ⟨rfl, T', F, h1, h2, h3⟩) (fun W' h1 h2 h3 => Or.inr ⟨rfl, T', F, _, h1, h2, h3⟩)

end Go.Proofs.Ytijfmgpipnhkkaa
