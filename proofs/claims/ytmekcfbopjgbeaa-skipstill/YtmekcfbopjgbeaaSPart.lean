/-
  The contract of part where a walk is under way: it is given its cells.
-/
import Derived.Test.YtmekcfbopjgbeaaSLst
import Derived.Deep.RegionHeld3
namespace Go.Proofs.Ytmekcfbopjgbeaa
open Go.RowKit Go.BigFrame Go.Sort
attribute [local go_sem] size_bstr toList_bstr ls_def

theorem step_app_own {P : Program} {w : World} {ops : Array Oper} {o : Oper} {a : Act} {K : Act → World → Prop} {Q : Exit → Act → World → Prop} {E : Prop} (hgd : o.guard = none) (s x : Operand) (t : TypeId)
    (ho : o.op = .call { callee := .builtin .append, args := #[s, x], argTypes := #[t, t] }) (base : Nat) (e : TypeId) (i : TypeInfo) (z : Value) (size bytes : Nat) (h1 : P.underlying t = some (.slice e)) (h2 : P.info? e = some i) (h3 : i.zero = some z) (h4 : i.size = size) (h5 : i.bytes = bytes) (h6 : z.cells.size = size) (h7 : 0 < size)
    (v : Value) (k : Nat) (xs : List Value) (hs : a.eval s = v) (hown : w.ownsRow base e size v k xs) (ad : Addr) (m c : Nat) (news : List Value) (hm : 0 < m) (hx : a.eval x = .slice (some ad) m c) (hn : news.length = m * size)
    (hc : ∀ j u, news[j]? = some u → w.cell? (ad.add j) = some u) (h1c : ∀ u ∈ news, u.oneCell' = true) (b1 : k + m ≤ maxLen) (b2 : (k + m) * bytes ≤ 140737488355328) (b3 : base ≤ w.heap.size)
    (hK : ∀ v' w', w'.ownsRow base e size v' (k + m) (xs ++ news) → w.grownBy w' v.ownBlock → (v'.ownBlock = v.ownBlock ∨ v'.ownBlock = some w.heap.size) → K (a.put o.dst v') w') :
    if Region.wanted o (yielded ops a.tmps) = true then Oper.wp P o a w K Q else E := by
  have hw : Region.wanted o (yielded ops a.tmps) = true := by simp [Region.wanted, hgd]
  rw [if_pos hw]
  obtain ⟨v', w', hrun, r1, r2, r3⟩ := run_append_own (P := P) w base t o.type e i z size bytes h1 h2 h3 h4 h5 h6 h7 v k xs hown ad m c news hn hc h1c b1 b2 b3
  have hw := append_at (P := P) h1 h2 h3 h4 h5 hown hm hn hc h1c b1 b2 hrun
  unfold Oper.wp
  simp [execOp, ho, resolve, invoke, builtin, hs, hx, hrun, Result.andThen]
  exact hK v' w' r1 r2 hw

/-- What the inner loop of part keeps: what stands from B on is yet to be copied. -/
structure PJ (w : World) (k : Nat) (B0 : List Tw) (B : List Tw) (C : List Tw) (W : World) (rv : Value) : Prop where
  eq : B0 = C ++ B
  kp : Kp w W (fun i => i = k)
  blk : W.heap[k]? = some (.cells #[pt (nxt 0 B), rv] 97 (0, 0))
  own : W.ownsRow w.heap.size 34 5 rv C.length (ccells (C.map (fun t => t.c)))
/-- How many towers are ahead of a walk. -/
def remW (T : List Tw) (k : Nat) (w : World) : Nat := match w.cell? ⟨k, 0, none⟩ with
  | some (.pointer (some a)) => T.length + 1 - posOf T (.pointer (some a))
  | _ => 0
theorem remW_none {T : List Tw} {k : Nat} {w : World} (h : w.cell? ⟨k, 0, none⟩ = some (.pointer none)) : remW T k w = 0 := by simp [remW, h]
theorem remW_some {A B T : List Tw} {u : Tw} {k : Nat} {w : World} (h : w.cell? ⟨k, 0, none⟩ = some (pt (some u.b))) (hT : T = A ++ u :: B) (hn : (T.map (fun t => t.b)).Nodup) : remW T k w = T.length + 1 - A.length := by
  rw [pt_some] at h
  simp only [remW, h]
  have := posOf_at (hT ▸ hn)
  rw [pt_some, ← hT] at this
  rw [this]
theorem remW_next {A B T : List Tw} {u : Tw} {k : Nat} {w w' : World} (h : w.cell? ⟨k, 0, none⟩ = some (pt (some u.b))) (h' : w'.cell? ⟨k, 0, none⟩ = some (pt (nxt 0 B))) (hT : T = A ++ u :: B) (hn : (T.map (fun t => t.b)).Nodup) (hg : ∀ t ∈ T, 0 < t.h) : remW T k w' < remW T k w := by
  rw [remW_some h hT hn]
  have hl := congrArg List.length hT
  simp only [List.length_append, List.length_cons] at hl
  cases B with
  | nil => rw [nxt_nil, pt_none] at h'; rw [remW_none h']; omega
  | cons x B =>
    rw [nxt_cons_yes (hg x (by rw [hT]; simp))] at h'
    rw [remW_some (A := A ++ [u]) (B := B) h' (by rw [hT]; simp) hn]
    simp only [List.length_append, List.length_singleton]
    omega
theorem own_succ {w : World} {B : Nat} {e : TypeId} {sz : Nat} {v : Value} {n : Nat} {xs : List Value} (h : w.ownsRow B e sz v (n + 1) xs) : ∃ q cap, v = .slice q (n + 1) cap := by
  rcases h.2 with ⟨_, e0⟩ | ⟨g, cap, cur, e, _⟩
  · omega
  · exact ⟨_, _, e⟩
theorem enc_one (c : Cl) : ∀ u ∈ encC c, u.oneCell' = true := by simp [encC, Value.oneCell']
theorem PJ.start {l hd k : Nat} {T : List Tw} {F : Nat → Prop} {R : List Cl} {w : World} {v : Value} {xs : List Value} {B : List Tw} {rs : List Cl} (h : St l hd k T F R w v xs B (.slice none 0 0) rs) : PJ w k B B [] w (.slice none 0 0) :=
  ⟨rfl, Kp.refl _ _, h.blk, ⟨rfl, Or.inl ⟨rfl, rfl⟩⟩⟩

set_option maxHeartbeats 4000000 in
set_option maxRecDepth 100000 in
theorem part_one (l hd k : Nat) (T : List Tw) (F : Nat → Prop) (R : List Cl) (w : World) (v : Value) (B : List Tw) (rest : Value) (rs : List Cl) (h : St l hd k T F R w v [pt (some k)] B rest rs) (hlen : T.length ≤ 1000000) :
    Calls Try.prog 31 #[.pointer (some ⟨l, 0, none⟩)] w fun e w' => (∃ u, e = .returned u) ∧ Ls w' l hd T (.slice none 0 0) [] ∧ (∃ rest', w'.heap[k]? = some (.cells #[.pointer none, rest'] 97 (0, 0)) ∧ w'.ownsRow w.heap.size 34 5 rest' R.length (ccells R)) ∧ Kp w w' (fun i => i = l ∨ i = k) := by
  obtain ⟨i0, hi0, hz0, hz1, hz2⟩ := info_parts Try.infoCell
  have hwk := h.ls.blk.walks
  obtain ⟨rfl, rfl⟩ : rest = .slice none 0 0 ∧ rs = [] := by
    rcases h.way with ⟨_, a, b⟩ | ⟨a, _⟩
    · exact ⟨a, b⟩
    · cases a
  have hR : R = B.map (fun t => t.c) := by rw [h.all]; simp
  obtain ⟨A, hA⟩ := h.suf
  have hBl : B.length ≤ 1000000 := by
    have := congrArg List.length hA
    simp only [List.length_append] at this
    omega
  obtain ⟨g, off, cap, rfl, hx⟩ := h.ls.row.cell (i := 0) (by simp)
  simp only [List.length_singleton, Nat.add_zero, List.getElem_cons_zero, pt_some] at hwk hx
  have hko := walk_ne h.blk h.ls
  have hnd : (T.map (fun t => t.b)).Nodup := (List.nodup_cons.1 h.ls.ch.nd).2
  have hgk : g ≠ k := fun e => hko (Or.inr (Or.inr (Or.inr (by rw [e]; rfl))))
  have hlk : l ≠ k := fun e => hko (Or.inl e.symm)
  have hS := PJ.start h
  have HR : Hid _ := hR
  have HH : Hid _ := h
  have HA : Hid _ := hA
  clear hR h hA
  go_enter Try.func31, Try.ntmps31
  go_wp2
  go_loopw [9] (fun s9 wr => (s9 = .int .i64 0 ∧ wr = w) ∨ (s9 = .int .i64 1 ∧ ∃ rv, PJ w k B [] B wr rv)) (fun s9 _ => (1 - intOf s9).toNat)
  case atStart => exact Or.inl ⟨rfl, rfl⟩
  case round =>
    rcases hrel with ⟨rfl, ew⟩ | ⟨rfl, rv, hJ⟩
    · have ew' := ew.symm
      subst ew'
      clear ew
      go_wp2
      go_loopw [] (fun wr => ∃ B' C rv, PJ w k B B' C wr rv) (fun wr => remW T k wr)
      case atStart => exact ⟨B, [], _, hS⟩
      case round =>
        obtain ⟨B', C, rv, hJ⟩ := hrel
        have hls := HH.out.ls
        have hsz := hJ.kp.size
        cases B' with
        | nil =>
          have hb := hJ.blk
          rw [nxt_nil, pt_none] at hb
          obtain ⟨k0, k1, k2, k3⟩ := walk_cells hb
          go_wp2
          refine ⟨Or.inr ⟨rfl, rv, ?_⟩, by simp [intOf]⟩
          have eC := hJ.eq
          rw [List.append_nil] at eC
          subst eC
          exact hJ
        | cons u B' =>
          have hT : T = (A ++ C) ++ u :: B' := by rw [HA.out, hJ.eq]; simp
          have hu0 : 0 < u.h := (hls.hgt u (by rw [hT]; simp)).1
          have hU0 := hls.ch.at_ (hdT hd :: (A ++ C)) u B' (by rw [hT]; rfl)
          have huk : u.b ≠ k := fun e => hko (Or.inr (Or.inr (Or.inl ⟨u, by rw [hT]; simp, e.symm⟩)))
          have hU : TwAt wr u.b u.c (lnk u B') := (hJ.kp.block _ hU0.lt huk).trans hU0
          have hb := hJ.blk
          rw [nxt_cons_yes hu0] at hb
          have HM : Hid _ := (walk_cells hb).1
          rw [pt_some] at hb
          obtain ⟨k0, k1, k2, k3⟩ := walk_cells hb
          obtain ⟨c0, c1, c2, c3, c4⟩ := hU.cells
          have hCl : C.length < 1000000 := by
            have := congrArg List.length hJ.eq
            simp only [List.length_append, List.length_cons] at this
            omega
          have hlu : lnk u B' 0 = nxt 0 B' := by simp [lnk, hu0]
          have HT : Hid _ := hT
          have HLU : Hid _ := hlu
          have hown := hJ.own
          have hrk : rv.ownBlock ≠ some k := fun e => by
            have := (own_blk_lt hown e).2.1
            have := blk_lt HH.out.blk
            omega
          have hru : rv.ownBlock ≠ some u.b := fun e => by
            have := (own_blk_lt hown e).2.1
            have := hU0.lt
            omega
          have hstep : ∀ {w4 : World}, ((wr.alloc (.cells #[.string (bstr u.c.row), .string (bstr u.c.col), .int .u64 u.c.ver, .bool u.c.gone, .string (bstr u.c.val)] 34)).drew).grownBy w4 rv.ownBlock → Kp wr w4 (fun i => rv.ownBlock = some i) := fun hgr => (Kp.of_below _ ((Below.refl _ _).alloc (Nat.le_refl _) _).drew).trans (Kp.of_grown hgr (fun k e => e)) (fun i hi => Or.inl hi)
          have hal : Below wr.heap.size wr (wr.alloc (.cells #[.string (bstr u.c.row), .string (bstr u.c.col), .int .u64 u.c.ver, .bool u.c.gone, .string (bstr u.c.val)] 34)) := (Below.refl _ _).alloc (Nat.le_refl _) _
          clear hT hlu hU0
          go_wp2_with fail
          have ha1 := hal.cell (p := ⟨k, 1, none⟩) (blk_lt hb)
          have ha0 := hal.cell (p := ⟨k, 0, none⟩) (blk_lt hb)
          rw [k1] at ha1
          rw [k0] at ha0
          obtain ⟨a0, a1, a2, a3, a4⟩ := (TwAt.below hU hal).cells
          go_region_law
            (first
              | (refine step_app_own (by rfl) _ _ 25 (by rfl) w.heap.size 34 i0 (.agg #[.string ⟨#[]⟩, .string ⟨#[]⟩, .int .u64 0, .bool false, .string ⟨#[]⟩]) 5 64 Try.underlying25 hi0 hz0 hz1 hz2 rfl (by decide) rv C.length _ (by rfl) (hown.alloc _).drew ⟨wr.heap.size, 0, none⟩ 1 1 (encC u.c) (by omega) (by rfl) rfl (cell_news wr u.c 34) (enc_one _) (by unfold maxLen; omega) (by omega) (by simp; omega) ?_; intro v4 w4 hown4 hgr4 hv4; obtain ⟨q4, cap4, rfl⟩ := own_succ hown4; have hW4 := hstep hgr4; have hk4 := (hW4.block k (blk_lt hb) hrk).trans hb; have hU4 : TwAt w4 u.b u.c (lnk u B') := (hW4.block u.b hU.lt hru).trans hU; obtain ⟨d0, d1, d2, d3⟩ := walk_cells hk4; obtain ⟨e0, e1, e2, e3, e4⟩ := hU4.cells))
          all_goals
            obtain ⟨w5, hw5⟩ : ∃ w5, w5 = w4.setCell ⟨k, 1, none⟩ (.slice q4 (C.length + 1) cap4) := ⟨_, rfl⟩
            have hb5 := (walk_set hk4 (.slice q4 (C.length + 1) cap4)).2
            have hU5 : TwAt (w4.setCell ⟨k, 1, none⟩ (.slice q4 (C.length + 1) cap4)) u.b u.c (lnk u B') := (heap_set_other _ huk).trans hU4
            have hK5 : Kp wr (w4.setCell ⟨k, 1, none⟩ (.slice q4 (C.length + 1) cap4)) (fun i => rv.ownBlock = some i ∨ i = k) := (hW4.mono fun i hi => Or.inl (Or.inl hi)).setCell _ (Or.inl (Or.inr rfl))
            have hO5 : (w4.setCell ⟨k, 1, none⟩ (.slice q4 (C.length + 1) cap4)).ownsRow w.heap.size 34 5 (.slice q4 (C.length + 1) cap4) (C.length + 1) (ccells (C.map (fun t => t.c)) ++ encC u.c) := own_kept hown4 fun i hi => heap_set_other _ (fun e => by
              have := (own_blk_lt hown4 hi).2.1
              have := blk_lt HH.out.blk
              omega)
            rw [← hw5] at hb5 hU5 hK5 hO5 ⊢
            clear hw5 hk4 hU4 hW4 hown4 hgr4 hv4 a0 a1 a2 a3 a4 ha0 ha1 c0 c1 c2 c3 c4 k0 k1 k2 k3 d0 d1 d2 d3 e0 e1 e2 e3 e4 hU hb hown hstep hal
            obtain ⟨k0, k1, k2, k3⟩ := walk_cells hb5
            have hn := hU5.next (n := 0) (by omega)
            rw [HLU.out] at hn
            obtain ⟨q, hq⟩ : ∃ q, pt (nxt 0 B') = Value.pointer q := by cases nxt 0 B' <;> exact ⟨_, rfl⟩
            rw [hq] at hn
            have HQ : Hid _ := hq
            clear hq
            simp only [Nat.add_zero] at hn
            go_wp2
            have hb6 := (walk_set hb5 (.pointer q)).1
            rw [← HQ.out] at hb6
            refine ⟨⟨B', C ++ [u], .slice q4 (C.length + 1) cap4, by rw [hJ.eq]; simp, ?_, ?_, ?_⟩, ?_⟩
            · rw [← HQ.out]
              refine (hJ.kp.trans hK5 fun i hi => ?_).setCell _ (Or.inl rfl)
              rcases hi with hi | hi
              · exact Or.inr (own_blk_lt hJ.own hi).2.1
              · exact Or.inl hi
            · rw [← HQ.out]
              exact hb6
            · have e1 : ccells ((C ++ [u]).map (fun t => t.c)) = ccells (C.map (fun t => t.c)) ++ encC u.c := by simp [ccells]
              rw [e1, List.length_append, List.length_singleton, ← HQ.out]
              exact own_kept hO5 fun i hi => heap_set_other _ (fun e => by
                have := (own_blk_lt hO5 hi).2.1
                have := blk_lt HH.out.blk
                omega)
            · rw [← HQ.out]
              exact remW_next HM.out (walk_cells hb6).1 HT.out hnd (fun t ht => (hls.hgt t ht).1)
    · have hls := HH.out.ls
      have hb := (hJ.kp.block l hls.blk.lt hlk).trans hls.blk
      have hfr := LsAt.free hb 13
      have hw13 := LsAt.walks hb
      go_wp2
      go_end0
      have hb2 := hJ.blk
      rw [nxt_nil, pt_none] at hb2
      have hL1 : Ls wr l hd T (.slice (some ⟨g, off, none⟩) [pt (some k)].length cap) [pt (some k)] := hls.kept fun i hi => hJ.kp.block i (hls.lt hi) (fun e => hko (e ▸ hi))
      refine ⟨⟨_, rfl⟩, hL1.setW, ⟨rv, (heap_set_other _ (fun e => hlk e.symm)).trans hb2, ?_⟩, (hJ.kp.mono fun i hi => Or.inl (Or.inr hi)).setCell _ (Or.inl (Or.inl rfl))⟩
      have hO := hJ.own
      rw [HR.out, List.length_map]
      exact own_kept hO fun i hi => heap_set_other _ (fun e => by
        have := (own_blk_lt hO hi).2.1
        have := hls.blk.lt
        omega)

end Go.Proofs.Ytmekcfbopjgbeaa
