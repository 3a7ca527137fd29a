/-
  Whole numbers taken, how many first: a new row of them.
  The document's Same: of two rows of numbers, of two entries; numbers in memory of their own.
-/
import Derived.Test.YtbdbefgfejdbjaaGreatGOMod
import Derived.Test.YtbdbefgfejdbjaaGreatGOLst
import Derived.Laws.AppendOwn
import Derived.Laws.AppendOwnNone
import Derived.Test.YtbdbefgfejdbjaaGreatGOSm
namespace Go.Proofs.YtbdbefgfejdbjaaGreat
open Go.RowKit Go.BigFrame
attribute [local go_sem] size_bstr toList_bstr

theorem append_at {P : Program} {w w' : World} {base : Nat} {t ty e : TypeId} {i : TypeInfo} {z : Value} {size bytes : Nat} (ht : P.underlying t = some (.slice e)) (hi : P.info? e = some i) (hz : i.zero = some z) (hsize : i.size = size) (hby : i.bytes = bytes)
    {v v' : Value} {n : Nat} {xs : List Value} (hown : w.ownsRow base e size v n xs) {ad : Addr} {m c : Nat} {news : List Value} (hm : 0 < m) (hl : news.length = m * size) (hnews : ∀ j u, news[j]? = some u → w.cell? (ad.add j) = some u) (h1 : ∀ u ∈ news, u.oneCell' = true)
    (h63 : n + m ≤ maxLen) (hbytes : (n + m) * bytes ≤ 140737488355328) (hr : (Builtin.append_ #[t, t] ty #[v, .slice (some ad) m c]).run P w = .ok v' w') : v'.ownBlock = v.ownBlock ∨ v'.ownBlock = some w.heap.size := by
  have hsmall : n + m ≤ 9223372036854775807 := by simp only [maxLen] at h63; omega
  have hxl : xs.length = n * size := hown.1
  subst hsize hby
  rcases hown.2 with ⟨rfl, rfl⟩ | ⟨g, cap, cur, rfl, hbg, hg, hnc, hcm, hcs, htake⟩
  · have hr2 := run_append_nil (P := P) w t ty e i z ht hi hz ad m c news hl hnews hm (by omega) (by rw [Nat.zero_add] at hbytes; omega)
    rw [hr2] at hr
    cases hr
    exact Or.inr rfl
  · by_cases hroom : n + m ≤ cap
    · have hfit : n * i.size + news.length ≤ cur.size := by
        rw [hl, hcs, ← Nat.add_mul]
        exact Nat.mul_le_mul_right _ hroom
      have hr2 := run_append_room (P := P) w t ty e i ht hi g n cap cur hg ad m c news hl hnews h1 hroom hfit
      rw [hr2] at hr
      cases hr
      exact Or.inl rfl
    · have holds : ∀ j u, xs[j]? = some u → w.cell? ((⟨g, 0, none⟩ : Addr).add j) = some u := hown.cells (g := g) rfl
      have hr2 := run_append_grow (P := P) w t ty e i z ht hi hz ⟨g, 0, none⟩ n cap xs hxl holds ad m c news hl hnews (by omega) (by omega) (growslice_fits (by omega) hbytes)
      rw [hr2] at hr
      cases hr
      exact Or.inr rfl
theorem wpList_app {P : Program} {w : World} {ops : Array Oper} {rest : List Oper} {o : Oper} {a : Act} {Q : Exit → Act → World → Prop} (hgd : o.guard = none) (s x : Operand) (t : TypeId)
    (ho : o.op = .call { callee := .builtin .append, args := #[s, x], argTypes := #[t, t] }) (base : Nat) (e : TypeId) (i : TypeInfo) (z : Value) (size bytes : Nat) (h1 : P.underlying t = some (.slice e)) (h2 : P.info? e = some i) (h3 : i.zero = some z) (h4 : i.size = size) (h5 : i.bytes = bytes) (h6 : z.cells.size = size) (h7 : 0 < size)
    (v : Value) (k : Nat) (xs : List Value) (hs : a.eval s = v) (hown : w.ownsRow base e size v k xs) (ad : Addr) (m c : Nat) (news : List Value) (hm : 0 < m) (hx : a.eval x = .slice (some ad) m c) (hn : news.length = m * size)
    (hc : ∀ j u, news[j]? = some u → w.cell? (ad.add j) = some u) (h1c : ∀ u ∈ news, u.oneCell' = true) (b1 : k + m ≤ maxLen) (b2 : (k + m) * bytes ≤ 140737488355328) (b3 : base ≤ w.heap.size)
    (hK : ∀ v' w', w'.ownsRow base e size v' (k + m) (xs ++ news) → w.grownBy w' v.ownBlock → (v'.ownBlock = v.ownBlock ∨ v'.ownBlock = some w.heap.size) → wpList P ops Q rest (a.put o.dst v') w') : wpList P ops Q (o :: rest) a w := by
  refine wpList_plain hgd fun K hK' => ?_
  obtain ⟨v', w', hrun, r1, r2, r3⟩ := run_append_own (P := P) w base t o.type e i z size bytes h1 h2 h3 h4 h5 h6 h7 v k xs hown ad m c news hn hc h1c b1 b2 b3
  have hw := append_at (P := P) h1 h2 h3 h4 h5 hown hm hn hc h1c b1 b2 hrun
  unfold Oper.wp
  simp [execOp, ho, resolve, invoke, builtin, hs, hx, hrun, Result.andThen]
  exact hK' _ _ (hK v' w' r1 r2 hw)

theorem Tryz.infoInt : (Tryz.prog.info? 3).map (fun i => (i.zero, i.size, i.bytes)) = some (some (.int .i64 0), 1, 8) := by kernel_rfl
theorem own_kt {w w' : World} {B e size n g na : Nat} {v : Value} {xs : List Value} (h : w.ownsRow B e size v n xs) (hk : Kt g na w w') (h1 : g < B) (h2 : na < B) : w'.ownsRow B e size v n xs := by
  rcases h.2 with h0 | ⟨b, cap, cur, hv, hbg, hg, r⟩
  · exact ⟨h.1, .inl h0⟩
  · exact ⟨h.1, .inr ⟨b, cap, cur, hv, hbg, (hk.2 b (blk_lt hg) (by omega) (by omega)).trans hg, r⟩⟩
theorem own_base {w : World} {B e size n : Nat} {v : Value} {xs : List Value} (h : w.ownsRow B e size v n xs) {k : Nat} (hk : v.ownBlock = some k) : B ≤ k := by
  rcases h.2 with ⟨rfl, _⟩ | ⟨g, cap, cur, rfl, hbg, _⟩
  · simp [Value.ownBlock] at hk
  · simp only [Value.ownBlock, Option.some.injEq] at hk
    omega
theorem tk_grown {W0 W W' : World} {g nr na B : Nat} {a : Bool} {l : List UInt8} {o : Option Nat} (h : Tk W0 g nr na a l W) (hg : W.grownBy W' o) (ho : ∀ k, o = some k → B ≤ k) (h1 : g < B) (h2 : nr < B) (h3 : na < B) (hB : W0.heap.size ≤ B) : Tk W0 g nr na a l W' := by
  have hb : ∀ k, k < W.heap.size → k < B → W'.heap[k]? = W.heap[k]? := fun k hk hkB => hg.block k hk (fun e => by have := ho k e.symm; omega)
  refine ⟨?_, ?_, ?_, ?_, ?_, h.lt, h.ler, h.lea, h.ne, Nat.lt_of_lt_of_le h.ra hg.size, Nat.lt_of_lt_of_le h.rn hg.size⟩
  · have := h.rd
    have hlt := h.rd.lt
    unfold Rd at this ⊢
    rw [hb g hlt h1]
    exact this
  · rw [World.cell?_of_block (a := ⟨nr, 0, none⟩) (hb nr h.ra h2)]; exact h.r0
  · rw [World.cell?_of_block (a := ⟨na, 0, none⟩) (hb na h.rn h3)]; exact h.a0
  · rw [World.frozen?_of_block (a := ⟨na, 0, none⟩) (hb na h.rn h3)]; exact h.af
  · exact ⟨hg.os.trans h.gr.os, hg.tape.trans h.gr.tape, hg.output.trans h.gr.output, Nat.le_trans h.gr.size hg.size, fun k hk hkg => (hb k (Nat.lt_of_lt_of_le hk h.gr.size) (by omega)).trans (h.gr.block k hk hkg)⟩
theorem kt_grown {g na B : Nat} {A w w' : World} {o : Option Nat} (h : Kt g na A w) (hg : w.grownBy w' o) (ho : ∀ k, o = some k → B ≤ k) (hB : A.heap.size ≤ B) : Kt g na A w' :=
  ⟨Nat.le_trans h.1 hg.size, fun k hk h1 h2 => (hg.block k (Nat.lt_of_lt_of_le hk h.1) (fun e => by have := ho k e.symm; omega)).trans (h.2 k hk h1 h2)⟩

/-- Where the taker stands behind i numbers, and the number that it takes there. -/
def memSt (i : Nat) (s : Ps) : Ps := takSs (List.replicate i .I) s
def memNt (s : Ps) (i : Nat) : Int := (nX (memSt i s).a 2147483647 (memSt i s).l : Nat)
def memL (n : Nat) (s : Ps) : List Int := (List.range n).map (memNt s)
theorem memSt_succ (i : Nat) (s : Ps) : memSt (i + 1) s = takS .I (memSt i s) := by
  unfold memSt
  rw [List.replicate_succ', takSs_append]
  rfl
theorem memL_length (n : Nat) (s : Ps) : (memL n s).length = n := by simp [memL]
theorem memL_succ (n : Nat) (s : Ps) : memL (n + 1) s = memL n s ++ [memNt s n] := by simp [memL, List.range_succ]
theorem memL_lits : ∀ (n : Nat) (s : Ps), (memL n s).map (Lit.int .i64) = takVs (List.replicate n .I) s
  | 0, _ => rfl
  | n + 1, s => by
    rw [List.replicate_succ', takVs_append, ← memL_lits n s, memL_succ, List.map_append]
    rfl
theorem memSt_len (i : Nat) (s : Ps) : (memSt i s).l.length ≤ s.l.length := takSs_len _ _
def icells (l : List Int) : List Value := l.map (Value.int .i64)
theorem icells_append (a b : List Int) : icells (a ++ b) = icells a ++ icells b := by simp [icells]
/-- Numbers in new memory. -/
def INew (w : World) (B : Nat) (q : Option Addr) (l : List Int) : Prop := 0 < l.length → ∃ b cur, q = some ⟨b, 0, none⟩ ∧ B ≤ b ∧ w.heap[b]? = some (.cells cur 3 (0, 0)) ∧ ∀ i (h : i < l.length), cur[i]? = some (.int .i64 l[i])
theorem INew.arg {w : World} {B : Nat} {q : Option Addr} {l : List Int} (h : INew w B q l) : IArg w q l := fun h0 => by
  obtain ⟨b, cur, h1, _, h3, h4⟩ := h h0
  exact ⟨b, 0, h1, fun i hi => by rw [(mcells h3).1, Nat.zero_add]; exact h4 i hi⟩
theorem INew.blocks {w w' : World} {B : Nat} {q : Option Addr} {l : List Int} (h : INew w B q l) (hb : ∀ b cur, B ≤ b → w.heap[b]? = some (.cells cur 3 (0, 0)) → w'.heap[b]? = w.heap[b]?) : INew w' B q l := fun h0 => by
  obtain ⟨b, cur, e, h1, h2, h3⟩ := h h0
  exact ⟨b, cur, e, h1, (hb b cur h1 h2).trans h2, h3⟩
theorem INew.kt {w w' : World} {B g na : Nat} {q : Option Addr} {l : List Int} (h : INew w B q l) (hk : Kt g na w w') (h1 : g < B) (h2 : na < B) : INew w' B q l :=
  h.blocks fun b _ hb hx => hk.2 b (blk_lt hx) (by omega) (by omega)
theorem INew.below {w w' : World} {B : Nat} {q : Option Addr} {l : List Int} (h : INew w B q l) (hb : Below w.heap.size w w') : INew w' B q l :=
  h.blocks fun b _ _ hx => hb.block b (blk_lt hx)
theorem own_inew {w : World} {B n : Nat} {v : Value} {l : List Int} (h : w.ownsRow B 3 1 v n (icells l)) (hn : n = l.length) : ∃ q cap, v = .slice q l.length cap ∧ INew w B q l := by
  subst hn
  rcases h.2 with ⟨rfl, h0⟩ | ⟨g, cap, cur, rfl, hbg, hg, hnc, hcm, hcs, htake⟩
  · refine ⟨none, 0, by rw [h0], fun h1 => by omega⟩
  · refine ⟨some ⟨g, 0, none⟩, cap, rfl, fun h1 => ⟨g, cur, rfl, hbg, hg, fun i hi => ?_⟩⟩
    have h2 := h.cells (g := g) rfl i (.int .i64 l[i]) (by simp [icells, hi])
    rw [Addr.add_lit, Nat.zero_add] at h2
    rw [(mcells hg).1] at h2
    exact h2

set_option maxHeartbeats 4000000 in
set_option maxRecDepth 100000 in
theorem oTakInts_any (g nr na m : Nat) (s : Ps) (W0 W : World) (h : Tk W0 g nr na s.a s.l W) (hl : s.l.length ≤ 1048576) (hm : m ≤ 10) :
    Calls Tryz.prog 135 #[tkV nr na, .int .u64 (m : Int), .func (.func 98) #[tkV nr na] #[]] W fun e W' => ∃ q cap, e = .returned (.slice q (nX s.a m s.l) cap) ∧
      INew W' W.heap.size q (memL (nX s.a m s.l) ⟨nA s.a m s.l, nR s.l⟩) ∧ Tk W0 g nr na (memSt (nX s.a m s.l) ⟨nA s.a m s.l, nR s.l⟩).a (memSt (nX s.a m s.l) ⟨nA s.a m s.l, nR s.l⟩).l W' ∧ Kt g na W W' := by
  obtain ⟨i0, hi0, hz0, hz1, hz2⟩ := info_parts Tryz.infoInt
  have hn := nX_le s.a m s.l
  have hlr := rest_len s.l
  obtain ⟨n, hN⟩ : ∃ n, n = nX s.a m s.l := ⟨_, rfl⟩
  obtain ⟨s1, hs1⟩ : ∃ s1 : Ps, s1 = ⟨nA s.a m s.l, nR s.l⟩ := ⟨_, rfl⟩
  rw [← hN, ← hs1]
  rw [← hN] at hn
  have hl1 : s1.l.length ≤ 1048576 := by rw [hs1]; exact Nat.le_trans hlr hl
  have HN : Hid _ := hN
  have HS1 : Hid _ := hs1
  have hgl := h.rd.lt
  have hna := h.rn
  have hnr := h.ra
  have hW0 := h.gr.size
  clear hN hs1 hlr
  have hT0 := h.step ((Below.refl W.heap.size W).alloc (Nat.le_refl _) (.cells #[tk1 nr na, tk2 nr na, tk3 nr na] 108))
  have hk0 : Kt g na W (W.alloc (.cells #[tk1 nr na, tk2 nr na, tk3 nr na] 108)) := Kt.below ((Below.refl _ _).alloc (Nat.le_refl _) _)
  go_enter Tryz.func135, Tryz.ntmps135
  go_wp2_with fail
  refine (jNumber_any g nr na s.a m s.l W0 _ hT0 hl).mono ?_
  rintro e w1 ⟨rfl, hT1, hk1⟩
  rw [← HN.out]
  have hT1 : Tk W0 g nr na s1.a s1.l w1 := by rw [HS1.out]; exact hT1
  have hk1 := hk0.trans hk1
  clear hT0 hk0 h
  go_wp2
  go_loopw [7, 12] (fun s7 s12 wr => ∃ i : Nat, s12 = .int .u64 (i : Int) ∧ i ≤ n ∧ wr.ownsRow W.heap.size 3 1 s7 i (icells (memL i s1)) ∧ Tk W0 g nr na (memSt i s1).a (memSt i s1).l wr ∧ Kt g na W wr) (fun _ s12 _ => n - (intOf s12).toNat)
  case atStart => exact ⟨0, rfl, by omega, World.ownsRow_nil .., hT1, hk1⟩
  case round =>
    clear hT1 hk1
    obtain ⟨i, rfl, hil, howni, hTi, hki⟩ := hrel
    obtain ⟨qi, capi, rfl⟩ : ∃ qi capi, u7 = Value.slice qi i capi := by
      rcases howni.2 with ⟨e, e0⟩ | ⟨g, cap, cur, e, _⟩
      · exact ⟨none, 0, by rw [e, e0]⟩
      · exact ⟨_, _, e⟩
    by_cases hlt : i < n
    · have hiz : (i : Int) < (n : Int) := by omega
      have hli : (memSt i s1).l.length ≤ 1048576 := Nat.le_trans (memSt_len i s1) hl1
      have hst := memSt_succ i s1
      have hsl := memL_succ i s1
      have HST : Hid _ := hst
      have HSL : Hid _ := hsl
      obtain ⟨x, hx⟩ : ∃ x : Int, x = memNt s1 i := ⟨_, rfl⟩
      have HX : Hid _ := hx
      have hlen := memL_length i s1
      have HLEN : Hid _ := hlen
      clear hst hsl hx hlen
      go_wp2_with fail
      refine (oIntT_any g nr na (memSt i s1) W0 wr hTi hli).mono ?_
      rintro e w3 ⟨rfl, hT3, hk3⟩
      rw [show (takV .I (memSt i s1)).toCell = .int .i64 x from by rw [HX.out]; rfl]
      rw [← HST.out] at hT3
      have hown3 := own_kt howni hk3 hgl hna
      have hki3 := hki.trans hk3
      have hWs := hki3.1
      clear howni hTi hki hk3
      have hnews : ∀ j u, [Value.int .i64 x][j]? = some u → (w3.alloc (.cells #[.int .i64 x] 3)).cell? ((⟨w3.heap.size, 0, none⟩ : Addr).add j) = some u := by
        intro j u hj
        rw [Addr.add_lit, Nat.zero_add]
        match j, hj with
        | 0, hj => simp at hj; subst hj; exact cell_new0 _ [] _ rfl
        | n + 1, hj => simp at hj
      go_wp2_with (at_builtin; refine wpList_app rfl _ _ 29 rfl W.heap.size 3 i0 (.int .i64 0) 1 8 Tryz.underlying29 hi0 hz0 hz1 hz2 rfl (by decide) _ _ _ rfl (hown3.alloc _) ⟨w3.heap.size, 0, none⟩ 1 1 [.int .i64 x] (by decide) rfl rfl hnews (by simp [Value.oneCell']) ?c3 ?c4 ?c5 ?_)
      case c3 => unfold maxLen; omega
      case c4 => omega
      case c5 => simp; omega
      intro v' w4 hown4 hgrow hv4
      have hBg : ∀ k, Value.ownBlock (.slice qi i capi) = some k → W.heap.size ≤ k := fun k hk => own_base hown3 hk
      have hbA : Below w3.heap.size w3 (w3.alloc (.cells #[.int .i64 x] 3)) := (Below.refl _ _).alloc (Nat.le_refl _) _
      have hT4 := tk_grown (hT3.step hbA) hgrow hBg hgl hnr hna hW0
      have hk4 := kt_grown (hki3.trans (Kt.below hbA)) hgrow hBg (Nat.le_refl _)
      have hown5 : w4.ownsRow W.heap.size 3 1 v' (i + 1) (icells (memL (i + 1) s1)) := by
        rw [HSL.out, icells_append, ← HX.out]
        exact hown4
      clear hown4 hown3 hT3 hki3 hgrow hv4 hnews
      obtain ⟨q', cap', rfl⟩ : ∃ q' cap', v' = Value.slice q' (i + 1) cap' := by
        rcases hown5.2 with ⟨e, e0⟩ | ⟨g, cap, cur, e, _⟩
        · exact ⟨none, 0, by rw [e, e0]⟩
        · exact ⟨_, _, e⟩
      go_wp2
      go_roundw
      case rel => exact ⟨i + 1, by simp, by omega, hown5, hT4, hk4⟩
      case measure => simp [intOf]; omega
    · obtain rfl : i = n := by omega
      go_wp2
      go_ret
      obtain ⟨q, cap, hq, hnew⟩ := own_inew howni (memL_length _ _).symm
      rw [memL_length] at hq
      exact ⟨q, cap, congrArg Ending.returned hq, hnew, hTi, hki⟩

end Go.Proofs.YtbdbefgfejdbjaaGreat

namespace Go.Proofs.YtbdbefgfejdbjaaGreat
open Go.RowKit Go.BigFrame
attribute [local go_sem] size_bstr toList_bstr


set_option maxHeartbeats 4000000 in
set_option maxRecDepth 100000 in
theorem RSameInts_any (q : Option Addr) (cap : Nat) (l : List Int) (q2 : Option Addr) (cap2 : Nat) (m : List Int) (w : World) (h : IArg w q l) (h2 : IArg w q2 m) (hl : l.length ≤ 9223372036854775807) :
    Calls Tryz.prog 14 #[.slice q l.length cap, .slice q2 m.length cap2] w fun e w' => e = .returned (.bool (decide (l = m))) ∧ Below w.heap.size w w' := by
  obtain ⟨ok, hok⟩ : ∃ ok, ok = decide (l = m) := ⟨_, rfl⟩
  rw [← hok]
  have HOK : Hid (ok = decide (l = m)) := hok
  clear hok
  go_enter Tryz.func14, Tryz.ntmps14
  by_cases hn : l.length = m.length
  case neg =>
    have h' : ((l.length : Int) == (m.length : Int)) = false := beq_eq_false_iff_ne.2 (by omega)
    have ho : ok = false := by
      rw [HOK.out]
      exact decide_eq_false fun e => hn (by rw [e])
    subst ho
    go_wp2
    go_ret
    exact ⟨rfl, Below.refl _ _⟩
  case pos =>
  have h' : ((l.length : Int) == (m.length : Int)) = true := beq_iff_eq.2 (by omega)
  go_wp2
  go_loopw [5] (fun s5 wr => ∃ (i : Nat), s5 = .int .i64 (i : Int) ∧ i ≤ l.length ∧ Hid (∀ j (hj : j < i) (a : j < l.length) (b : j < m.length), l[j] = m[j]) ∧ Below w.heap.size w wr) (fun s5 _ => l.length + 1 - (intOf s5).toNat)
  case atStart => exact ⟨0, rfl, by omega, (fun j hj => absurd hj (by omega) : ∀ j (_ : j < 0) (a : j < l.length) (b : j < m.length), l[j] = m[j]), Below.refl _ _⟩
  case round =>
    obtain ⟨i, rfl, hil, hs, hbr⟩ := hrel
    by_cases hlt : i < l.length
    · have hi1 : (i : Int) < (l.length : Int) := by omega
      have hi2 : (i : Int) < (m.length : Int) := by omega
      have hlt2 : i < m.length := by omega
      obtain ⟨b, off, rfl, hr⟩ := h (by omega)
      obtain ⟨b2, off2, rfl, hr2⟩ := h2 (by omega)
      have c0 := cell_below hbr (hr i hlt)
      have c1 := cell_below hbr (hr2 i hlt2)
      obtain ⟨x, hx⟩ : ∃ x, x = l[i] := ⟨_, rfl⟩
      obtain ⟨y, hy⟩ : ∃ y, y = m[i] := ⟨_, rfl⟩
      rw [← hx] at c0
      rw [← hy] at c1
      have HX : Hid (x = l[i]) := hx
      have HY : Hid (y = m[i]) := hy
      clear hx hy hr hr2
      by_cases hxy : x = y
      · have e1 : (x == y) = true := beq_iff_eq.2 hxy
        have HS : Hid (∀ j (hj : j < i + 1) (a : j < l.length) (b : j < m.length), l[j] = m[j]) := by
          show ∀ j (hj : j < i + 1) (a : j < l.length) (b : j < m.length), l[j] = m[j]
          intro j hj a b
          rcases Nat.lt_or_ge j i with hj | hj
          · exact hs.out j hj a b
          · obtain rfl : j = i := by omega
            rw [← HX.out, ← HY.out, hxy]
        clear hs hxy HX HY
        go_wp2
        go_region
        go_wp2
        go_roundw
        case rel => exact ⟨i + 1, by simp, by omega, HS.out, hbr.drew⟩
        case measure => simp [intOf]; omega
      · have e1 : (x == y) = false := beq_eq_false_iff_ne.2 hxy
        have ho : ok = false := by
          rw [HOK.out]
          refine decide_eq_false fun e => hxy ?_
          rw [HX.out, HY.out]
          simp only [e]
        subst ho
        clear hs HX HY hxy
        go_wp2
        go_region
        go_wp2
        go_ret
        exact ⟨rfl, hbr.drew⟩
    · obtain rfl : i = l.length := by omega
      have ho : ok = true := by
        rw [HOK.out]
        refine decide_eq_true (List.ext_getElem hn fun j a b => hs.out j a a b)
      subst ho
      clear hs
      go_wp2
      go_ret
      exact ⟨rfl, hbr⟩


set_option maxHeartbeats 8000000 in
set_option maxRecDepth 100000 in
theorem RSame16_any (a b : Et) (w : World) (ha : IArg w a.q a.mem) (hb : IArg w b.q b.mem) (hl : a.mem.length ≤ 9223372036854775807) :
    Calls Tryz.prog 21 #[.agg (etC a).toArray, .agg (etC b).toArray] w fun e w' => e = .returned (.bool (sameE a b)) ∧ Below w.heap.size w w' := by
  obtain ⟨ix, te, kd, cm, mem, q, cap⟩ := a
  obtain ⟨ix2, te2, kd2, cm2, mem2, q2, cap2⟩ := b
  simp only at ha hb hl
  obtain ⟨ok, hok⟩ : ∃ ok, ok = sameE ⟨ix, te, kd, cm, mem, q, cap⟩ ⟨ix2, te2, kd2, cm2, mem2, q2, cap2⟩ := ⟨_, rfl⟩
  rw [← hok]
  have HOK : Hid (ok = (decide (ix = ix2) && decide (te = te2) && decide (kd = kd2) && decide (cm = cm2) && decide (mem = mem2))) := hok
  clear hok
  obtain ⟨w1, hw1⟩ : ∃ w1, w1 = (w.alloc (.cells (etC ⟨ix, te, kd, cm, mem, q, cap⟩).toArray 38)).alloc (.cells (etC ⟨ix2, te2, kd2, cm2, mem2, q2, cap2⟩).toArray 38) := ⟨_, rfl⟩
  have hb1 : Below w.heap.size w w1 := by rw [hw1]; exact ((Below.refl _ _).alloc (Nat.le_refl _) _).alloc (by simp) _
  have hx1 : Blk w1 w.heap.size 38 (etC ⟨ix, te, kd, cm, mem, q, cap⟩).toArray := by rw [hw1]; exact blk_below (blk_new w 38 _) ((Below.refl _ _).alloc (Nat.le_refl _) _)
  have hx2 : Blk w1 (w.heap.size + 1) 38 (etC ⟨ix2, te2, kd2, cm2, mem2, q2, cap2⟩).toArray := by
    have := blk_new (w.alloc (.cells (etC ⟨ix, te, kd, cm, mem, q, cap⟩).toArray 38)) 38 (etC ⟨ix2, te2, kd2, cm2, mem2, q2, cap2⟩).toArray
    rw [hw1]
    rw [show (w.alloc (.cells (etC ⟨ix, te, kd, cm, mem, q, cap⟩).toArray 38)).heap.size = w.heap.size + 1 from by simp] at this
    exact this
  have K := RSameInts_any q cap mem q2 cap2 mem2 w1 (ha.below hb1) (hb.below hb1) hl
  clear ha hb
  have r1 : w1.rangeAt w.heap.size 3 (cmC cm) := range_of_block hx1 [.int .u64 ix, .int .u64 te, .int .i64 kd] (cmC cm) [.slice q mem.length cap] rfl
  have r2 : w1.rangeAt (w.heap.size + 1) 3 (cmC cm2) := range_of_block hx2 [.int .u64 ix2, .int .u64 te2, .int .i64 kd2] (cmC cm2) [.slice q2 mem2.length cap2] rfl
  have n1 : (Tryz.prog.info? 28).map (·.size) = some (cmC cm).length := by kernel_rfl
  have n2 : (Tryz.prog.info? 28).map (·.size) = some (cmC cm2).length := by kernel_rfl
  have c0 : w1.cell? ⟨w.heap.size, 0, none⟩ = some (.int .u64 ix) := (mcells hx1).1 0
  have c1 : w1.cell? ⟨w.heap.size, 1, none⟩ = some (.int .u64 te) := (mcells hx1).1 1
  have c2 : w1.cell? ⟨w.heap.size, 2, none⟩ = some (.int .i64 kd) := (mcells hx1).1 2
  have c3 : w1.cell? ⟨w.heap.size, 23, none⟩ = some (.slice q mem.length cap) := (mcells hx1).1 23
  have d0 : w1.cell? ⟨w.heap.size + 1, 0, none⟩ = some (.int .u64 ix2) := (mcells hx2).1 0
  have d1 : w1.cell? ⟨w.heap.size + 1, 1, none⟩ = some (.int .u64 te2) := (mcells hx2).1 1
  have d2 : w1.cell? ⟨w.heap.size + 1, 2, none⟩ = some (.int .i64 kd2) := (mcells hx2).1 2
  have d3 : w1.cell? ⟨w.heap.size + 1, 23, none⟩ = some (.slice q2 mem2.length cap2) := (mcells hx2).1 23
  clear hx1 hx2
  have hq : ∀ W, (binOp .eql 28 (.agg (cmC cm).toArray) (.agg (cmC cm2).toArray)).run Tryz.prog W = .ok (.bool (decide (cm = cm2))) W := fun W => cm_eql cm cm2 W
  have hgu : ∀ (x y : Operand) (W : World), (eqGuard .eql 28 x y (.agg (cmC cm).toArray) (.agg (cmC cm2).toArray)).run Tryz.prog W = .ok () W := fun x y W => cm_guard .eql x y _ _ W
  go_enter Tryz.func21, Tryz.ntmps21
  go_upto_region 1 with fail
  rw [← hw1]
  clear hw1
  by_cases h0 : ix = ix2
  case neg =>
    have e0 : (ix == ix2) = false := beq_eq_false_iff_ne.2 h0
    have ho : ok = false := by rw [HOK.out, decide_eq_false h0]; rfl
    subst ho
    clear K hq hgu r1 r2 h0
    go_wp2
    go_ret
    exact ⟨rfl, hb1⟩
  case pos =>
  have e0 : (ix == ix2) = true := beq_iff_eq.2 h0
  rw [decide_eq_true h0] at HOK
  clear h0
  by_cases h0 : te = te2
  case neg =>
    have e1 : (te == te2) = false := beq_eq_false_iff_ne.2 h0
    have ho : ok = false := by rw [HOK.out, decide_eq_false h0]; rfl
    subst ho
    clear K hq hgu r1 r2 h0
    go_wp2
    go_ret
    exact ⟨rfl, hb1⟩
  case pos =>
  have e1 : (te == te2) = true := beq_iff_eq.2 h0
  rw [decide_eq_true h0] at HOK
  clear h0
  by_cases h0 : kd = kd2
  case neg =>
    have e2 : (kd == kd2) = false := beq_eq_false_iff_ne.2 h0
    have ho : ok = false := by rw [HOK.out, decide_eq_false h0]; rfl
    subst ho
    clear K hq hgu r1 r2 h0
    go_wp2
    go_ret
    exact ⟨rfl, hb1⟩
  case pos =>
  have e2 : (kd == kd2) = true := beq_iff_eq.2 h0
  rw [decide_eq_true h0] at HOK
  clear h0
  generalize decide (cm = cm2) = g at *
  generalize cmC cm = C at *
  generalize cmC cm2 = D at *
  cases g
  case false =>
    have ho : ok = false := by rw [HOK.out]; rfl
    subst ho
    clear K
    go_wp2_with (first | refine wpList_load_w (by kernel_rfl) 28 _ rfl w.heap.size 3 rfl C _ r1 Tryz.underlying28 rfl n1 ?_ | refine wpList_load_w (by kernel_rfl) 28 _ rfl (w.heap.size + 1) 3 rfl D _ r2 Tryz.underlying28 rfl n2 ?_ | fail)
    go_ret
    exact ⟨rfl, hb1⟩
  case true =>
    have ho : ok = decide (mem = mem2) := by rw [HOK.out]; rfl
    generalize decide (mem = mem2) = z at *
    subst ho
    go_wp2_with (first | refine wpList_load_w (by kernel_rfl) 28 _ rfl w.heap.size 3 rfl C _ r1 Tryz.underlying28 rfl n1 ?_ | refine wpList_load_w (by kernel_rfl) 28 _ rfl (w.heap.size + 1) 3 rfl D _ r2 Tryz.underlying28 rfl n2 ?_ | fail)
    refine K.mono ?_
    rintro e w2 ⟨rfl, hb2⟩
    have hB := below2 hb1 hb2
    clear hb1 hb2 r1 r2 K
    go_wp2
    go_ret
    exact ⟨rfl, hB⟩


theorem icells_one (l : List Int) : ∀ u ∈ icells l, u.oneCell' = true := by
  intro u hu
  obtain ⟨x, _, rfl⟩ := List.mem_map.1 hu
  rfl
theorem IRow.news {w : World} {b off : Nat} {l : List Int} (h : IRow w b off l) : ∀ j u, (icells l)[j]? = some u → w.cell? ((⟨b, off, none⟩ : Addr).add j) = some u := by
  intro j u hj
  rw [Addr.add_lit]
  obtain ⟨hj1, hj2⟩ := List.getElem?_eq_some_iff.1 hj
  have hj3 : j < l.length := by simpa [icells] using hj1
  rw [h j hj3, ← hj2]
  simp [icells]
set_option maxHeartbeats 4000000 in
set_option maxRecDepth 100000 in
theorem ROwnInts_any (q : Option Addr) (cap : Nat) (l : List Int) (w : World) (h : IArg w q l) (hl : l.length ≤ maxLen) (hb : l.length * 8 ≤ 140737488355328) :
    Calls Tryz.prog 9 #[.slice q l.length cap] w fun e w' => ∃ v, e = .returned v ∧ w'.ownsRow w.heap.size 3 1 v l.length (icells l) ∧ Below w.heap.size w w' := by
  obtain ⟨i0, hi0, hz0, hz1, hz2⟩ := info_parts Tryz.infoInt
  have hown0 : w.ownsRow w.heap.size 3 1 (.slice none 0 0) 0 [] := ⟨rfl, .inl ⟨rfl, rfl⟩⟩
  by_cases h0 : 0 < l.length
  · obtain ⟨b, off, rfl, hr⟩ := h h0
    have HNW : Hid _ := hr.news
    have y2 : Hid ((icells l).length = l.length * 1) := by show _ = _; simp [icells]
    have y3 : Hid (0 + l.length ≤ maxLen) := by show _ ≤ _; omega
    have y4 : Hid ((0 + l.length) * 8 ≤ 140737488355328) := by show _ ≤ _; omega
    clear hr h
    go_enter Tryz.func9, Tryz.ntmps9
    go_wp2_with (at_builtin; refine wpList_append_own _ rfl _ _ 29 rfl w.heap.size 3 i0 (.int .i64 0) 1 8 Tryz.underlying29 hi0 hz0 hz1 hz2 rfl (by decide) _ _ [] rfl hown0 ⟨b, off, none⟩ l.length cap (icells l) rfl y2.out HNW.out (icells_one _) y3.out y4.out (Nat.le_refl _) ?_)
    intro v5 w5 hown5' hgr5 _
    have hown5 : w5.ownsRow w.heap.size 3 1 v5 l.length (icells l) := by simpa using hown5'
    clear hown5'
    have hb5 : Below w.heap.size w w5 := (Below.refl _ _).grown hgr5 (Nat.le_refl _) (fun k hk => by cases hk)
    go_wp2
    go_ret
    exact ⟨v5, rfl, hown5, hb5⟩
  · have hl0 : l = [] := List.eq_nil_of_length_eq_zero (by omega)
    subst hl0
    have hown1 := hown0
    clear h hl hb
    cases q with
    | none =>
      go_enter Tryz.func9, Tryz.ntmps9
      go_wp2
      go_ret
      exact ⟨_, rfl, hown1, Below.refl _ _⟩
    | some a =>
      go_enter Tryz.func9, Tryz.ntmps9
      go_wp2
      go_ret
      exact ⟨_, rfl, hown1, Below.refl _ _⟩

end Go.Proofs.YtbdbefgfejdbjaaGreat
