/-
  The laws' rows.
-/
import Derived.Test.YtnpjbdbhjbccbaaMSh
namespace Go.Proofs.Ytnpjbdbhjbccbaa
open Go.RowKit Go.BigFrame Go.Sort
attribute [local go_sem] size_bstr toList_bstr ls_def

theorem wpList_app {P : Program} {w : World} {ops : Array Oper} {rest : List Oper} {o : Oper} {a : Act} {Q : Exit → Act → World → Prop} (hgd : o.guard = none) (s x : Operand) (t : TypeId)
    (ho : o.op = .call { callee := .builtin .append, args := #[s, x], argTypes := #[t, t] }) (base : Nat) (e : TypeId) (i : TypeInfo) (z : Value) (size bytes : Nat) (h1 : P.underlying t = some (.slice e)) (h2 : P.info? e = some i) (h3 : i.zero = some z) (h4 : i.size = size) (h5 : i.bytes = bytes) (h6 : z.cells.size = size) (h7 : 0 < size)
    (v : Value) (k : Nat) (xs : List Value) (hs : a.eval s = v) (hown : w.ownsRow base e size v k xs) (ad : Addr) (m c : Nat) (news : List Value) (hm : 0 < m) (hx : a.eval x = .slice (some ad) m c) (hn : news.length = m * size)
    (hc : ∀ j u, news[j]? = some u → w.cell? (ad.add j) = some u) (h1c : ∀ u ∈ news, u.oneCell' = true) (b1 : k + m ≤ maxLen) (b2 : (k + m) * bytes ≤ 140737488355328) (b3 : base ≤ w.heap.size)
    (hK : ∀ v' w', w'.ownsRow base e size v' (k + m) (xs ++ news) → w.grownBy w' v.ownBlock → (v'.ownBlock = v.ownBlock ∨ v'.ownBlock = some w.heap.size) → wpList P ops Q rest (a.put o.dst v') w') : wpList P ops Q (o :: rest) a w := by
  refine wpList_plain hgd fun K hK' => ?_
  obtain ⟨v', w', hrun, r1, r2, r3⟩ := run_append_own (P := P) w base t o.type e i z size bytes h1 h2 h3 h4 h5 h6 h7 v k xs hown ad m c news hn hc h1c b1 b2 b3
  have hw := append_at (P := P) h1 h2 h3 h4 h5 hown hm hn hc h1c b1 b2 hrun
  unfold Oper.wp
  simp [execOp, ho, resolve, invoke, builtin, hs, hx, hrun, Result.andThen]
  exact hK' _ _ (hK v' w' r1 r2 hw)
/-- rows under way. -/
structure RB (w0 w : World) (xs : List IS) (ins : List InR) (v : Value) : Prop where
  cs : ∀ (k : Nat) (x : IS) (y : InR), xs[k]? = some x → ins[k]? = some y → y.cs = x.cs
  r : ∀ y ∈ ins, RowW y w ∧ ∀ i, y.F i → w0.heap.size ≤ i
  d : ins.Pairwise fun x y => ∀ i, x.F i → ¬ y.F i
  own : w.ownsRow w0.heap.size 25 1 v ins.length (ins.map InR.v)
  ob : ∀ g, v.ownBlock = some g → ∀ y ∈ ins, ¬ y.F g
  k : Below w0.heap.size w0 w
theorem RowW.kept {x : InR} {w w' : World} (h : RowW x w) (hk : ∀ i, x.F i → w'.heap[i]? = w.heap[i]?) : RowW x w' := by
  rcases h with h | ⟨g, caps, hv, hT, hJ⟩
  · exact Or.inl h
  · exact Or.inr ⟨g, caps, hv, hT, hT.kept _ _ _ hJ hk⟩
theorem RB.step {w0 w w1 w4 : World} {xs : List IS} {ins : List InR} {v v' : Value} {x : IS} {y : InR} (h : RB w0 w xs ins v) (hx : xs[ins.length]? = some x) (hy : y.cs = x.cs) (hr : RowW y w1) (hF : ∀ i, y.F i → w.heap.size ≤ i) (hb : Below w.heap.size w w1) {o : Obj} (hown : w4.ownsRow w0.heap.size 25 1 v' (ins.length + 1) (ins.map InR.v ++ [y.v])) (hg : (w1.alloc o).grownBy w4 v.ownBlock) (hv : v'.ownBlock = v.ownBlock ∨ v'.ownBlock = some (w1.heap.size + 1)) :
    RB w0 w4 xs (ins ++ [y]) v' := by
  have hsz := hb.size
  have hs1 : (w1.alloc o).heap.size = w1.heap.size + 1 := by simp
  have hol : ∀ g, v.ownBlock = some g → w0.heap.size ≤ g ∧ g < w.heap.size := fun g hg => h.own.lt g hg
  have hyl := hr.lt
  have hyo : ∀ g, v.ownBlock = some g → ¬ y.F g := fun g hg hf => by have := hol g hg; have := hF g hf; omega
  have ho : ∀ i, i < w1.heap.size → v.ownBlock ≠ some i → w4.heap[i]? = w1.heap[i]? := fun i hi h1 => by
    rw [hg.block i (by omega) (fun e => h1 e.symm)]
    exact heap_alloc_old _ _ hi
  have hkz := h.k.size
  refine ⟨fun k a c ha hc => ?_, fun a ha => ?_, ?_, ?_, fun g hg' a ha hf => ?_, ?_⟩
  · by_cases hk : k < ins.length
    · rw [List.getElem?_append_left hk] at hc
      exact h.cs k a c ha hc
    · have hk2 : k = ins.length := by
        have := (List.getElem?_eq_some_iff.1 hc).1
        rw [List.length_append, List.length_singleton] at this
        omega
      subst hk2
      rw [List.getElem?_append_right (Nat.le_refl _), Nat.sub_self] at hc
      cases hc
      rw [hx] at ha
      cases ha
      exact hy
  · rcases List.mem_append.1 ha with ha | ha
    · obtain ⟨r1, r2⟩ := h.r a ha
      refine ⟨r1.kept fun i hi => ?_, r2⟩
      have := r1.lt i hi
      rw [ho i (by omega) (fun e => h.ob i e a ha hi)]
      exact hb.block i this
    · simp at ha
      subst ha
      exact ⟨hr.kept fun i hi => ho i (hyl i hi) (fun e => hyo i e hi), fun i hi => by have := hF i hi; omega⟩
  · refine List.pairwise_append.2 ⟨h.d, by simp, fun a ha c hc => ?_⟩
    simp at hc
    subst hc
    intro i hi hf
    have := (h.r a ha).1.lt i hi
    have := hF i hf
    omega
  · rw [List.length_append, List.map_append]
    exact hown
  · have hcase : ∀ a ∈ ins ++ [y], ∀ i, a.F i → i < w1.heap.size := fun a ha i hi => by
      rcases List.mem_append.1 ha with ha | ha
      · have := (h.r a ha).1.lt i hi
        omega
      · simp at ha; subst ha; exact hyl i hi
    rcases hv with e | e
    · rw [e] at hg'
      rcases List.mem_append.1 ha with h2 | h2
      · exact h.ob g hg' a h2 hf
      · simp at h2; subst h2; exact hyo g hg' hf
    · rw [e] at hg'
      cases hg'
      have := hcase a ha _ hf
      omega
  · exact ⟨hg.os.trans (hb.os.trans h.k.os), hg.tape.trans (hb.tape.trans h.k.tape), hg.output.trans (hb.output.trans h.k.output), by have := hg.size; omega, fun i hi => by
      rw [ho i (by omega) (fun e => by have := hol i e; omega), hb.block i (by omega)]
      exact h.k.block i hi⟩
/-- What rows answers. -/
def RowsQ (xs : List IS) (w : World) (e : Ending) (w' : World) : Prop :=
  ∃ (ins : List InR) (q : Option Addr) (rb cap : Nat), e = .returned (.slice q xs.length cap) ∧ ins.length = xs.length ∧ ins.map InR.cs = xs.map IS.cs ∧ (0 < ins.length → q = some ⟨rb, 0, none⟩ ∧ rb < w'.heap.size ∧ ∀ (k : Nat) (x : InR), ins[k]? = some x → w'.cell? ⟨rb, 0 + k, none⟩ = some x.v) ∧ (∀ x ∈ ins, RowW x w') ∧ (ins.Pairwise fun x y => ∀ i, x.F i → ¬ y.F i) ∧ (∀ x ∈ ins, ∀ i, x.F i → w.heap.size ≤ i) ∧ Below w.heap.size w w'

set_option maxHeartbeats 4000000 in
set_option maxRecDepth 100000 in
theorem rows_any (q : Option Addr) (ob off cap : Nat) (xs : List IS) (w : World) (hA : OArg w q ob off xs) (hn : xs.length ≤ 1000) (hf : ∀ x ∈ xs, ∀ c ∈ x.cs, Fits c) (hs : ∀ x ∈ xs, x.cs.length ≤ 100000) :
    Calls Try.prog 12 #[.slice q xs.length cap] w (RowsQ xs w) := by
  obtain ⟨i0, hi0, hz0, hz1, hz2⟩ := info_parts Try.infoFn
  go_enter Try.func12, Try.ntmps12
  go_wp2
  go_loopw [3, 4] (fun s3 s4 wr => ∃ ins : List InR, s4 = .int .i64 (ins.length : Int) ∧ ins.length ≤ xs.length ∧ Hid (RB w wr xs ins s3)) (fun _ s4 _ => xs.length - (intOf s4).toNat)
  case atStart => exact ⟨[], rfl, by simp, ⟨fun k x y _ hy => absurd hy (by simp), fun y hy => absurd hy (by simp), List.Pairwise.nil, ⟨rfl, .inl ⟨rfl, rfl⟩⟩, fun g hg => (by cases hg), Below.refl _ _⟩⟩
  case round =>
    obtain ⟨ins, rfl, hil, HR⟩ := hrel
    by_cases hlt : ins.length < xs.length
    · obtain ⟨rfl, hob, hcell⟩ := hA.at_ (by omega)
      obtain ⟨x, hx⟩ : ∃ x, xs[ins.length]? = some x := ⟨_, List.getElem?_eq_getElem hlt⟩
      have hxm := List.mem_of_getElem? hx
      have hbel := HR.out.k
      have c0 : wr.cell? ⟨ob, off + ins.length, none⟩ = some (.slice x.q x.cs.length x.cap) := by rw [hbel.cell (p := ⟨ob, off + ins.length, none⟩) hob]; exact hcell _ x hx
      have hAx := (hA.arg x hxm).next hbel
      have hsx := hs x hxm
      have hfx := hf x hxm
      have hobr : ob < wr.heap.size := Nat.lt_of_lt_of_le hob hbel.size
      have hiz : (ins.length : Int) < (xs.length : Int) := by omega
      have hszr := hbel.size
      have HX : Hid _ := hx
      clear hcell hx
      by_cases h0 : x.cs.length = 0
      · have hz : ((x.cs.length : Int) == 0) = true := by rw [h0]; rfl
        have hnil : x.cs = [] := List.eq_nil_of_length_eq_zero h0
        have hnews : ∀ j u, [Value.nilFunc][j]? = some u → (wr.alloc (.cells #[.nilFunc] 25)).cell? ((⟨wr.heap.size, 0, none⟩ : Addr).add j) = some u := by
          intro j u hj
          rw [Addr.add_lit]
          match j, hj with
          | 0, hj =>
            cases hj
            exact (mcells (heap_alloc_new wr _)).1 0
        have HNL : Hid _ := hnil
        clear hnil h0
        go_wp2_with (at_builtin; refine wpList_app rfl _ _ 27 rfl w.heap.size 25 i0 .nilFunc 1 8 Try.underlying27 hi0 hz0 hz1 hz2 rfl (by decide) _ _ _ rfl (HR.out.own.alloc _) ⟨wr.heap.size, 0, none⟩ 1 1 [.nilFunc] (by omega) rfl rfl hnews (by intro u hu; simp at hu; subst hu; rfl) (by unfold maxLen; omega) (by omega) (by simp; omega) ?_)
        intro v4 w4 hown4 hgr4 hv4
        have HS : Hid _ := HR.out.step (y := ⟨.nilFunc, fun _ => False, [], fun _ _ => True⟩) HX.out HNL.out.symm (Or.inl ⟨rfl, rfl, fun _ h => h⟩) (fun _ h => h.elim) (Below.refl _ _) hown4 hgr4 hv4
        clear hown4 hgr4 hv4 hnews c0
        go_wp2
        go_roundw
        case rel => exact ⟨ins ++ [⟨.nilFunc, fun _ => False, [], fun _ _ => True⟩], by simp, by simp; omega, HS⟩
        case measure => simp [intOf]; omega
      · have hz : ((x.cs.length : Int) == 0) = false := by rw [beq_eq_false_iff_ne]; omega
        have hown := Own_any x.q x.b x.off x.cap x.cs wr hAx.at_ (by omega) hAx.nil
        clear h0
        go_wp2_with fail
        refine hown.mono ?_
        rintro e w1 ⟨v1, rfl, hown1, hb1⟩
        obtain ⟨p1, c1, g1, rfl, _, hg1, hr1, _⟩ := own_get hown1
        have hof := Of_any p1 g1 0 c1 x.cs w1 hr1 hfx (by omega)
        clear hown hown1
        go_wp2_with fail
        refine hof.mono ?_
        rintro e w2 ⟨va, la, rfl, hJ2, hn2, hv2, hl2, hb2⟩
        have hB2 := below2 hb1 hb2
        have hs1 := hb1.size
        have hs2 := hB2.size
        have hnews : ∀ j u, [Value.func (.func 43) #[] #[.pointer (some ⟨va, 0, none⟩)]][j]? = some u → (w2.alloc (.cells #[.func (.func 43) #[] #[.pointer (some ⟨va, 0, none⟩)]] 25)).cell? ((⟨w2.heap.size, 0, none⟩ : Addr).add j) = some u := by
          intro j u hj
          rw [Addr.add_lit]
          match j, hj with
          | 0, hj =>
            cases hj
            exact (mcells (heap_alloc_new w2 _)).1 0
        have howr := own_cbelow HR.out.own hB2
        clear hof
        go_wp2_with (at_builtin; refine wpList_app rfl _ _ 27 rfl w.heap.size 25 i0 .nilFunc 1 8 Try.underlying27 hi0 hz0 hz1 hz2 rfl (by decide) _ _ _ rfl (howr.alloc _) ⟨w2.heap.size, 0, none⟩ 1 1 [.func (.func 43) #[] #[.pointer (some ⟨va, 0, none⟩)]] (by omega) rfl rfl hnews (by intro u hu; simp at hu; subst hu; rfl) (by unfold maxLen; omega) (by omega) (by simp; omega) ?_)
        intro v4 w4 hown4 hgr4 hv4
        have HS : Hid _ := HR.out.step (y := ofIn va la x.cs) HX.out rfl (ofIn_row hn2 hfx hJ2) (fun i hi => by rcases hi with rfl | ⟨_, rfl⟩ <;> omega) hB2 hown4 hgr4 hv4
        clear hown4 hgr4 hv4 hnews c0
        go_wp2
        go_roundw
        case rel => exact ⟨ins ++ [ofIn va la x.cs], by simp, by simp; omega, HS⟩
        case measure => simp [intOf]; omega
    · have hie : ins.length = xs.length := by omega
      have h := HR.out
      have hcsm : ins.map InR.cs = xs.map IS.cs := by
        apply List.ext_getElem?
        intro k
        rw [List.getElem?_map, List.getElem?_map]
        cases hx : xs[k]? with
        | none =>
          rw [List.getElem?_eq_none_iff] at hx
          rw [List.getElem?_eq_none (by omega)]
          rfl
        | some x =>
          have hk := (List.getElem?_eq_some_iff.1 hx).1
          obtain ⟨y, hy⟩ : ∃ y, ins[k]? = some y := ⟨_, List.getElem?_eq_getElem (by omega)⟩
          rw [hy]
          exact congrArg some (h.cs k x y hx hy)
      obtain ⟨qv, capv, g, rfl, hB, hr⟩ := own_ones h.own (by simp)
      have hlm : (ins.map InR.v).length = xs.length := by rw [List.length_map]; exact hie
      rw [hlm]
      have HE : Hid _ := hie
      have HC : Hid _ := hcsm
      have HRR : Hid _ := hr
      have HH : Hid _ := h
      clear hie hcsm hlm hr h HR
      go_wp2
      go_ret
      refine ⟨ins, qv, g, capv, rfl, HE.out, HC.out, fun h0 => ?_, fun y hy => (HH.out.r y hy).1, HH.out.d, fun y hy => (HH.out.r y hy).2, HH.out.k⟩
      obtain ⟨e1, e2, e3⟩ := HRR.out (by rw [List.length_map]; exact h0)
      exact ⟨e1, e2, fun k y hy => e3 k y.v (by rw [List.getElem?_map, hy]; rfl)⟩

end Go.Proofs.Ytnpjbdbhjbccbaa
