/-
  merge.All: what it made tells; and of no rows.
  merge.All: rows handed to it are sifted, and laid into its list.
  merge.All.
-/
import Derived.Test.YtnpjbdbhjbccbaaMAll3
import Derived.Shelf.RegionOpen
namespace Go.Proofs.Ytnpjbdbhjbccbaa
open Go.RowKit Go.BigFrame Go.Sort
attribute [local go_sem] size_bstr toList_bstr ls_def

theorem AllJ.fix {rows : List Rd} {vb b cap : Nat} {tot : List Cl} {n : Nat} {w : World} (h : AllJ rows vb b cap tot n w) : AllFix w rows vb b cap := by
  obtain ⟨hs, D, hS, hI, hv, hB, _, _⟩ := h.out
  refine ⟨fun e => ?_, blk_lt hv, hB.lt, fun r hr i hi => ?_⟩
  · obtain ⟨cur, h1, _⟩ := hB.blk
    rw [← e, hv] at h1
    cases h1
  · obtain ⟨s, hs', rfl⟩ := List.mem_map.1 (hS.rows.mem_iff.2 hr)
    exact ⟨(hI.t s hs').lt _ _ (hI.j s hs') i hi, fun e => (hI.v s hs').1 (e ▸ hi), fun e => (hI.v s hs').2 (e ▸ hi)⟩
theorem AllJ.kept {rows : List Rd} {vb b cap : Nat} {tot : List Cl} {n : Nat} {w w' : World} (h : AllJ rows vb b cap tot n w) (hk : ∀ i, AllF rows vb b i → w'.heap[i]? = w.heap[i]?) : AllJ rows vb b cap tot n w' := by
  obtain ⟨hs, D, hS, hI, hv, hB, hc, hn⟩ := h.out
  exact ⟨hs, D, hS, hI.kept fun s hs' i hi => hk i (Or.inr (Or.inr ⟨s.r, hS.rows.mem_iff.1 (List.mem_map.2 ⟨s, hs', rfl⟩), hi⟩)), (hk vb (Or.inl rfl)).trans hv, hB.kept (hk b (Or.inr (Or.inl rfl))), hc, hn⟩
/-- All of rows tells. -/
theorem All_tlr {rows : List Rd} {vb b cap : Nat} {tot : List Cl} (hfit : ∀ c ∈ tot, Fits c) : Tlr 31 #[.pointer (some ⟨vb, 0, none⟩)] (AllF rows vb b) tot (AllJ rows vb b cap tot) where
  eg := enters_of Try.func31 (by kernel_rfl) rfl
  fits := hfit
  lt n w h i hi := by
    have hf := h.fix
    rcases hi with rfl | rfl | ⟨r, hr, hi⟩
    · exact hf.hv
    · exact hf.hb
    · exact (hf.f r hr i hi).1
  kept n w w' h hk := h.kept hk
  step n w h := All1_step n w h h.fix

/-! ### no rows -/
def AllN (vb : Nat) (w : World) : Prop := w.heap[vb]? = some (.cells #[.slice none 0 0] 49 (0, 0))
set_option maxHeartbeats 1000000 in
theorem HIndex_nil (fv : Value) (w : World) : Calls Try.prog 54 #[.slice none 0 0, fv] w fun e w' => e = .returned (.int .i64 (-1)) ∧ w' = w := by
  go_enter Try.func54, Try.ntmps54
  go_wp2
  refine wp_loop_rounds 1 ?_
  rw [rounds_succ]
  go_wp2
  go_ret
  exact ⟨rfl, rfl⟩
set_option maxHeartbeats 1000000 in
theorem HDel_nil (fv : Value) (w : World) : Calls Try.prog 32 #[.slice none 0 0, fv] w fun e w' => e = .returned (.slice none 0 0) ∧ w' = w := by
  go_enter Try.func32, Try.ntmps32
  go_wp2_with fail
  refine (HIndex_nil fv w).mono ?_
  rintro e w' ⟨rfl, rfl⟩
  go_wp2
  go_ret
  exact ⟨rfl, rfl⟩
set_option maxHeartbeats 2000000 in
theorem All1_nil (vb : Nat) (w : World) (h : AllN vb w) : Calls Try.prog 31 #[.pointer (some ⟨vb, 0, none⟩)] w fun e w' => e = .returned (.tuple #[clV zC, .bool false]) ∧ AllN vb w' ∧ Kp w w' (fun i => i = vb) := by
  have v0 : w.cell? ⟨vb, 0, none⟩ = some (.slice none 0 0) := (mcells h).1 0
  have vf := (mcells h).2 0
  have hvl := blk_lt h
  have hne : vb ≠ w.heap.size := by omega
  have hno := setCell_noop v0
  go_enter Try.func31, Try.ntmps31
  go_wp2
  refine wp_loop_rounds 1 ?_
  rw [rounds_succ]
  go_wp2_with (go_at_call 32; refine (HDel_nil _ _).mono ?_; rintro e w1 ⟨rfl, rfl⟩)
  refine ret_cell Try.results31 (c := zC) (v := .bool false) rfl rfl (At5.new w zC _ rfl) rfl ?_
  exact ⟨rfl, (heap_alloc_old _ _ hvl).trans h, (Kp.refl w _).alloc _⟩
theorem All_none (vb : Nat) : Tlr 31 #[.pointer (some ⟨vb, 0, none⟩)] (fun i => i = vb) [] (fun _ w => AllN vb w) where
  eg := enters_of Try.func31 (by kernel_rfl) rfl
  fits c hc := absurd hc (by simp)
  lt n w h i hi := by subst hi; exact blk_lt h
  kept n w w' h hk := (hk vb rfl).trans h
  step n w h := (All1_nil vb w h).mono fun e w' ⟨h1, h2, h3⟩ => ⟨by rw [ansV_no (Nat.zero_le _)]; exact h1, h2, h3⟩

end Go.Proofs.Ytnpjbdbhjbccbaa

namespace Go.Proofs.Ytnpjbdbhjbccbaa
open Go.RowKit Go.BigFrame Go.Sort
attribute [local go_sem] size_bstr toList_bstr ls_def

/-- An append onto a row that is owned: where it lies behind it. -/
theorem append_at {P : Program} {w w' : World} {base : Nat} {t ty e : TypeId} {i : TypeInfo} {z : Value} {size bytes : Nat} (ht : P.underlying t = some (.slice e)) (hi : P.info? e = some i) (hz : i.zero = some z) (hsize : i.size = size) (hby : i.bytes = bytes)
    {v v' : Value} {n : Nat} {xs : List Value} (hown : w.ownsRow base e size v n xs) {ad : Addr} {m c : Nat} {news : List Value} (hm : 0 < m) (hl : news.length = m * size) (hnews : ∀ j u, news[j]? = some u → w.cell? (ad.add j) = some u) (h1 : ∀ u ∈ news, u.oneCell' = true)
    (h63 : n + m ≤ maxLen) (hbytes : (n + m) * bytes ≤ 140737488355328) (hr : (Builtin.append_ #[t, t] ty #[v, .slice (some ad) m c]).run P w = .ok v' w') : v'.ownBlock = v.ownBlock ∨ v'.ownBlock = some w.heap.size := by
  have hsmall : n + m ≤ 9223372036854775807 := by simp only [maxLen] at h63; omega
  have hxl : xs.length = n * size := hown.1
  subst hsize hby
  rcases hown.2 with ⟨rfl, rfl⟩ | ⟨g, cap, cur, rfl, hbg, hg, hnc, hcm, hcs, htake⟩
  · have hr2 := run_append_nil (P := P) w t ty e i z ht hi hz ad m c news hl hnews hm (by omega) (by rw [Nat.zero_add] at hbytes; omega)
    rw [hr2] at hr
    cases hr
    exact Or.inr rfl
  · by_cases hroom : n + m ≤ cap
    · have hfit : n * i.size + news.length ≤ cur.size := by
        rw [hl, hcs, ← Nat.add_mul]
        exact Nat.mul_le_mul_right _ hroom
      have hr2 := run_append_room (P := P) w t ty e i ht hi g n cap cur hg ad m c news hl hnews h1 hroom hfit
      rw [hr2] at hr
      cases hr
      exact Or.inl rfl
    · have holds : ∀ j u, xs[j]? = some u → w.cell? ((⟨g, 0, none⟩ : Addr).add j) = some u := hown.cells (g := g) rfl
      have hr2 := run_append_grow (P := P) w t ty e i z ht hi hz ⟨g, 0, none⟩ n cap xs hxl holds ad m c news hl hnews (by omega) (by omega) (growslice_fits (by omega) hbytes)
      rw [hr2] at hr
      cases hr
      exact Or.inr rfl
theorem step_app_own {P : Program} {w : World} {ops : Array Oper} {o : Oper} {a : Act} {K : Act → World → Prop} {Q : Exit → Act → World → Prop} {E : Prop} (hgd : o.guard = none) (s x : Operand) (t : TypeId)
    (ho : o.op = .call { callee := .builtin .append, args := #[s, x], argTypes := #[t, t] }) (base : Nat) (e : TypeId) (i : TypeInfo) (z : Value) (size bytes : Nat) (h1 : P.underlying t = some (.slice e)) (h2 : P.info? e = some i) (h3 : i.zero = some z) (h4 : i.size = size) (h5 : i.bytes = bytes) (h6 : z.cells.size = size) (h7 : 0 < size)
    (v : Value) (k : Nat) (xs : List Value) (hs : a.eval s = v) (hown : w.ownsRow base e size v k xs) (ad : Addr) (m c : Nat) (news : List Value) (hm : 0 < m) (hx : a.eval x = .slice (some ad) m c) (hn : news.length = m * size)
    (hc : ∀ j u, news[j]? = some u → w.cell? (ad.add j) = some u) (h1c : ∀ u ∈ news, u.oneCell' = true) (b1 : k + m ≤ maxLen) (b2 : (k + m) * bytes ≤ 140737488355328) (b3 : base ≤ w.heap.size)
    (hK : ∀ v' w', w'.ownsRow base e size v' (k + m) (xs ++ news) → w.grownBy w' v.ownBlock → (v'.ownBlock = v.ownBlock ∨ v'.ownBlock = some w.heap.size) → K (a.put o.dst v') w') :
    if Region.wanted o (yielded ops a.tmps) = true then Oper.wp P o a w K Q else E := by
  have hw : Region.wanted o (yielded ops a.tmps) = true := by simp [Region.wanted, hgd]
  rw [if_pos hw]
  obtain ⟨v', w', hrun, r1, r2, r3⟩ := run_append_own (P := P) w base t o.type e i z size bytes h1 h2 h3 h4 h5 h6 h7 v k xs hown ad m c news hn hc h1c b1 b2 b3
  have hw := append_at (P := P) h1 h2 h3 h4 h5 hown hm hn hc h1c b1 b2 hrun
  unfold Oper.wp
  simp [execOp, ho, resolve, invoke, builtin, hs, hx, hrun, Result.andThen]
  exact hK v' w' r1 r2 hw
theorem own_succ {w : World} {B : Nat} {e : TypeId} {sz : Nat} {v : Value} {n : Nat} {xs : List Value} (h : w.ownsRow B e sz v (n + 1) xs) : ∃ q cap, v = .slice q (n + 1) cap := by
  rcases h.2 with ⟨_, e0⟩ | ⟨g, cap, cur, e, _⟩
  · omega
  · exact ⟨_, _, e⟩

theorem Try.infoHead : (Try.prog.info? 51).map (fun i => (i.zero, i.size, i.bytes)) = some (some (.agg #[.nilFunc, .string ⟨#[]⟩, .string ⟨#[]⟩, .int .u64 0, .bool false, .string ⟨#[]⟩, .bool false]), 7, 80) := by kernel_rfl
/-- A row as it is handed in. -/
structure InR where
  v : Value
  F : Nat → Prop
  cs : List Cl
  J : Nat → World → Prop
def RowW (x : InR) (w : World) : Prop := (x.v = .nilFunc ∧ x.cs = [] ∧ ∀ i, ¬ x.F i) ∨ ∃ g caps, x.v = .func (.func g) #[] caps ∧ Tlr g caps x.F x.cs x.J ∧ x.J 0 w
theorem RowW.lt {x : InR} {w : World} (h : RowW x w) : ∀ i, x.F i → i < w.heap.size := by
  rcases h with ⟨_, _, h⟩ | ⟨g, caps, _, hT, hJ⟩
  · exact fun i hi => absurd hi (h i)
  · exact hT.lt 0 w hJ
theorem RowW.below {x : InR} {w w' : World} (h : RowW x w) {B : Nat} (hF : ∀ i, x.F i → i < B) (hb : Below B w w') : RowW x w' := by
  rcases h with h | ⟨g, caps, hv, hT, hJ⟩
  · exact Or.inl h
  · exact Or.inr ⟨g, caps, hv, hT, hT.kept _ _ _ hJ fun i hi => hb.block i (hF i hi)⟩
theorem rising_w {x : InR} {w : World} (h : RowW x w) : Calls Try.prog 30 #[x.v] w (SiftQ x.v x.F x.cs x.J upF w) := by
  rcases h with ⟨h1, h2, h3⟩ | ⟨g, caps, hv, hT, hJ⟩
  · refine (rising_rv (F := x.F) (cs := []) (J := fun _ _ => True) (Or.inl ⟨h1, rfl, h3⟩) w trivial).mono ?_
    rintro e w' ⟨c', F', J', a, b, c, d, e2, _⟩
    rw [← h2] at b
    exact ⟨c', F', J', a, b, c, d, e2, fun _ _ _ _ hne => absurd h1 hne⟩
  · exact rising_rv (Or.inr ⟨g, caps, hv, hT⟩) w hJ
/-- What is made of a row. -/
structure OutR (B : Nat) (x : InR) (r : Rd) : Prop where
  cs : r.cs = siftL upF none x.cs
  F : ∀ i, r.F i → x.F i ∨ B ≤ i
  few : ∀ n W, r.J n W → r.cs = x.cs → x.v ≠ .nilFunc → ∃ m, m ≤ n ∧ x.J m W
def encR (r : Rd) : List Value := [.func (.func 60) #[] r.cp, .string ⟨#[]⟩, .string ⟨#[]⟩, .int .u64 0, .bool false, .string ⟨#[]⟩, .bool false]
def rcells (rs : List Rd) : List Value := rs.flatMap encR
theorem rcells_snoc (rs : List Rd) (r : Rd) : rcells (rs ++ [r]) = rcells rs ++ encR r := by simp [rcells]
theorem encR_one (r : Rd) : ∀ v ∈ encR r, v.oneCell' = true := by
  intro v hv
  simp [encR] at hv
  rcases hv with rfl | rfl | rfl | rfl | rfl | rfl <;> rfl
def HS.new (r : Rd) : HS := ⟨r, 0, zC, false⟩
theorem rcells_get : ∀ (rs : List Rd) (i : Nat) (r : Rd), rs[i]? = some r → ∀ j, j < 7 → (rcells rs)[i * 7 + j]? = (encR r)[j]?
  | [], i, r, h, _, _ => by simp at h
  | x :: rs, 0, r, h, j, hj => by
    simp at h
    subst h
    rw [rcells, List.flatMap_cons, Nat.zero_mul, Nat.zero_add, List.getElem?_append_left (by simpa [encR] using hj)]
  | x :: rs, i + 1, r, h, j, hj => by
    have ih := rcells_get rs i r (by simpa using h) j hj
    rw [rcells, List.flatMap_cons, List.getElem?_append_right (by simp [encR]; omega)]
    rw [show (i + 1) * 7 + j - (encR x).length = i * 7 + j by simp [encR]; omega]
    exact ih
/-- The list that is made, as All's. -/
theorem HB.of_own {w : World} {B : Nat} {g cap n : Nat} {rs : List Rd} (h : w.ownsRow B 51 7 (.slice (some ⟨g, 0, none⟩) n cap) n (rcells rs)) (hn : n = rs.length) : HB w g ((rs.map HS.new).map HS.hd) ∧ rs.length ≤ cap := by
  subst hn
  have hcells := h.cells (g := g) rfl
  rcases h.2 with ⟨e, _⟩ | ⟨g', cap', cur, e, hbg, hg, hnc, hcm, hcs, htk⟩
  · cases e
  · cases e
    refine ⟨⟨⟨cur, hg, by simp; omega⟩, fun i x hx => ?_⟩, hnc⟩
    rw [List.getElem?_map, List.getElem?_map] at hx
    cases hr : rs[i]? with
    | none => rw [hr] at hx; cases hx
    | some r =>
      rw [hr] at hx
      cases hx
      have hc := rcells_get rs i r hr
      have hx : ∀ j u, j < 7 → (encR r)[j]? = some u → w.cell? ⟨g, i * 7 + j, none⟩ = some u := fun j u hj hu => by
        have := hcells (i * 7 + j) u ((hc j hj).trans hu)
        rw [Addr.add_lit, Nat.zero_add] at this
        exact this
      exact ⟨hx 0 _ (by omega) rfl, hx 1 _ (by omega) rfl, hx 2 _ (by omega) rfl, hx 3 _ (by omega) rfl, hx 4 _ (by omega) rfl, hx 5 _ (by omega) rfl, hx 6 _ (by omega) rfl⟩

/-- All under way. -/
structure AB (w0 w : World) (ins : List InR) (rs : List Rd) (v : Value) : Prop where
  out : ∀ (k : Nat) (x : InR) (r : Rd), ins[k]? = some x → rs[k]? = some r → OutR (w0.heap.size + 1) x r
  t : ∀ r ∈ rs, Tlr 60 r.cp r.F r.cs r.J ∧ r.J 0 w
  vn : ∀ r ∈ rs, ¬ r.F w0.heap.size
  d : rs.Pairwise fun r s => ∀ i, r.F i → ¬ s.F i
  own : w.ownsRow (w0.heap.size + 1) 51 7 v rs.length (rcells rs)
  ob : ∀ g, v.ownBlock = some g → ∀ r ∈ rs, ¬ r.F g
  v : w.heap[w0.heap.size]? = some (.cells #[v] 49 (0, 0))
  k : Below w0.heap.size w0 w
theorem AB.step {w0 w w1 w4 w5 : World} {ins : List InR} {rs : List Rd} {v v' : Value} {x : InR} {r : Rd} (h : AB w0 w ins rs v) (hx : ins[rs.length]? = some x) (hxl : ∀ i, x.F i → i < w0.heap.size) (hd : ∀ k y, k < rs.length → ins[k]? = some y → ∀ i, y.F i → ¬ x.F i)
    (hr : OutR w.heap.size x r) (hT : Tlr 60 r.cp r.F r.cs r.J) (hJ : r.J 0 w1) (hb : Below w.heap.size w w1) {o : Obj} (hown : w4.ownsRow (w0.heap.size + 1) 51 7 v' (rs.length + 1) (rcells rs ++ encR r)) (hg : (w1.alloc o).grownBy w4 v.ownBlock) (hv : v'.ownBlock = v.ownBlock ∨ v'.ownBlock = some (w1.alloc o).heap.size)
    (h5 : w4.setCell ⟨w0.heap.size, 0, none⟩ v' = w5) : AB w0 w5 ins (rs ++ [r]) v' := by
  have hvl := blk_lt h.v
  have hsz := hb.size
  have hs1 : (w1.alloc o).heap.size = w1.heap.size + 1 := by simp
  have hrl := hT.lt 0 w1 hJ
  have hol : ∀ g, v.ownBlock = some g → w0.heap.size + 1 ≤ g ∧ g < w.heap.size := fun g hg => h.own.lt g hg
  have hor : ∀ g, v.ownBlock = some g → ¬ r.F g := fun g hg hf => by
    have := hol g hg
    rcases hr.F g hf with k | k
    · have := hxl g k; omega
    · omega
  have hrv : ¬ r.F w0.heap.size := fun hf => by
    rcases hr.F _ hf with k | k
    · have := hxl _ k; omega
    · omega
  have ho : ∀ i, i < w1.heap.size → v.ownBlock ≠ some i → i ≠ w0.heap.size → w5.heap[i]? = w1.heap[i]? := fun i hi h1 h2 => by
    rw [← h5, heap_set_other _ h2, hg.block i (by omega) (fun e => h1 e.symm)]
    exact heap_alloc_old _ _ hi
  have hvb4 : w4.heap[w0.heap.size]? = some (.cells #[v] 49 (0, 0)) := by
    rw [hg.block _ (by omega) (fun e => by have := hol _ e.symm; omega), heap_alloc_old _ _ (by omega), hb.block _ hvl]
    exact h.v
  have hown5 : w5.ownsRow (w0.heap.size + 1) 51 7 v' (rs.length + 1) (rcells rs ++ encR r) := by
    refine own_kp (S := fun i => i = w0.heap.size) hown ?_ (fun i hi => by omega)
    rw [← h5]
    exact (Kp.refl _ _).setCell _ (Or.inl rfl)
  refine ⟨fun k y s hy hs => ?_, fun s hs => ?_, fun s hs => ?_, ?_, ?_, fun g hg' s hs => ?_, ?_, ?_⟩
  · by_cases hk : k < rs.length
    · rw [List.getElem?_append_left hk] at hs
      exact h.out k y s hy hs
    · have hk2 : k = rs.length := by
        have := (List.getElem?_eq_some_iff.1 hs).1
        rw [List.length_append, List.length_singleton] at this
        omega
      subst hk2
      rw [List.getElem?_append_right (Nat.le_refl _), Nat.sub_self] at hs
      cases hs
      rw [hx] at hy
      cases hy
      exact ⟨hr.cs, fun i hi => by
        rcases hr.F i hi with k | k
        · exact Or.inl k
        · exact Or.inr (by omega), hr.few⟩
  · rcases List.mem_append.1 hs with hs | hs
    · obtain ⟨t1, t2⟩ := h.t s hs
      refine ⟨t1, t1.kept _ _ _ t2 fun i hi => ?_⟩
      have hil := t1.lt 0 w t2 i hi
      rw [ho i (by omega) (fun e => h.ob i e s hs hi) (fun e => h.vn s hs (e ▸ hi))]
      exact hb.block i hil
    · simp at hs
      subst hs
      exact ⟨hT, hT.kept _ _ _ hJ fun i hi => ho i (hrl i hi) (fun e => hor i e hi) (fun e => hrv (e ▸ hi))⟩
  · rcases List.mem_append.1 hs with hs | hs
    · exact h.vn s hs
    · simp at hs
      subst hs
      exact hrv
  · refine List.pairwise_append.2 ⟨h.d, by simp, fun s hs t ht => ?_⟩
    simp at ht
    subst ht
    intro i hi hf
    obtain ⟨t1, t2⟩ := h.t s hs
    have hil := t1.lt 0 w t2 i hi
    obtain ⟨k, hk, hks⟩ := List.getElem_of_mem hs
    obtain ⟨hxk, _⟩ := List.getElem?_eq_some_iff.1 hx
    have hy : ins[k]? = some ins[k] := List.getElem?_eq_getElem (by omega)
    have hs' : rs[k]? = some s := by rw [List.getElem?_eq_getElem hk, hks]
    rcases hr.F i hf with k1 | k1
    · rcases (h.out k _ s hy hs').F i hi with k2 | k2
      · exact hd k _ hk hy i k2 k1
      · have := hxl i k1; omega
    · omega
  · rw [List.length_append, rcells_snoc]
    exact hown5
  · have hcase : ∀ s ∈ rs ++ [r], ∀ i, s.F i → i < w1.heap.size := fun s hs i hi => by
      rcases List.mem_append.1 hs with hs | hs
      · obtain ⟨t1, t2⟩ := h.t s hs
        have := t1.lt 0 w t2 i hi
        omega
      · simp at hs; subst hs; exact hrl i hi
    intro hf
    rcases hv with e | e
    · rw [e] at hg'
      rcases List.mem_append.1 hs with hs2 | hs2
      · exact h.ob g hg' s hs2 hf
      · simp at hs2; subst hs2; exact hor g hg' hf
    · rw [e] at hg'
      cases hg'
      have := hcase s hs _ hf
      omega
  · rw [← h5]; exact heap_set_same hvb4 _
  · refine ⟨?_, ?_, ?_, ?_, fun i hi => ?_⟩
    · rw [← h5]; exact hg.os.trans (hb.os.trans h.k.os)
    · rw [← h5]; exact hg.tape.trans (hb.tape.trans h.k.tape)
    · rw [← h5]; exact hg.output.trans (hb.output.trans h.k.output)
    · have h1 := h.k.size
      have h2 := hg.size
      rw [← h5]
      simp only [World.setCell, Array.size_modify]
      omega
    · rw [ho i (by omega) (fun e => by have := hol i e; omega) (by omega), hb.block i (by omega)]
      exact h.k.block i hi

end Go.Proofs.Ytnpjbdbhjbccbaa

namespace Go.Proofs.Ytnpjbdbhjbccbaa
open Go.RowKit Go.BigFrame Go.Sort
attribute [local go_sem] size_bstr toList_bstr ls_def

/-- What All of rows tells. -/
def allL (ins : List InR) : List Cl := sortL (ins.map (fun x => siftL upF none x.cs)).flatten
/-- No row was asked for more than what was told, and one. -/
def LazyQ (ins : List InR) (n : Nat) (W : World) : Prop := ∀ x ∈ ins, siftL upF none x.cs = x.cs → x.v ≠ .nilFunc → ∃ m, m ≤ x.cs.length + 1 ∧ x.J m W ∧ ∀ i c, i + 1 < m → x.cs[i]? = some c → ∃ t ∈ (allL ins).take n, ccl c t = 0
def AllQ (ins : List InR) (w : World) (e : Ending) (w' : World) : Prop :=
  ∃ vb F J, e = .returned (.func (.func 31) #[] #[.pointer (some ⟨vb, 0, none⟩)]) ∧ Tlr 31 #[.pointer (some ⟨vb, 0, none⟩)] F (allL ins) J ∧ J 0 w' ∧ (∀ i, F i → (∃ x ∈ ins, x.F i) ∨ w.heap.size ≤ i) ∧ Below w.heap.size w w' ∧ ∀ n W, J n W → LazyQ ins n W
theorem AB.ends {w0 w : World} {ins : List InR} {rs : List Rd} {q : Option Addr} {n cap : Nat} (h : AB w0 w ins rs (.slice q n cap)) (hl : rs.length = ins.length) (hfit : ∀ x ∈ ins, ∀ c ∈ x.cs, Fits c) (hsm : rs.length ≤ 100000) (hlt : ∀ x ∈ ins, ∀ i, x.F i → i < w0.heap.size) :
    AllQ ins w0 (.returned (.func (.func 31) #[] #[.pointer (some ⟨w0.heap.size, 0, none⟩)])) w := by
  have hcs : rs.map Rd.cs = ins.map (fun x => siftL upF none x.cs) := by
    apply List.ext_getElem?
    intro k
    rw [List.getElem?_map, List.getElem?_map]
    cases hx : ins[k]? with
    | none =>
      rw [List.getElem?_eq_none_iff] at hx
      rw [List.getElem?_eq_none (by omega)]
      rfl
    | some x =>
      have hk := (List.getElem?_eq_some_iff.1 hx).1
      obtain ⟨r, hr⟩ : ∃ r, rs[k]? = some r := ⟨_, List.getElem?_eq_getElem (by omega)⟩
      rw [hr]
      exact congrArg some (h.out k x r hx hr).cs
  have hft : ∀ c ∈ allL ins, Fits c := fun c hc => by
    obtain ⟨l, h1, h2⟩ := List.mem_flatten.1 ((sortL_spec _).sub c hc)
    obtain ⟨x, h3, rfl⟩ := List.mem_map.1 h1
    exact hfit x h3 c (siftL_mem _ _ _ _ h2)
  rcases h.own.2 with ⟨hv, h0⟩ | ⟨g, cap', cur, hv, hbg, hg, hnc, hcm, hcs', htk⟩
  · cases hv
    have hins : ins = [] := List.eq_nil_of_length_eq_zero (by omega)
    subst hins
    exact ⟨_, _, _, rfl, All_none _, h.v, fun i hi => Or.inr (by omega), h.k, fun n W _ x hx => absurd hx (by simp)⟩
  · cases hv
    obtain ⟨hB, hc⟩ := HB.of_own h.own rfl
    have hI : Inv w w0.heap.size g (rs.map HS.new ++ []) := by
      rw [List.append_nil]
      refine ⟨fun s hs => ?_, fun s hs => ?_, List.pairwise_map.2 h.d, fun s hs => ?_⟩
      · obtain ⟨r, hr, rfl⟩ := List.mem_map.1 hs; exact (h.t r hr).1
      · obtain ⟨r, hr, rfl⟩ := List.mem_map.1 hs; exact (h.t r hr).2
      · obtain ⟨r, hr, rfl⟩ := List.mem_map.1 hs; exact ⟨h.vn r hr, h.ob g rfl r hr⟩
    have hasc : ∀ r ∈ rs, Asc r.cs := fun r hr => by
      have : r.cs ∈ rs.map Rd.cs := List.mem_map.2 ⟨r, hr, rfl⟩
      rw [hcs] at this
      obtain ⟨x, _, e⟩ := List.mem_map.1 this
      rw [← e]
      exact (asc_up _ _).1
    have hS : AllS rs (allL ins) 0 (rs.map HS.new) [] := by
      refine ⟨?_, fun s hs => ?_, fun s hs => absurd hs (by simp), fun s hs i x hi _ => ?_, ?_⟩
      · rw [List.drop_zero, List.map_map]
        unfold allL
        rw [← hcs]
        rfl
      · obtain ⟨r, hr, rfl⟩ := List.mem_map.1 hs
        exact ⟨hasc r hr, fun e => (by cases e), fun _ => Nat.zero_le _⟩
      · rw [List.append_nil] at hs
        obtain ⟨r, hr, rfl⟩ := List.mem_map.1 hs
        exact absurd hi (by simp [HS.done, HS.new])
      · rw [List.append_nil, List.map_map]
        have : (HS.r ∘ HS.new) = id := rfl
        rw [this, List.map_id]
    refine ⟨_, _, _, rfl, All_tlr (rows := rs) (b := g) (cap := cap) hft, ⟨_, _, hS, hI, ?_, hB, by simpa using hc, by simpa using hsm⟩, fun i hi => ?_, h.k, fun n W hJ x hx he hne => ?_⟩
    · rw [List.length_map]; exact h.v
    · rcases hi with rfl | rfl | ⟨r, hr, hi⟩
      · exact Or.inr (Nat.le_refl _)
      · exact Or.inr (by omega)
      · obtain ⟨k, hk, hkr⟩ := List.getElem_of_mem hr
        have hx : ins[k]? = some (ins[k]'(by omega)) := List.getElem?_eq_getElem (by omega)
        rcases (h.out k _ r hx (by rw [List.getElem?_eq_getElem hk, hkr])).F i hi with e | e
        · exact Or.inl ⟨_, List.getElem_mem _, e⟩
        · exact Or.inr (by omega)
    · obtain ⟨k, hk, hkx⟩ := List.getElem_of_mem hx
      obtain ⟨r, hr⟩ : ∃ r, rs[k]? = some r := ⟨_, List.getElem?_eq_getElem (by omega)⟩
      have ho := h.out k x r (by rw [List.getElem?_eq_getElem hk, hkx]) hr
      obtain ⟨hs, D, hS', hI', _⟩ := hJ.out
      obtain ⟨s, hs', e⟩ := List.mem_map.1 (hS'.rows.mem_iff.2 (List.mem_of_getElem? hr))
      have hj := hI'.j s hs'
      rw [e] at hj
      obtain ⟨m, hm, hxm⟩ := ho.few s.n W hj (ho.cs.trans he) hne
      have hsn : s.n ≤ x.cs.length + 1 := by
        have e2 : s.r.cs = x.cs := by rw [e]; exact ho.cs.trans he
        rw [← e2]
        rcases List.mem_append.1 hs' with k | k
        · have ho2 := hS'.ok s k
          cases hh : s.has with
          | true =>
            have := (List.getElem?_eq_some_iff.1 (ho2.has hh).2).1
            have := (ho2.has hh).1
            omega
          | false => have := ho2.le hh; omega
        · have := (hS'.dn s k).1
          omega
      refine ⟨m, by omega, hxm, fun i c hi hc' => ?_⟩
      refine hS'.tk s hs' i c ?_ ?_
      · unfold HS.done
        split <;> omega
      · rw [e, ho.cs, he]; exact hc'

theorem rnews (w1 : World) (r : Rd) : ∀ j u, (encR r)[j]? = some u → (w1.alloc (.cells #[.func (.func 60) #[] r.cp, .string ⟨#[]⟩, .string ⟨#[]⟩, .int .u64 0, .bool false, .string ⟨#[]⟩, .bool false] 51)).cell? ((⟨w1.heap.size, 0, none⟩ : Addr).add j) = some u := by
  intro j u hj
  rw [Addr.add_lit, Nat.zero_add, (mcells (heap_alloc_new w1 _)).1 j, ← hj]
  unfold encR
  simp
set_option maxHeartbeats 4000000 in
set_option maxRecDepth 100000 in
theorem All_any (q : Option Addr) (rb off cap : Nat) (ins : List InR) (w : World) (hq : 0 < ins.length → q = some ⟨rb, off, none⟩ ∧ rb < w.heap.size ∧ ∀ (k : Nat) (x : InR), ins[k]? = some x → w.cell? ⟨rb, off + k, none⟩ = some x.v) (hR : ∀ x ∈ ins, RowW x w) (hd : ins.Pairwise fun x y => ∀ i, x.F i → ¬ y.F i) (hn : ins.length ≤ 100000) (hfit : ∀ x ∈ ins, ∀ c ∈ x.cs, Fits c) :
    Calls Try.prog 11 #[.slice q ins.length cap] w (AllQ ins w) := by
  obtain ⟨i0, hi0, hz0, hz1, hz2⟩ := info_parts Try.infoHead
  have hmf : ∀ (fn : Fn) (first cap : Array Value) (w : World), (Instr.makeFunc fn first cap).run Try.prog w = .ok (.func fn first cap) w := fun _ _ _ _ => rfl
  have hA0 : AB w (w.alloc (.cells #[.slice none 0 0] 49)) ins [] (.slice none 0 0) :=
    ⟨fun k x r _ hr => absurd hr (by simp), fun r hr => absurd hr (by simp), fun r hr => absurd hr (by simp), List.Pairwise.nil, ⟨rfl, .inl ⟨rfl, rfl⟩⟩, fun g hg => (by cases hg), heap_alloc_new w _, (Below.refl _ _).alloc (Nat.le_refl _) _⟩
  have hxl : ∀ x ∈ ins, ∀ i, x.F i → i < w.heap.size := fun x hx => (hR x hx).lt
  go_enter Try.func11, Try.ntmps11
  go_wp2
  generalize w.alloc (.cells #[.slice none 0 0] 49) = wz at *
  go_loopw [8] (fun s8 wr => ∃ i : Nat, s8 = .int .i64 (i : Int) ∧ i ≤ ins.length ∧ Hid (∃ rs q n cap, rs.length = i ∧ AB w wr ins rs (.slice q n cap))) (fun s8 _ => ins.length - (intOf s8).toNat)
  case atStart => exact ⟨0, rfl, by omega, ⟨[], _, _, _, rfl, hA0⟩⟩
  case round =>
    obtain ⟨i, rfl, hil, HR⟩ := hrel
    obtain ⟨rs, qv, nv, capv, hrl, hA⟩ := HR.out
    clear HR
    subst hrl
    by_cases hlt : rs.length < ins.length
    · obtain ⟨rfl, hrb, hcell⟩ := hq (by omega)
      obtain ⟨x, hx⟩ : ∃ x, ins[rs.length]? = some x := ⟨_, List.getElem?_eq_getElem hlt⟩
      have hxm := List.mem_of_getElem? hx
      have hRx := (hR x hxm).below (hxl x hxm) hA.k
      have c0 : wr.cell? ⟨rb, off + rs.length, none⟩ = some x.v := by rw [hA.k.cell (p := ⟨rb, off + rs.length, none⟩) hrb]; exact hcell _ x hx
      have hnv : nv = rs.length := by
        rcases hA.own.2 with ⟨e, e0⟩ | ⟨g, cap', cur, e, _⟩
        · cases e; omega
        · cases e; rfl
      subst hnv
      have v0 := (mcells hA.v).1 0
      have hvl := blk_lt hA.v
      have HA : Hid _ := hA
      have HX : Hid _ := hx
      have hrise := rising_w (w := wr.drew) (x := x) (by
        rcases hRx with k | ⟨g, caps, k1, k2, k3⟩
        · exact Or.inl k
        · exact Or.inr ⟨g, caps, k1, k2, k2.kept _ _ _ k3 (fun _ _ => rfl)⟩)
      have HRS : Hid _ := hRx
      clear hA hA0 hx hcell hRx
      go_wp2_with fail
      have hv1 : ∀ w1, Below wr.heap.size wr w1 → w1.cell? ⟨w.heap.size, 0, none⟩ = some (.slice qv rs.length capv) := fun w1 hb => by
        rw [hb.cell (p := ⟨w.heap.size, 0, none⟩) hvl]
        exact v0
      have hown1 : ∀ w1 o, Below wr.heap.size wr w1 → (w1.alloc o).ownsRow (w.heap.size + 1) 51 7 (.slice qv rs.length capv) rs.length (rcells rs) := fun w1 o hb => (own_cbelow HA.out.own hb).alloc o
      have hsz1 : ∀ w1, Below wr.heap.size wr w1 → w.heap.size < w1.heap.size := fun w1 hb => Nat.lt_of_lt_of_le hvl hb.size
      have hv4' : ∀ w1 o w4, Below wr.heap.size wr w1 → (w1.alloc o).grownBy w4 (Value.slice qv rs.length capv).ownBlock → w4.cell? ⟨w.heap.size, 0, none⟩ = some (.slice qv rs.length capv) ∧ w4.frozen? ⟨w.heap.size, 0, none⟩ = false := fun w1 o w4 hb hg => by
        have hs := hb.size
        have h1 : w4.heap[w.heap.size]? = some (.cells #[.slice qv rs.length capv] 49 (0, 0)) := by
          rw [hg.block _ (by simp; omega) (fun e => by have := (HA.out.own.lt _ e.symm).1; omega), heap_alloc_old _ _ (by omega), hb.block _ hvl]
          exact HA.out.v
        exact ⟨(mcells h1).1 0, (mcells h1).2 0⟩
      go_region_law
        (first
          | (go_simp; go_at_call 30; refine hrise.mono ?_; rintro e w1 ⟨caps', F', J', rfl, hT1, hJ1, hF1, hb1, hfew1⟩; have hb : Below wr.heap.size wr w1 := below2 (Below.refl wr.heap.size wr).drew hb1; have v1 := hv1 w1 hb; have hvl1 := hsz1 w1 hb; dsimp only)
          | (refine step_app_own (by rfl) _ _ 49 (by rfl) (w.heap.size + 1) 51 i0 (.agg #[.nilFunc, .string ⟨#[]⟩, .string ⟨#[]⟩, .int .u64 0, .bool false, .string ⟨#[]⟩, .bool false]) 7 80 Try.underlying49 hi0 hz0 hz1 hz2 rfl (by decide) (.slice qv rs.length capv) rs.length _ (by rfl) (hown1 w1 _ hb) ⟨w1.heap.size, 0, none⟩ 1 1 (encR ⟨caps', F', siftL upF none x.cs, J'⟩) (by omega) (by rfl) rfl (rnews w1 ⟨caps', F', siftL upF none x.cs, J'⟩) (encR_one _) (by unfold maxLen; omega) (by omega) (by simp; omega) ?_; intro v4 w4 hown4 hgr4 hv4; obtain ⟨q4, cap4, rfl⟩ := own_succ hown4; obtain ⟨d0, d1⟩ := hv4' w1 _ w4 hb hgr4))
      all_goals (
        have hd' : ∀ k y, k < rs.length → ins[k]? = some y → ∀ i, y.F i → ¬ x.F i := fun k y hk hy => by
          obtain ⟨h1, e1⟩ := List.getElem?_eq_some_iff.1 hy
          obtain ⟨h2, e2⟩ := List.getElem?_eq_some_iff.1 HX.out
          rw [← e1, ← e2]
          exact List.pairwise_iff_getElem.1 hd k rs.length h1 h2 hk
        have hAB := HA.out.step (r := ⟨caps', F', siftL upF none x.cs, J'⟩) HX.out (hxl x hxm) hd' ⟨rfl, hF1, hfew1⟩ hT1 hJ1 hb hown4 hgr4 hv4 rfl
        have HAB : Hid _ := hAB
        clear hAB hd' v1 d0 d1 hv4' hv1 hown1 hsz1 hrise c0 v0 hown4 hgr4 hv4 hF1 hfew1 hT1 hJ1 hb hb1
        go_wp2
        go_roundw
        case rel => exact ⟨rs.length + 1, by go_num, by omega, ⟨_, _, _, _, by simp, HAB.out⟩⟩
        case measure => simp [intOf]; omega)
    · have hie : rs.length = ins.length := by omega
      have HA : Hid _ := hA
      have HIE : Hid _ := hie
      clear hie
      go_wp2
      go_ret
      exact HA.out.ends HIE.out hfit (by omega) hxl

end Go.Proofs.Ytnpjbdbhjbccbaa

