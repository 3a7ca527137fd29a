/-
  The law MergeSorts: its two lists that grow side by side.
-/
import Derived.Test.YtnpjbdbhjbccbaaMRws
namespace Go.Proofs.Ytnpjbdbhjbccbaa
open Go.RowKit Go.BigFrame Go.Sort
attribute [local go_sem] size_bstr toList_bstr ls_def

theorem append_at2 {P : Program} {w w' : World} {base : Nat} {t ty e : TypeId} {i : TypeInfo} {z : Value} {size bytes : Nat} (ht : P.underlying t = some (.slice e)) (hi : P.info? e = some i) (hz : i.zero = some z) (hsize : i.size = size) (hby : i.bytes = bytes)
    {v v' : Value} {n : Nat} {xs : List Value} (hown : w.ownsRow base e size v n xs) {ad : Addr} {m c : Nat} {news : List Value} (hl : news.length = m * size) (hnews : ∀ j u, news[j]? = some u → w.cell? (ad.add j) = some u) (h1 : ∀ u ∈ news, u.oneCell' = true)
    (h63 : n + m ≤ maxLen) (hbytes : (n + m) * bytes ≤ 140737488355328) (hr : (Builtin.append_ #[t, t] ty #[v, .slice (some ad) m c]).run P w = .ok v' w') : v'.ownBlock = v.ownBlock ∨ v'.ownBlock = some w.heap.size := by
  by_cases hm : 0 < m
  · exact append_at ht hi hz hsize hby hown hm hl hnews h1 h63 hbytes hr
  · have hm0 : m = 0 := by omega
    subst hm0
    subst hsize hby
    have hn0 : news = [] := List.eq_nil_of_length_eq_zero (by simpa using hl)
    subst hn0
    rcases hown.2 with ⟨rfl, rfl⟩ | ⟨g, cap, cur, rfl, hbg, hg, hnc, hcm, hcs, htake⟩
    · simp [Builtin.append_, run_underlying ht, sizeOf, typeInfo, hi, Builtin.lenOf, Builtin.firstCells, loadCells, loadCellsFrom] at hr
      rw [← hr.1]
      exact Or.inl rfl
    · have hfit : n * i.size + ([] : List Value).length ≤ cur.size := by
        rw [hcs]
        simpa using Nat.mul_le_mul_right _ hnc
      have hr2 := run_append_room (P := P) w t ty e i ht hi g n cap cur hg ad 0 c [] hl hnews h1 (by omega) hfit
      rw [hr2] at hr
      cases hr
      exact Or.inl rfl
/-- A list appended to a row of cells that the call owns, with where it lies behind it. -/
theorem wpList_app_list {w : World} {ops : Array Oper} {rest : List Oper} {o : Oper} {a : Act} {Q : Exit → Act → World → Prop} (hgd : o.guard = none) (s x : Operand)
    (ho : o.op = .call { callee := .builtin .append, args := #[s, x], argTypes := #[29, 29] })
    (base : Nat) (v : Value) (xs : List Cl) (hs : a.eval s = v) (hown : w.ownsRow base 39 5 v xs.length (ccells xs))
    (q : Option Addr) (b off cap : Nat) (ds : List Cl) (hx : a.eval x = .slice q ds.length cap) (hA : Arg w q b off cap ds) (hbytes : (xs.length + ds.length) * 64 ≤ 140737488355328) (hbase : base ≤ w.heap.size)
    (h : ∀ v' w', w'.ownsRow base 39 5 v' (xs ++ ds).length (ccells (xs ++ ds)) → w.grownBy w' v.ownBlock → (v'.ownBlock = v.ownBlock ∨ v'.ownBlock = some w.heap.size) → wpList Try.prog ops Q rest (a.put o.dst v') w') : wpList Try.prog ops Q (o :: rest) a w := by
  obtain ⟨i0, hi, hz0, hz1, hz2⟩ := info_parts Try.infoCell
  cases q with
  | none =>
    obtain ⟨rfl, rfl⟩ := hA.nil rfl
    refine wpList_append_own_none hgd s x 29 ho base 39 i0 5 Try.underlying29 hi v _ _ hs hown hx (h v w ?_ ⟨rfl, rfl, rfl, Nat.le_refl _, fun _ _ _ => rfl⟩ (Or.inl rfl))
    rw [List.append_nil]
    exact hown
  | some ad =>
    have hnews : ∀ j u, (ccells ds)[j]? = some u → w.cell? (ad.add j) = some u := by
      intro j u hj
      have h0 : 0 < ds.length := by
        by_cases h : 0 < ds.length
        · exact h
        · have : ds = [] := List.eq_nil_of_length_eq_zero (by omega)
          subst this
          simp [ccells] at hj
      obtain ⟨e, hR, _⟩ := hA.at_ h0
      cases e
      exact hR.cells j u hj
    refine wpList_plain hgd fun K hK' => ?_
    obtain ⟨v', w', hrun, r1, r2, r3⟩ := run_append_own (P := Try.prog) w base 29 o.type 39 i0 (.agg #[.string ⟨#[]⟩, .string ⟨#[]⟩, .int .u64 0, .bool false, .string ⟨#[]⟩]) 5 64 Try.underlying29 hi hz0 hz1 hz2 rfl (by decide) v _ _ hown ad ds.length cap (ccells ds) (ccells_length ds) hnews (ccells_one ds) (by unfold maxLen; omega) hbytes hbase
    have hw := append_at2 (P := Try.prog) Try.underlying29 hi hz0 hz1 hz2 hown (ccells_length ds) hnews (ccells_one ds) (by unfold maxLen; omega) hbytes hrun
    unfold Oper.wp
    simp [execOp, ho, resolve, invoke, builtin, hs, hx, hrun, Result.andThen]
    refine hK' _ _ (h v' w' ?_ r2 hw)
    rw [List.length_append, ccells_append]
    exact r1
/-- The two lists of the law. -/
structure SB (w0 w : World) (ys : List IS) (ss : List IS) (va vs : Value) : Prop where
  cs : ss.map IS.cs = (ys.take ss.length).map (fun y => sortL y.cs)
  arg : ∀ s ∈ ss, Arg w s.q s.b s.off s.cap s.cs ∧ s.cs.length ≤ s.cap
  al : w.ownsRow w0.heap.size 39 5 va (ss.map IS.cs).flatten.length (ccells (ss.map IS.cs).flatten)
  so : w.ownsRow w0.heap.size 29 1 vs ss.length (ss.map IS.v)
  oa : ∀ g, va.ownBlock = some g → ∀ s ∈ ss, 0 < s.cs.length → s.b ≠ g
  os : ∀ g, vs.ownBlock = some g → ∀ s ∈ ss, 0 < s.cs.length → s.b ≠ g
  k : Below w0.heap.size w0 w
theorem own_ty {w : World} {B e e' size size' n n' : Nat} {v v' : Value} {xs xs' : List Value} (h : w.ownsRow B e size v n xs) (h' : w.ownsRow B e' size' v' n' xs') (hne : e ≠ e') {g : Nat} (hg : v.ownBlock = some g) (hg' : v'.ownBlock = some g) : False := by
  rcases h.2 with ⟨rfl, _⟩ | ⟨g1, cap, cur, rfl, _, k1, _⟩
  · cases hg
  · rcases h'.2 with ⟨rfl, _⟩ | ⟨g2, cap', cur', rfl, _, k2, _⟩
    · cases hg'
    · cases hg
      cases hg'
      rw [k1] at k2
      cases k2
      exact hne rfl
theorem own_gr {w w' : World} {B e size n : Nat} {v : Value} {xs : List Value} {r : Option Nat} (h : w.ownsRow B e size v n xs) (hg : w.grownBy w' r) (hr : ∀ g, v.ownBlock = some g → r ≠ some g) : w'.ownsRow B e size v n xs := by
  rcases h.2 with h0 | ⟨g, cap, cur, rfl, hbg, k, r2⟩
  · exact ⟨h.1, .inl h0⟩
  · exact ⟨h.1, .inr ⟨g, cap, cur, rfl, hbg, (hg.block g (blk_lt k) (fun e => hr g rfl e.symm)).trans k, r2⟩⟩
theorem Arg.gr {w w' : World} {q : Option Addr} {b off cap : Nat} {cs : List Cl} {r : Option Nat} (h : Arg w q b off cap cs) (hg : w.grownBy w' r) (hr : 0 < cs.length → r ≠ some b) : Arg w' q b off cap cs :=
  ⟨fun h0 => by
    obtain ⟨a, c, d⟩ := h.at_ h0
    exact ⟨a, c.blk (hg.block b d (fun e => hr h0 e.symm)), Nat.lt_of_lt_of_le d hg.size⟩, h.nil⟩
theorem SB.step {w0 w w1 w2 w4 : World} {ys ss : List IS} {va vs va' vs' : Value} {y s : IS} (h : SB w0 w ys ss va vs) (hy : ys[ss.length]? = some y) (hs : s.cs = sortL y.cs) (hA : Arg w1 s.q s.b s.off s.cap s.cs) (hsc : s.cs.length ≤ s.cap) (hsb : w.heap.size ≤ s.b) (hb : Below w.heap.size w w1)
    (ha : w2.ownsRow w0.heap.size 39 5 va' ((ss.map IS.cs).flatten ++ s.cs).length (ccells ((ss.map IS.cs).flatten ++ s.cs))) (ga : w1.grownBy w2 va.ownBlock) (la : va'.ownBlock = va.ownBlock ∨ va'.ownBlock = some w1.heap.size)
    {o : Obj} (ho : w4.ownsRow w0.heap.size 29 1 vs' (ss.length + 1) (ss.map IS.v ++ [s.v])) (go : (w2.alloc o).grownBy w4 vs.ownBlock) (lo : vs'.ownBlock = vs.ownBlock ∨ vs'.ownBlock = some (w2.heap.size + 1)) : SB w0 w4 ys (ss ++ [s]) va' vs' := by
  have z1 := hb.size
  have z2 := ga.size
  have z3 : (w2.alloc o).heap.size = w2.heap.size + 1 := by simp
  have z4 := go.size
  have hkz := h.k.size
  have hal : w2.grownBy (w2.alloc o) none := ⟨rfl, rfl, rfl, by simp, fun k hk _ => heap_alloc_old _ _ hk⟩
  have hla : ∀ g, va.ownBlock = some g → g < w.heap.size := fun g hg => (h.al.lt g hg).2
  have hls : ∀ g, vs.ownBlock = some g → g < w.heap.size := fun g hg => (h.so.lt g hg).2
  have hag : ∀ t : IS, t ∈ ss → 0 < t.cs.length → t.b < w.heap.size := fun t ht h0 => ((h.arg t ht).1.at_ h0).2.2
  have hso2 : (w2.alloc o).ownsRow w0.heap.size 29 1 vs ss.length (ss.map IS.v) :=
    own_gr (own_gr (own_cbelow h.so hb) ga (fun g hg e => own_ty h.al h.so (by decide) e hg)) hal (fun g hg => by simp)
  have ha2 : (w2.alloc o).ownsRow w0.heap.size 39 5 va' ((ss.map IS.cs).flatten ++ s.cs).length (ccells ((ss.map IS.cs).flatten ++ s.cs)) := own_gr ha hal (fun g hg => by simp)
  have ha4 := own_gr ha2 go (fun g hg e => own_ty ha2 hso2 (by decide) hg e)
  refine ⟨?_, fun t ht => ?_, ?_, ?_, fun g hg t ht h0 e => ?_, fun g hg t ht h0 e => ?_, ?_⟩
  · rw [List.map_append, List.length_append, List.length_singleton, h.cs, List.take_add_one, hy, List.map_append]
    simp [hs]
  · rcases List.mem_append.1 ht with ht | ht
    · refine ⟨?_, (h.arg t ht).2⟩
      exact ((((h.arg t ht).1.next hb).gr ga (fun h0 e => h.oa t.b e t ht h0 rfl)).gr hal (fun _ => by simp)).gr go (fun h0 e => h.os t.b e t ht h0 rfl)
    · simp at ht
      subst ht
      exact ⟨((hA.gr ga (fun h0 e => by have := hla _ e; omega)).gr hal (fun _ => by simp)).gr go (fun h0 e => by have := hls _ e; omega), hsc⟩
  · have e : ((ss ++ [s]).map IS.cs).flatten = (ss.map IS.cs).flatten ++ s.cs := by simp
    rw [e]
    exact ha4
  · rw [List.length_append, List.map_append]
    exact ho
  · have htl : t.b < w1.heap.size := by
      rcases List.mem_append.1 ht with ht | ht
      · have := hag t ht h0; omega
      · simp at ht; subst ht; exact (hA.at_ h0).2.2
    rcases la with l | l
    · rw [l] at hg
      rcases List.mem_append.1 ht with ht | ht
      · exact h.oa g hg t ht h0 e
      · simp at ht; subst ht; have := hla g hg; omega
    · rw [l] at hg
      cases hg
      omega
  · have htl : t.b < w1.heap.size := by
      rcases List.mem_append.1 ht with ht | ht
      · have := hag t ht h0; omega
      · simp at ht; subst ht; exact (hA.at_ h0).2.2
    rcases lo with l | l
    · rw [l] at hg
      rcases List.mem_append.1 ht with ht | ht
      · exact h.os g hg t ht h0 e
      · simp at ht; subst ht; have := hls g hg; omega
    · rw [l] at hg
      cases hg
      omega
  · have b1 : Below w0.heap.size w0 w1 := below2 h.k hb
    have b2 : Below w0.heap.size w0 w2 := b1.grown ga b1.size (fun g hg => (h.al.lt g hg).1)
    have b3 : Below w0.heap.size w0 (w2.alloc o) := b2.alloc b2.size _
    exact b3.grown go b3.size (fun g hg => (h.so.lt g hg).1)

end Go.Proofs.Ytnpjbdbhjbccbaa
