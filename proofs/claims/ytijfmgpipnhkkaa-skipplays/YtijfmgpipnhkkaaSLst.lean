/-
  The law's own list: all that a list tells, as a row.
-/
import Derived.Test.YtijfmgpipnhkkaaSFrm1
namespace Go.Proofs.Ytijfmgpipnhkkaa
open Go.RowKit
attribute [local go_sem] Oper.semAt_some
attribute [local go_sem] size_bstr toList_bstr ls_def

/-- An append onto a row that is owned: where it lies behind it. -/
theorem append_at {P : Program} {w w' : World} {base : Nat} {t ty e : TypeId} {i : TypeInfo} {z : Value} {size bytes : Nat} (ht : P.underlying t = some (.slice e)) (hi : P.info? e = some i) (hz : i.zero = some z) (hsize : i.size = size) (hby : i.bytes = bytes)
    {v v' : Value} {n : Nat} {xs : List Value} (hown : w.ownsRow base e size v n xs) {ad : Addr} {m c : Nat} {news : List Value} (hm : 0 < m) (hl : news.length = m * size) (hnews : ∀ j u, news[j]? = some u → w.cell? (ad.add j) = some u) (h1 : ∀ u ∈ news, u.oneCell' = true)
    (h63 : n + m ≤ maxLen) (hbytes : (n + m) * bytes ≤ 140737488355328) (hr : (Builtin.append_ #[t, t] ty #[v, .slice (some ad) m c]).run P w = .ok v' w') : v'.ownBlock = v.ownBlock ∨ v'.ownBlock = some w.heap.size := by
  have hsmall : n + m ≤ 9223372036854775807 := by simp only [maxLen] at h63; omega
  have hxl : xs.length = n * size := hown.1
  subst hsize hby
  rcases hown.2 with ⟨rfl, rfl⟩ | ⟨g, cap, cur, rfl, hbg, hg, hnc, hcm, hcs, htake⟩
  · have hr2 := run_append_nil (P := P) w t ty e i z ht hi hz ad m c news hl hnews hm (by omega) (by rw [Nat.zero_add] at hbytes; omega)
    rw [hr2] at hr
    cases hr
    exact Or.inr rfl
  · by_cases hroom : n + m ≤ cap
    · have hfit : n * i.size + news.length ≤ cur.size := by
        rw [hl, hcs, ← Nat.add_mul]
        exact Nat.mul_le_mul_right _ hroom
      have hr2 := run_append_room (P := P) w t ty e i ht hi g n cap cur hg ad m c news hl hnews h1 hroom hfit
      rw [hr2] at hr
      cases hr
      exact Or.inl rfl
    · have holds : ∀ j u, xs[j]? = some u → w.cell? ((⟨g, 0, none⟩ : Addr).add j) = some u := hown.cells (g := g) rfl
      have hr2 := run_append_grow (P := P) w t ty e i z ht hi hz ⟨g, 0, none⟩ n cap xs hxl holds ad m c news hl hnews (by omega) (by omega) (growslice_fits (by omega) hbytes)
      rw [hr2] at hr
      cases hr
      exact Or.inr rfl
theorem wpListIn_app {F : Fence} {n : Nat} {P : Program} (w : World) {ops : Array Oper} {rest : List Oper} {o : Oper} {a : Act} {Q : Exit → Act → World → Prop}
    (hg : o.guard = none) (s x : Operand) (t : TypeId) (hop : o.op = Op.call { callee := Callee.builtin Builtin.append, args := #[s, x], argTypes := #[t, t] })
    (base : Nat) (e : TypeId) (i : TypeInfo) (z : Value) (size bytes : Nat) (h1 : P.underlying t = some (.slice e)) (h2 : P.info? e = some i) (h3 : i.zero = some z) (h4 : i.size = size) (h5 : i.bytes = bytes) (h6 : z.cells.size = size) (h7 : 0 < size)
    (v : Value) (k : Nat) (xs : List Value) (hs : a.eval s = v) (hown : w.ownsRow base e size v k xs) (ad : Addr) (m c : Nat) (news : List Value) (hm : 0 < m) (hx : a.eval x = .slice (some ad) m c) (hn : news.length = m * size)
    (hc : ∀ j u, news[j]? = some u → w.cell? (ad.add j) = some u) (h1c : ∀ u ∈ news, u.oneCell' = true) (b1 : k + m ≤ maxLen) (b2 : (k + m) * bytes ≤ 140737488355328) (b3 : base ≤ w.heap.size)
    (hK : ∀ v' w', w'.ownsRow base e size v' (k + m) (xs ++ news) → w.grownBy w' v.ownBlock → (v'.ownBlock = v.ownBlock ∨ v'.ownBlock = some w.heap.size) → wpListIn F n P ops Q rest (a.put o.dst v') w') :
    wpListIn F n P ops Q (o :: rest) a w := by
  refine wpListIn_plain hg fun K hK' => ?_
  obtain ⟨v', w', hrun, r1, r2, r3⟩ := run_append_own (P := P) w base t o.type e i z size bytes h1 h2 h3 h4 h5 h6 h7 v k xs hown ad m c news hn hc h1c b1 b2 b3
  have hw := append_at (P := P) h1 h2 h3 h4 h5 hown hm hn hc h1c b1 b2 hrun
  unfold Oper.wpIn
  refine ⟨?_, ?_⟩
  · simp [Oper.about, hop, resolve, Target.leads, Sem.run_pure]
  · rw [Oper.semAt_plain F _ _ (by rw [hop]; intro c hc'; cases hc')]
    simp [execOp, hop, resolve, invoke, builtin, hs, hx, hrun, Result.andThen]
    exact hK' _ _ (hK v' w' r1 r2 hw)

theorem ct_nil (r : List UInt8) : 0 ≤ ct r [] := by
  unfold ct
  have : ls r [] = false := by cases r <;> rfl
  rw [this]
  simp
  split <;> omega
theorem ccl_first {c : Cl} (h : mayCl c = true) : 0 ≤ ccl c (plC [] []) := by
  have hv : c.ver ≤ 1099511627776 := by
    unfold mayCl mayC storedB at h
    simp at h
    omega
  unfold ccl cc or3
  have h1 := ct_nil c.row
  have h2 := ct_nil c.col
  simp only
  split
  · split
    · unfold Lib.compareInt
      rw [if_neg (by omega)]
      split <;> omega
    · exact h2
  · exact h1

/-- What the loop of list keeps. -/
structure LJ (w : World) (l hd : Nat) (T : List Tw) (v : Value) (D : Nat) (RR : Loop) (T' : List Tw) (F : Nat → Prop) (j : Nat) (W : World) : Prop where
  eT : T' = T
  kp : Kp w W (Ow l hd T v)
  fo : ∀ i, F i → Ow l hd T v i ∨ w.heap.size ≤ i
  rc : W.heap[D + 1]? = some (.loop RR)
  df : W.heap[D]? = some (.deferred (some []))
  nl : ¬ F (D + 1)
  nd : ¬ F D
  nb : ¬ F w.heap.size
  ro : ∃ rv, W.heap[w.heap.size]? = some (.cells #[rv] 25 (0, 0)) ∧ W.ownsRow w.heap.size 34 5 rv j (ccells ((T.map (fun t => t.c)).take j)) ∧ ∀ i, rv.ownBlock = some i → ¬ F i
theorem own_blk_lt {w : World} {B : Nat} {e : TypeId} {sz : Nat} {v : Value} {n : Nat} {xs : List Value} (h : w.ownsRow B e sz v n xs) {i : Nat} (hi : v.ownBlock = some i) : i < w.heap.size ∧ B ≤ i ∧ ∃ cur, w.heap[i]? = some (.cells cur e (0, 0)) := by
  rcases h.2 with ⟨rfl, _⟩ | ⟨g, cap, cur, rfl, hb, hg, _⟩
  · cases hi
  · cases hi; exact ⟨blk_lt hg, hb, cur, hg⟩
theorem LJ.abd (w : World) (l hd : Nat) (T : List Tw) (v : Value) (D : Nat) (RR : Loop) : Abd (LJ w l hd T v D RR) := by
  intro T' F F' j W W' h hK hF
  have hsz := h.kp.size
  have key : ∀ i, i < W.heap.size → ¬ F i → ¬ F' i := fun i hi hn hf => by
    rcases hF i hf with q | q
    · exact hn q
    · omega
  obtain ⟨rv, h1, h2, h3⟩ := h.ro
  refine ⟨h.eT, h.kp.trans hK h.fo, fun i hi => ?_, (hK.block _ (blk_lt h.rc) h.nl).trans h.rc, (hK.block _ (blk_lt h.df) h.nd).trans h.df, key _ (blk_lt h.rc) h.nl, key _ (blk_lt h.df) h.nd, key _ (blk_lt h1) h.nb, rv, (hK.block _ (blk_lt h1) h.nb).trans h1, own_kept h2 fun i hi => hK.block i (own_blk_lt h2 hi).1 (h3 i hi), fun i hi => key i (own_blk_lt h2 hi).1 (h3 i hi)⟩
  rcases hF i hi with q | q
  · exact h.fo i q
  · exact Or.inr (by omega)

end Go.Proofs.Ytijfmgpipnhkkaa
