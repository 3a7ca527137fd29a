/-
  Put while a walk is under way: the walk tells what it would have told.
-/
import Derived.Test.YtmekcfbopjgbeaaSPart
import Derived.Test.YtmekcfbopjgbeaaSPutL
namespace Go.Proofs.Ytmekcfbopjgbeaa
open Go.RowKit Go.BigFrame Go.Sort

theorem own_base {w : World} {B B' : Nat} {e : TypeId} {sz : Nat} {v : Value} {n : Nat} {xs : List Value} (h : w.ownsRow B e sz v n xs) (hB : B' ≤ B) : w.ownsRow B' e sz v n xs := by
  rcases h.2 with h0 | ⟨g, cap, cur, hv, hbg, r⟩
  · exact ⟨h.1, .inl h0⟩
  · exact ⟨h.1, .inr ⟨g, cap, cur, hv, Nat.le_trans hB hbg, r⟩⟩
theorem Rs.of_own {w : World} {B : Nat} {v : Value} {R : List Cl} (h : w.ownsRow B 34 5 v R.length (ccells R)) : Rs w v R := by
  by_cases hn : R = []
  · subst hn
    rcases h.2 with ⟨rfl, h0⟩ | ⟨g, cap, cur, rfl, hbg, hg, hnc, hcm, _⟩
    · exact ⟨none, 0, rfl, by simp, by unfold maxLen; omega, fun hn => absurd rfl hn⟩
    · exact ⟨_, cap, rfl, hnc, hcm, fun hn => absurd rfl hn⟩
  · obtain ⟨g, cap, rfl, _, _, h1, h2, h3, _⟩ := own_crow h hn
    exact ⟨_, cap, rfl, h1, h2, fun _ => ⟨g, 0, rfl, h3, (own_blk_lt h rfl).2.2⟩⟩
theorem Rs.typ {w : World} {v : Value} {rs : List Cl} (h : Rs w v rs) (hn : rs ≠ []) {i : Nat} (hi : sblk v = some i) : ∃ cur, w.heap[i]? = some (.cells cur 34 (0, 0)) := by
  obtain ⟨q, cap, rfl, _, _, h3⟩ := h
  obtain ⟨g, off, rfl, _, cur, hc⟩ := h3 hn
  cases hi
  exact ⟨cur, hc⟩

set_option maxHeartbeats 1000000 in
/-- Put, whatever the cell is, while a walk is under way. -/
theorem Put_wk (l hd k : Nat) (T : List Tw) (F : Nat → Prop) (R : List Cl) (c : Cl) (h : Nat) (w : World) (hS : Stt l hd k T F R w) (hh1 : 1 ≤ h) (hh2 : h ≤ 12) (hlen : T.length ≤ 1000000) :
    Calls Try.prog 10 #[.pointer (some ⟨l, 0, none⟩), clV c, .int .i64 (h : Int)] w fun e w' => (∃ x, e = .returned (.int .i64 x)) ∧ ∃ T' F', Stt l hd k T' F' R w' ∧ T'.length ≤ T.length + 1 ∧ Kp w w' F ∧ ∀ i, F' i → F i ∨ w.heap.size ≤ i := by
  obtain ⟨v, xs, B, rest, rs, hst⟩ := hS
  cases hm : mayCl c with
  | false =>
    refine (Put_arg l hd c (h : Int) w hst.ls.blk.head (Or.inl hm)).mono ?_
    rintro e w' ⟨rfl, hb⟩
    exact ⟨⟨_, rfl⟩, T, F, Stt.below ⟨v, xs, B, rest, rs, hst⟩ hb, by omega, Kp.of_below _ hb, fun i hi => Or.inl hi⟩
  | true =>
    rcases hst.way with ⟨rfl, rfl, rfl⟩ | ⟨rfl, rfl⟩
    · refine (Put_ok l hd T v [pt (some k)] c h (fun i => i = l ∨ i = k) (fun W => ∃ rest', W.heap[k]? = some (.cells #[.pointer none, rest'] 97 (0, 0)) ∧ W.ownsRow w.heap.size 34 5 rest' R.length (ccells R)) w hst.ls hm hh1 hh2 (by omega) (fun w1 hb => (part_one l hd k T F R w1 v B _ _ (hst.kept hb.size fun i hi => hb.block i (hst.lt i hi)) hlen).mono fun e w2 q => ?_) (fun i e => ?_) (fun a b hL hq hK => ?_)).mono ?_
      · obtain ⟨q1, q2, ⟨rest', q3, q4⟩, q5⟩ := q
        exact ⟨q1, q2, q5, rest', q3, own_base q4 hb.size⟩
      · rcases e with rfl | rfl
        · exact hst.ls.blk.lt
        · exact blk_lt hst.blk
      · obtain ⟨rest', q3, q4⟩ := hq
        refine ⟨rest', (hK.block k (blk_lt q3) (hL.other q3 (by decide))).trans q3, own_kept q4 fun i hi => ?_⟩
        obtain ⟨h1, _, cur, h3⟩ := own_blk_lt q4 hi
        exact hK.block i h1 (hL.other h3 (by decide))
      · rintro e w' ⟨rfl, T', hP, hL', hK, rest', q3, q4⟩
        refine ⟨⟨_, rfl⟩, T', fun i => i < w'.heap.size ∧ (F i ∨ w.heap.size ≤ i), ⟨.slice none 0 0, [], [], rest', R, hL', q3, ⟨T', by simp⟩, Rs.of_own q4, by simp, Or.inr ⟨rfl, rfl⟩, hst.may, fun i hi => ?_, fun i hi => hi.1⟩, hP.length, hK.mono fun i hi => Or.inl ?_, fun i hi => hi.2⟩
        · rcases hi with hi | rfl | hi
          · refine ⟨hL'.lt hi, ?_⟩
            rcases hP.foot (v := v) hi with a | a
            · exact Or.inl (hst.foot i (Or.inl a))
            · exact Or.inr a
          · exact ⟨blk_lt q3, Or.inl (hst.foot i (Or.inr (Or.inl rfl)))⟩
          · have ho : rest'.ownBlock = some i := by
              rcases q4.2 with ⟨rfl, _⟩ | ⟨g, cap, cur, rfl, _⟩
              · cases hi
              · exact hi
            exact ⟨(own_blk_lt q4 ho).1, Or.inr (own_blk_lt q4 ho).2.1⟩
        · rcases hi with (rfl | rfl) | hi
          · exact hst.foot _ (Or.inl (Or.inl rfl))
          · exact hst.foot _ (Or.inr (Or.inl rfl))
          · exact hst.foot _ (Or.inl hi)
    · refine (Put_ok l hd T v [] c h (fun i => i = l) (fun W => W.heap[k]? = w.heap[k]? ∧ ∀ i, sblk rest = some i → rs ≠ [] → W.heap[i]? = w.heap[i]?) w hst.ls hm hh1 hh2 (by omega) (fun w1 hb => (part_none l hd T v w1 (hst.ls.below hb)).mono fun e w2 q => ⟨q.1, q.2.1, q.2.2, ?_, fun i hi hn => ?_⟩) (fun i e => by subst e; exact hst.ls.blk.lt) (fun a b hL hq hK => ?_)).mono ?_
      · exact (q.2.2.block k (Nat.lt_of_lt_of_le (blk_lt hst.blk) hb.size) (fun e => walk_ne hst.blk hst.ls (Or.inl e))).trans (hb.block k (blk_lt hst.blk))
      · obtain ⟨cur, hc⟩ := hst.row.typ hn hi
        exact (q.2.2.block i (Nat.lt_of_lt_of_le (blk_lt hc) hb.size) (fun e => hst.ls.other hc (by decide) (Or.inl e))).trans (hb.block i (blk_lt hc))
      · refine ⟨(hK.block k ?_ ?_).trans hq.1, fun i hi hn => ?_⟩
        · exact blk_lt (hq.1.trans hst.blk)
        · exact hL.other (hq.1.trans hst.blk) (by decide)
        · obtain ⟨cur, hc⟩ := hst.row.typ hn hi
          have h1 := (hq.2 i hi hn).trans hc
          exact (hK.block i (blk_lt h1) (hL.other h1 (by decide))).trans (hq.2 i hi hn)
      · rintro e w' ⟨rfl, T', hP, hL', hK, q3, q4⟩
        have hrow : Rs w' rest rs := by
          by_cases hn : rs = []
          · obtain ⟨q', cap, e1, e2, e3, e4⟩ := hst.row
            exact ⟨q', cap, e1, e2, e3, fun h => absurd hn h⟩
          · exact hst.row.kept fun i hi => q4 i hi hn
        refine ⟨⟨_, rfl⟩, T', fun i => i < w'.heap.size ∧ (F i ∨ w.heap.size ≤ i), ⟨.slice none 0 0, [], [], rest, rs, hL', q3.trans hst.blk, ⟨T', by simp⟩, hrow, hst.all, Or.inr ⟨rfl, rfl⟩, hst.may, fun i hi => ?_, fun i hi => hi.1⟩, hP.length, hK.mono fun i hi => Or.inl ?_, fun i hi => hi.2⟩
        · have hFi : F i → i < w'.heap.size ∧ (F i ∨ w.heap.size ≤ i) := fun hf => ⟨Nat.lt_of_lt_of_le (hst.lt i hf) hK.size, Or.inl hf⟩
          rcases hi with hi | rfl | hi
          · refine ⟨hL'.lt hi, ?_⟩
            rcases hP.foot (v := v) hi with a | a
            · exact Or.inl (hst.foot i (Or.inl a))
            · exact Or.inr a
          · exact hFi (hst.foot i (Or.inr (Or.inl rfl)))
          · exact hFi (hst.foot i (Or.inr (Or.inr hi)))
        · rcases hi with rfl | hi
          · exact hst.foot _ (Or.inl (Or.inl rfl))
          · exact hst.foot _ (Or.inl hi)

end Go.Proofs.Ytmekcfbopjgbeaa
