/-
  A walk begins.
-/
import Derived.Test.YtijfmgpipnhkkaaSWk2
import Derived.Test.YtijfmgpipnhkkaaGPure
namespace Go.Proofs.Ytijfmgpipnhkkaa
open Go.RowKit Go.BigFrame Go.Sort
attribute [local go_sem] size_bstr toList_bstr ls_def

theorem Try.infoWalkP : (Try.prog.info? 72).map (fun i => (i.zero, i.size, i.bytes)) = some (some (.pointer none), 1, 8) := by kernel_rfl
theorem wk_news (W : World) (k : Nat) (t : TypeId) : ∀ j u, ([Value.pointer (some ⟨k, 0, none⟩)])[j]? = some u → (W.alloc (.cells #[.pointer (some ⟨k, 0, none⟩)] t)).cell? ((⟨W.heap.size, 0, none⟩ : Addr).add j) = some u := by
  intro j u hj
  have := World.cell?_alloc_at (w := W) #[.pointer (some ⟨k, 0, none⟩)] t W.heap.size j rfl
  rw [Addr.add_lit, Nat.zero_add, this]
  match j with
  | 0 => exact hj
  | n + 1 => simp at hj

set_option maxHeartbeats 4000000 in
set_option maxRecDepth 100000 in
theorem begin_any (l hd : Nat) (A B : List Tw) (v : Value) (row col : List UInt8) (w : World) (h : Ls w l hd (A ++ B) v []) (hA : ∀ t ∈ A, ccl t.c (plC row col) < 0) (hB : ∀ t ∈ B, 0 ≤ ccl t.c (plC row col)) :
    Calls Try.prog 38 #[.pointer (some ⟨l, 0, none⟩), .string (bstr row), .string (bstr col)] w fun e w' => ∃ k, e = .returned (.pointer (some ⟨k, 0, none⟩)) ∧ Stt l hd k (A ++ B) (fun i => Ow l hd (A ++ B) v i ∨ (w.heap.size ≤ i ∧ i < w'.heap.size)) (B.map (fun t => t.c)) w' ∧ Kp w w' (Ow l hd (A ++ B) v) ∧ w.heap.size ≤ k := by
  obtain ⟨i0, hi0, hz0, hz1, hz2⟩ := info_parts Try.infoWalkP
  obtain ⟨q, hq⟩ : ∃ q, pt (nxt 0 B) = Value.pointer q := by cases nxt 0 B <;> exact ⟨_, rfl⟩
  have hfst := first_any l hd A B row col w h.blk.head h.ch hA hB
  go_enter Try.func38, Try.ntmps38
  go_wp2_with fail
  refine hfst.mono ?_
  rintro e w1 ⟨rfl, hb1⟩
  rw [hq]
  have hL1 := h.below hb1
  have hb2 : Below w1.heap.size w1 (w1.alloc (.cells #[.pointer q, .slice none 0 0] 74)) := (Below.refl _ _).alloc (Nat.le_refl _) _
  have hk2 : (w1.alloc (.cells #[.pointer q, .slice none 0 0] 74)).heap[w1.heap.size]? = some (.cells #[.pointer q, .slice none 0 0] 74 (0, 0)) := heap_alloc_new _ _
  have hL2 := hL1.below hb2
  generalize hw2 : w1.alloc (.cells #[.pointer q, .slice none 0 0] 74) = w2 at *
  have hwk := hL2.blk.walks
  have hfr := hL2.blk.free 13
  have hs1 := hb1.size
  have hs2 := blk_lt hk2
  have HQ : Hid _ := hq
  have HL : Hid _ := h
  clear hq h hfst
  have HRA : Hid (Rw (w2.alloc (.cells #[.pointer (some ⟨w1.heap.size, 0, none⟩)] 72)) 72 v []) := hL2.row.kept fun i hi => Below.heap_alloc _ _ _ (hL2.row.lt hi)
  go_wp2_with (at_builtin; refine wpList_app_rw rfl _ _ 56 rfl 72 i0 (.pointer none) 8 Try.underlying56 hi0 hz0 hz1 hz2 rfl v [] rfl HRA.out (.pointer (some ⟨w1.heap.size, 0, none⟩)) rfl ⟨w2.heap.size, 0, none⟩ 1 rfl (by rw [World.cell?_alloc_at _ _ w2.heap.size 0 rfl]; rfl) (by unfold maxLen; simp) (by simp) ?_)
  intro v' w3 hr3 hgrow hwhere
  replace hr3 : Rw w3 72 v' [.pointer (some ⟨w1.heap.size, 0, none⟩)] := hr3
  have hK3 : Kp w2 w3 (fun i => v.ownBlock = some i) := (Kp.of_below _ ((Below.refl _ _).alloc (Nat.le_refl _) _)).trans (Kp.of_grown hgrow (fun k e => e)) (fun i hi => Or.inl hi)
  have hv91 : ∀ i, v.ownBlock = some i → ∃ cur, w2.heap[i]? = some (.cells cur 72 (0, 0)) := fun i hi => hL2.row.blk hi
  have hoth : ∀ {j : Nat} {cur : Array Value} {t : TypeId}, w2.heap[j]? = some (.cells cur t (0, 0)) → t ≠ 72 → w3.heap[j]? = w2.heap[j]? := fun {j cur t} hj ht => hK3.block j (blk_lt hj) (fun e => by
    obtain ⟨cur', hc⟩ := hv91 j e
    rw [hc] at hj
    cases hj
    exact ht rfl)
  have hl3 : LsAt w3 l hd _ v := (hoth hL2.blk (by decide)).trans hL2.blk
  have hk3 := (hoth hk2 (by decide)).trans hk2
  have hc3 : Chn w3 (hdT hd :: (A ++ B)) := hL2.ch.kept fun t ht => by
    obtain ⟨X, Y, e⟩ := List.append_of_mem ht
    exact hoth (hL2.ch.at_ X t Y e) (by decide)
  obtain ⟨p', cap', rfl⟩ := hr3.len
  simp only [List.length_cons, List.length_nil, Nat.zero_add] at hr3 hwhere ⊢
  have hwk3 := hl3.walks
  have hfr3 := hl3.free 13
  have hw3s := hK3.size
  clear hwk hfr
  go_wp2
  have hlk : w1.heap.size ≠ l := fun e => by
    have h1 : w3.heap[l]? = _ := hl3
    rw [← e, hk3] at h1
    cases h1
  have hne : ∀ t ∈ hdT hd :: (A ++ B), t.b ≠ l := fun t ht e => by
    obtain ⟨X, Y, e2⟩ := List.append_of_mem ht
    have h1 : w3.heap[t.b]? = _ := hc3.at_ X t Y e2
    have h2 : w3.heap[l]? = _ := hl3
    rw [e, h2] at h1
    cases h1
  have hrl : (Value.slice p' 1 cap').ownBlock ≠ some l := fun e => by
    obtain ⟨cur, hc⟩ := hr3.blk e
    have h2 : w3.heap[l]? = _ := hl3
    rw [h2] at hc
    cases hc
  have hK4 : Kp w (w3.setCell ⟨l, 13, none⟩ (.slice p' 1 cap')) (Ow l hd (A ++ B) v) := by
    refine Kp.setCell (((Kp.of_below _ (below2 hb1 hb2)).trans hK3 (fun i hi => Or.inl (Or.inr (Or.inr (Or.inr hi)))))) _ (Or.inl (Or.inl rfl))
  go_ret
  refine ⟨w1.heap.size, rfl, ⟨.slice p' 1 cap', [pt (some w1.heap.size)], B, .slice none 0 0, [], ⟨?_, ?_, ⟨A, rfl⟩, ⟨none, 0, rfl, Nat.le_refl _, Nat.zero_le _, fun h => absurd rfl h⟩, by simp, Or.inl ⟨rfl, rfl, rfl⟩, ?_, ?_, ?_⟩⟩, hK4, hs1⟩
  · exact ⟨hl3.setW _, hc3.kept fun t ht => heap_set_other _ (hne t ht), HL.out.asc, HL.out.hgt, HL.out.may, hr3.kept fun i hi => heap_set_other _ (fun e => hrl (e ▸ hi))⟩
  · rw [HQ.out]
    exact (heap_set_other _ hlk).trans hk3
  · intro c hc
    obtain ⟨t, ht, rfl⟩ := List.mem_map.1 hc
    exact HL.out.may t (by simp [ht])
  · have hsz := hK4.size
    have hsz3 : (w3.setCell ⟨l, 13, none⟩ (.slice p' 1 cap')).heap.size = w3.heap.size := by
      show (w3.heap.modify _ _).size = _
      rw [Array.size_modify]
    rintro i ((rfl | rfl | hi | hi) | rfl | hi)
    · exact Or.inl (Or.inl rfl)
    · exact Or.inl (Or.inr (Or.inl rfl))
    · exact Or.inl (Or.inr (Or.inr (Or.inl hi)))
    · rcases hwhere with e | e
      · exact Or.inl (Or.inr (Or.inr (Or.inr (e ▸ hi))))
      · rw [e] at hi
        cases hi
        have := hr3.lt e
        refine Or.inr ⟨by omega, by rw [hsz3]; exact this⟩
    · exact Or.inr ⟨hs1, by rw [hsz3]; omega⟩
    · cases hi
  · rintro i (hi | hi)
    · exact Nat.lt_of_lt_of_le (HL.out.lt hi) hK4.size
    · exact hi.2

end Go.Proofs.Ytijfmgpipnhkkaa
