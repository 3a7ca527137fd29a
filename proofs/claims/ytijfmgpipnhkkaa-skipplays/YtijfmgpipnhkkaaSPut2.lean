/-
  The contract of Put: where it refuses, and where it does not.
-/
import Derived.Test.YtijfmgpipnhkkaaSPut
import Derived.Deep.Cut
import Derived.Deep.CutBlock
namespace Go.Proofs.Ytijfmgpipnhkkaa
open Go.RowKit Go.BigFrame Go.Sort
attribute [local go_sem] size_bstr toList_bstr ls_def

theorem CellK_any (c : Cl) (w : World) : Calls Try.prog 19 #[clV c] w fun e w' => e = .returned (.int .i64 (if mayCl c = true then 0 else 2)) ∧ Below w.heap.size w w' := Cell_any c.row c.col c.ver c.gone c.val w
theorem tparts {c : Cl} {T : List Tw} (h : Asc (T.map (fun t => t.c))) : ∃ A B, T = A ++ B ∧ (∀ t ∈ A, ccl t.c c < 0) ∧ (∀ t ∈ B, 0 ≤ ccl t.c c) := by
  obtain ⟨A, B, e, hA, hB⟩ := asc_parts (c := c) h
  obtain ⟨A', B', rfl, rfl, rfl⟩ := List.map_eq_append_iff.1 e
  exact ⟨A', B', rfl, fun t ht => hA _ (List.mem_map.2 ⟨t, ht, rfl⟩), fun t ht => hB _ (List.mem_map.2 ⟨t, ht, rfl⟩)⟩
theorem may_fits {c : Cl} (h : mayCl c = true) : Fits c := by
  unfold mayCl mayC storedB at h
  unfold Fits
  simp at h
  omega

set_option maxHeartbeats 2000000 in
set_option maxRecDepth 100000 in
theorem Put_arg (l hd : Nat) (c : Cl) (h : Int) (w : World) (hl : w.cell? ⟨l, 0, none⟩ = some (.pointer (some ⟨hd, 0, none⟩))) (hbad : mayCl c = false ∨ h < 1 ∨ 12 < h) :
    Calls Try.prog 6 #[.pointer (some ⟨l, 0, none⟩), clV c, .int .i64 h] w fun e w' => e = .returned (.int .i64 2) ∧ Below w.heap.size w w' := by
  have hB0 : Below w.heap.size w (w.alloc (.cells #[.string (bstr c.row), .string (bstr c.col), .int .u64 c.ver, .bool c.gone, .string (bstr c.val)] 34)) := (Below.refl _ _).alloc (Nat.le_refl _) _
  have hl0 := (hB0.cell (p := ⟨l, 0, none⟩) (block_lt_of_cell hl)).trans hl
  have hc0 := CellAt.new w 34 c.row c.col c.ver c.gone c.val
  have hno := none_ok l hd _ hl0
  have hce := CellK_any c (w.alloc (.cells #[.string (bstr c.row), .string (bstr c.col), .int .u64 c.ver, .bool c.gone, .string (bstr c.val)] 34))
  go_enter Try.func6, Try.ntmps6
  go_wp2_with fail
  refine hno.mono ?_
  rintro e w' ⟨rfl, rfl⟩
  generalize w.alloc (.cells #[.string (bstr c.row), .string (bstr c.col), .int .u64 c.ver, .bool c.gone, .string (bstr c.val)] 34) = w0 at *
  obtain ⟨c0, c1, c2, c3, c4⟩ := hc0
  go_wp2_with fail
  refine hce.mono ?_
  rintro e w1 ⟨rfl, hb1⟩
  have hB1 := below2 hB0 hb1
  clear hno hce c0 c1 c2 c3 c4 hl0 hl hb1
  cases hm : mayCl c with
  | false =>
    simp only [Bool.false_eq_true, if_false]
    go_wp2
    go_ret
    exact ⟨rfl, hB1⟩
  | true =>
    rw [hm] at hbad
    simp only [if_true]
    rcases hbad with hbad | hbad | hbad
    · cases hbad
    · go_wp2
      go_ret
      exact ⟨rfl, hB1⟩
    · have hn : ¬ h < 1 := by omega
      go_wp2
      go_ret
      exact ⟨rfl, hB1⟩

/-- The towers with a new one of height k among them. -/
theorem cnt_grow {A B : List Tw} {b k : Nat} {c : Cl} (n : Nat) : (cnt n (A ++ ⟨b, c, k + 1⟩ :: B) : Int) = upd (fun n => (cnt n (A ++ ⟨b, c, k⟩ :: B) : Int)) k ((cnt k (A ++ ⟨b, c, k⟩ :: B) : Int) + 1) n := by
  simp only [upd, cnt_append, cnt_cons]
  by_cases e : n = k
  · subst e
    simp
    omega
  · rw [if_neg e]
    by_cases q : n < k
    · rw [if_pos (by omega), if_pos q]
    · rw [if_neg (by omega), if_neg q]

theorem Ls.apart {w : World} {l hd : Nat} {T : List Tw} {v : Value} {xs : List Value} (h : Ls w l hd T v xs) {t : Tw} (ht : t ∈ hdT hd :: T) : t.b ≠ l := fun e => by
  obtain ⟨A, B, e2⟩ := List.append_of_mem ht
  have := h.ch.at_ A t B e2
  unfold TwAt at this
  rw [e, h.blk] at this
  cases this
/-- A cell takes another one's place. -/
theorem Ls.old {w w' : World} {l hd : Nat} {A B : List Tw} {u : Tw} {c : Cl} (h : Ls w l hd (A ++ u :: B) (.slice none 0 0) []) (hc : mayCl c = true) (h0 : ccl u.c c = 0) (hA : ∀ x ∈ A, ccl x.c c < 0) (hB : ∀ x ∈ B, 0 < ccl x.c c)
    (hw : w' = ((((w.setCell ⟨u.b, 0, none⟩ (.string (bstr c.row))).setCell ⟨u.b, 1, none⟩ (.string (bstr c.col))).setCell ⟨u.b, 2, none⟩ (.int .u64 c.ver)).setCell ⟨u.b, 3, none⟩ (.bool c.gone)).setCell ⟨u.b, 4, none⟩ (.string (bstr c.val))) :
    Ls w' l hd (A ++ ⟨u.b, c, u.h⟩ :: B) (.slice none 0 0) [] ∧ Kp w w' (Ow l hd (A ++ u :: B) (.slice none 0 0)) := by
  have hub : Ow l hd (A ++ u :: B) (.slice none 0 0) u.b := Or.inr (Or.inr (Or.inl ⟨u, by simp, rfl⟩))
  have hne : u.b ≠ l := h.apart (by simp)
  have hP : PutT c 0 0 (A ++ u :: B) (A ++ ⟨u.b, c, u.h⟩ :: B) := Or.inl ⟨A, u, B, rfl, rfl, h0, hA, hB⟩
  refine ⟨⟨?_, Chn.put (A := hdT hd :: A) h.ch c hw, ?_, fun t ht => ?_, fun t ht => ?_, Or.inl ⟨rfl, rfl⟩⟩, ?_⟩
  · have : LsAt w' l hd (fun n => (cnt n (A ++ u :: B) : Int)) (.slice none 0 0) := by
      unfold LsAt
      rw [hw, heap_set_other _ (Ne.symm hne), heap_set_other _ (Ne.symm hne), heap_set_other _ (Ne.symm hne), heap_set_other _ (Ne.symm hne), heap_set_other _ (Ne.symm hne)]
      exact h.blk
    exact this.congr fun n _ => by rw [cnt_append, cnt_append, cnt_cons, cnt_cons]
  · rw [hP.cells]
    exact asc_putC h.asc
  · rcases List.mem_append.1 ht with ht | ht
    · exact h.hgt t (by simp [ht])
    · rcases List.mem_cons.1 ht with rfl | ht
      · exact h.hgt u (by simp)
      · exact h.hgt t (by simp [ht])
  · rcases List.mem_append.1 ht with ht | ht
    · exact h.may t (by simp [ht])
    · rcases List.mem_cons.1 ht with rfl | ht
      · exact hc
      · exact h.may t (by simp [ht])
  · rw [hw]
    exact (((((Kp.refl w _).setCell _ (Or.inl hub)).setCell _ (Or.inl hub)).setCell _ (Or.inl hub)).setCell _ (Or.inl hub)).setCell _ (Or.inl hub)
/-- A tower has all its levels. -/
theorem Ls.new {w w' : World} {l hd b k : Nat} {A B : List Tw} {c : Cl} (h : Ls w l hd (A ++ B) (.slice none 0 0) []) (hc : mayCl c = true) (hk : 0 < k ∧ k ≤ 12) (hA : ∀ x ∈ A, ccl x.c c < 0) (hB : ∀ x ∈ B, 0 < ccl x.c c)
    (hC : Chn w' (hdT hd :: (A ++ ⟨b, c, k⟩ :: B))) (hl : LsAt w' l hd (fun n => (cnt n (A ++ ⟨b, c, k⟩ :: B) : Int)) (.slice none 0 0)) : Ls w' l hd (A ++ ⟨b, c, k⟩ :: B) (.slice none 0 0) [] := by
  have hP : PutT c k 0 (A ++ B) (A ++ ⟨b, c, k⟩ :: B) := Or.inr ⟨A, B, b, rfl, rfl, Nat.zero_le _, hA, hB⟩
  refine ⟨hl, hC, ?_, fun t ht => ?_, fun t ht => ?_, Or.inl ⟨rfl, rfl⟩⟩
  · rw [hP.cells]
    exact asc_putC h.asc
  · rcases List.mem_append.1 ht with ht | ht
    · exact h.hgt t (by simp [ht])
    · rcases List.mem_cons.1 ht with rfl | ht
      · exact hk
      · exact h.hgt t (by simp [ht])
  · rcases List.mem_append.1 ht with ht | ht
    · exact h.may t (by simp [ht])
    · rcases List.mem_cons.1 ht with rfl | ht
      · exact hc
      · exact h.may t (by simp [ht])

set_option maxHeartbeats 8000000 in
set_option maxRecDepth 100000 in
theorem Put_ok (l hd : Nat) (T : List Tw) (v : Value) (xs : List Value) (c : Cl) (h : Nat) (S : Nat → Prop) (Q : World → Prop) (w : World) (hL : Ls w l hd T v xs) (hc : mayCl c = true) (hh1 : 1 ≤ h) (hh2 : h ≤ 12) (hlen : T.length < 4611686018427387904)
    (hpart : ∀ w1, Below w.heap.size w w1 → Calls Try.prog 20 #[.pointer (some ⟨l, 0, none⟩)] w1 fun e w2 => (∃ u, e = .returned u) ∧ Ls w2 l hd T (.slice none 0 0) [] ∧ Kp w1 w2 S ∧ Q w2)
    (hS : ∀ i, S i → i < w.heap.size) (hQ : ∀ a b, Ls a l hd T (.slice none 0 0) [] → Q a → Kp a b (Ow l hd T (.slice none 0 0)) → Q b) :
    Calls Try.prog 6 #[.pointer (some ⟨l, 0, none⟩), clV c, .int .i64 (h : Int)] w fun e w' => e = .returned (.int .i64 0) ∧ ∃ T', PutT c h w.heap.size T T' ∧ Ls w' l hd T' (.slice none 0 0) [] ∧ Kp w w' (fun i => S i ∨ Ow l hd T v i) ∧ Q w' := by
  have hB0 : Below w.heap.size w (w.alloc (.cells #[.string (bstr c.row), .string (bstr c.col), .int .u64 c.ver, .bool c.gone, .string (bstr c.val)] 34)) := (Below.refl _ _).alloc (Nat.le_refl _) _
  have hb0 : (w.alloc (.cells #[.string (bstr c.row), .string (bstr c.col), .int .u64 c.ver, .bool c.gone, .string (bstr c.val)] 34)).heap[w.heap.size]? = some (.cells #[.string (bstr c.row), .string (bstr c.col), .int .u64 c.ver, .bool c.gone, .string (bstr c.val)] 34 (0, 0)) := heap_alloc_new _ _
  have hl0 := (hL.below hB0).blk.head
  have hno := none_ok l hd _ hl0
  have hce := CellK_any c (w.alloc (.cells #[.string (bstr c.row), .string (bstr c.col), .int .u64 c.ver, .bool c.gone, .string (bstr c.val)] 34))
  rw [if_pos hc] at hce
  have hi1 : ¬ (h : Int) < 1 := by omega
  have hi2 : ¬ 12 < (h : Int) := by omega
  have hc0 : CellAt (w.alloc (.cells #[.string (bstr c.row), .string (bstr c.col), .int .u64 c.ver, .bool c.gone, .string (bstr c.val)] 34)) w.heap.size c.row c.col c.ver c.gone c.val := CellAt.new w 34 c.row c.col c.ver c.gone c.val
  go_enter Try.func6, Try.ntmps6
  go_wp2_with fail
  refine hno.mono ?_
  rintro e w' ⟨rfl, rfl⟩
  generalize w.alloc (.cells #[.string (bstr c.row), .string (bstr c.col), .int .u64 c.ver, .bool c.gone, .string (bstr c.val)] 34) = w0 at *
  obtain ⟨c0, c1, c2, c3, c4⟩ := id hc0
  go_wp2_with fail
  refine hce.mono ?_
  rintro e w1 ⟨rfl, hb1⟩
  have hB1 := below2 hB0 hb1
  have hc1 := hc0.step hb1
  clear hno hce c0 c1 c2 c3 c4 hl0 hb0 hB0 hc0 hb1
  go_wp2_with fail
  refine (hpart w1 hB1).mono ?_
  rintro e w2 ⟨⟨u, rfl⟩, hL2, hK2, hQ2⟩
  have hsz1 := hc1.lt
  have hc2 : CellAt w2 w.heap.size c.row c.col c.ver c.gone c.val := by
    have hb := hK2.block w.heap.size hsz1 (fun hs => by have := hS _ hs; omega)
    have hcell : ∀ o, w2.cell? ⟨w.heap.size, o, none⟩ = w1.cell? ⟨w.heap.size, o, none⟩ := fun o => by simp only [World.cell?, hb]
    exact ⟨by rw [hcell]; exact hc1.c0, by rw [hcell]; exact hc1.c1, by rw [hcell]; exact hc1.c2, by rw [hcell]; exact hc1.c3, by rw [hcell]; exact hc1.c4⟩
  obtain ⟨A, B, rfl, hA, hB⟩ := tparts (c := c) hL.asc
  have hah := ahead_any l hd A B c w2 hL2.blk.head hL2.ch hA hB
  obtain ⟨c0, c1, c2, c3, c4⟩ := id hc2
  clear hpart hc1
  go_wp2_with fail
  refine hah.mono ?_
  rintro e w3 ⟨f, rfl, hf, hb3⟩
  have hL3 := hL2.below hb3
  have hc3 := hc2.step hb3
  have hK3 : Kp w w3 S := ((Kp.of_below S hB1).trans hK2 (fun i hi => Or.inl hi)).trans (Kp.of_below (fun _ => False) hb3) (fun _ h => h.elim)
  have hQ3 : Q w3 := hQ _ _ hL2 hQ2 (Kp.of_below _ hb3)
  have hb4 : Below w3.heap.size w3 (w3.alloc (.cells (a12 fun n => .pointer (some ⟨f n, 0, none⟩)) 52)) := (Below.refl _ _).alloc (Nat.le_refl _) _
  have hr4 : (w3.alloc (.cells (a12 fun n => .pointer (some ⟨f n, 0, none⟩)) 52)).heap[w3.heap.size]? = some (.cells (a12 fun n => .pointer (some ⟨f n, 0, none⟩)) 52 (0, 0)) := heap_alloc_new _ _
  have hL4 := hL3.below hb4
  have hc4 := hc3.step hb4
  have hK4 : Kp w (w3.alloc (.cells (a12 fun n => .pointer (some ⟨f n, 0, none⟩)) 52)) S := hK3.alloc _
  have hQ4 : Q (w3.alloc (.cells (a12 fun n => .pointer (some ⟨f n, 0, none⟩)) 52)) := hQ _ _ hL3 hQ3 (Kp.of_below _ hb4)
  have hcsz : w.heap.size < w3.heap.size := hc3.lt
  clear hah c0 c1 c2 c3 c4 hL2 hL3 hc2 hc3 hK3 hK2 hQ2 hQ3 hb3 hB1
  have HR : Hid _ := hr4
  have HF : Hid _ := hf
  clear hr4 hf
  simp only [a12] at hL4 hc4 hK4 hQ4 hb4 HR ⊢
  generalize hw4 : w3.alloc _ = w4 at hL4 hc4 hK4 hQ4 hb4 HR
  obtain ⟨t0, hLt0, e0⟩ := HF.out 0 (by omega)
  obtain ⟨g0, hT0, hg0⟩ := Chn.last (HA := hdT hd :: A) (B := B) hL4.ch hLt0
  have hn0 := hT0.next (n := 0) (by omega)
  rw [hg0, ← e0] at hn0
  simp only [Nat.add_zero] at hn0
  have hp0 : w4.cell? ⟨w3.heap.size, 0, none⟩ = some (.pointer (some ⟨f 0, 0, none⟩)) := (a12_cells (g := fun n => .pointer (some ⟨f n, 0, none⟩)) HR.out).1
  clear hT0 hg0 hLt0 e0
  obtain ⟨c0, c1, c2, c3, c4⟩ := id hc4
  obtain hcs | ⟨u, B2, hcs⟩ : B = [] ∨ ∃ u B2, B = u :: B2 := by
    cases B with
    | nil => exact Or.inl rfl
    | cons u B => exact Or.inr ⟨u, B, rfl⟩
  · rw [hcs, nxt_nil, pt_none] at hn0
    have hBx : ∀ x ∈ B, 0 < ccl x.c c := by rw [hcs]; simp
    have HBX : Hid _ := hBx
    clear hcs hBx
    go_wp2_with fail
    go_quiet (fail)
    have hLx : Ls (w4.drewN nq) l hd (A ++ B) (.slice none 0 0) [] := hL4.kept fun _ _ => rfl
    have hcx : CellAt (w4.drewN nq) w.heap.size c.row c.col c.ver c.gone c.val := ⟨hc4.c0, hc4.c1, hc4.c2, hc4.c3, hc4.c4⟩
    have hKx : Kp w (w4.drewN nq) S := ⟨hK4.os, hK4.tape, hK4.output, hK4.size, hK4.block⟩
    have hQx : Q (w4.drewN nq) := hQ _ _ hL4 hQ4 ⟨rfl, rfl, rfl, Nat.le_refl _, fun _ _ _ => rfl⟩
    have HRX : Hid ((w4.drewN nq).heap[w3.heap.size]? = _) := HR
    clear HR hL4 hK4 hQ4 hc4 hb4 hn0 hp0 c0 c1 c2 c3 c4 hw4
    generalize w4.drewN nq = wx at *
    clear w4
    obtain ⟨c0, c1, c2, c3, c4⟩ := id hcx
    go_wp2_with fail
    refine (sfresh_any c wx (may_fits hc)).mono ?_
    rintro e wf ⟨rfl, hbf⟩
    have hLf := hLx.below hbf
    have hKf : Kp w wf S := hKx.trans (Kp.of_below (fun _ => False) hbf) (fun _ h => h.elim)
    have hQf : Q wf := hQ _ _ hLx hQx (Kp.of_below _ hbf)
    have hCn := Chn.add (A := hdT hd :: A) (B := B) hLf.ch c
    have hbn : Below wf.heap.size wf (wf.alloc (.cells (tw17 c (fun _ => none)) 54)) := (Below.refl _ _).alloc (Nat.le_refl _) _
    have hln : LsAt (wf.alloc (.cells (tw17 c (fun _ => none)) 54)) l hd (fun n => (cnt n (A ++ ⟨wf.heap.size, c, 0⟩ :: B) : Int)) (.slice none 0 0) := by
      have h1 : LsAt (wf.alloc (.cells (tw17 c (fun _ => none)) 54)) l hd (fun n => (cnt n (A ++ B) : Int)) (.slice none 0 0) := (hbn.block _ hLf.blk.lt).trans hLf.blk
      exact h1.congr fun n _ => by rw [cnt_append, cnt_append, cnt_cons]; simp
    have HRN : Hid ((wf.alloc (.cells (tw17 c (fun _ => none)) 54)).heap[w3.heap.size]? = some (.cells (a12 fun n => .pointer (some ⟨f n, 0, none⟩)) 52 (0, 0))) := (hbn.block _ (Nat.lt_of_lt_of_le (blk_lt HRX.out) hbf.size)).trans ((hbf.block _ (blk_lt HRX.out)).trans HRX.out)
    have h3f : w3.heap.size < wf.heap.size := Nat.lt_of_lt_of_le (blk_lt HRX.out) hbf.size
    clear hLx hKx hQx hcx c0 c1 c2 c3 c4 HRX hbf
    simp only [tw17, pt_none] at hbn hCn hln HRN
    generalize hwn : wf.alloc _ = wn at hbn hCn hln HRN
    go_wp2_with fail
    clear hwn
    go_loopw [58] (fun s58 wr => ∃ k : Nat, s58 = .int .i64 (k : Int) ∧ k ≤ h ∧ Chn wr (hdT hd :: (A ++ ⟨wf.heap.size, c, k⟩ :: B)) ∧ LsAt wr l hd (fun n => (cnt n (A ++ ⟨wf.heap.size, c, k⟩ :: B) : Int)) (.slice none 0 0) ∧ Hid (wr.heap[w3.heap.size]? = some (.cells (a12 fun n => .pointer (some ⟨f n, 0, none⟩)) 52 (0, 0))) ∧ Kp wf wr (Ow l hd (A ++ B) (.slice none 0 0))) (fun s58 _ => h - (intOf s58).toNat)
    case atStart => exact ⟨0, rfl, Nat.zero_le _, hCn, hln, HRN, Kp.of_below _ hbn⟩
    case round =>
      clear hCn hln HRN hbn
      obtain ⟨k, rfl, hkh, hC, hlk, HR, hKr⟩ := hrel
      by_cases hk : k < h
      · have hk12 : k < 12 := by omega
        have hi0 : (0 : Int) ≤ (k : Int) := by omega
        have hi3 : (k : Int) < 12 := by omega
        have hi4 : (k : Int) < (h : Int) := by omega
        obtain ⟨t, hLt, et⟩ := HF.out k hk12
        obtain ⟨gk, hTk, hgk⟩ := Chn.last (HA := hdT hd :: A) (B := ⟨wf.heap.size, c, k⟩ :: B) hC hLt
        rw [nxt_cons_no (t := ⟨wf.heap.size, c, k⟩) (Nat.le_refl _)] at hgk
        have pn := hTk.next hk12
        rw [hgk] at pn
        have fn := hTk.free (5 + k)
        have hTb := hC.at_ (hdT hd :: A) ⟨wf.heap.size, c, k⟩ B rfl
        have po := hTb.next hk12
        have fo := hTb.free (5 + k)
        simp only at po fo
        have pr : wr.cell? ⟨w3.heap.size, k, none⟩ = some (.pointer (some ⟨t.b, 0, none⟩)) := by
          have hb := HR.out
          rw [← et]
          simp only [World.cell?, hb]
          exact a12_get hk12
        have pa := hlk.above hk12
        have fa := hlk.free (1 + k)
        have hnd := nodup_ne (A := hdT hd :: A) (t := ⟨wf.heap.size, c, k⟩) (B := B) hC.nd
        have ht : t ∈ hdT hd :: A := by obtain ⟨X, Y, e, _⟩ := hLt; rw [e]; simp
        have n1 : ¬ t.b = wf.heap.size := hnd.1 t ht
        have n2 : ¬ wf.heap.size = t.b := fun e => n1 e.symm
        have n3 : ¬ w3.heap.size = wf.heap.size := by omega
        have n5 : ¬ w3.heap.size = t.b := fun e => by
          have h1 := HR.out
          have h2 : wr.heap[t.b]? = _ := hTk
          rw [e, h2] at h1
          cases h1
        have n6 : ¬ l = wf.heap.size := fun e => by
          have h1 : wr.heap[l]? = _ := hlk
          have h2 : wr.heap[wf.heap.size]? = _ := hTb
          rw [e, h2] at h1
          cases h1
        have n7 : ¬ l = t.b := fun e => by
          have h1 : wr.heap[l]? = _ := hlk
          have h2 : wr.heap[t.b]? = _ := hTk
          rw [e, h2] at h1
          cases h1
        have hov : lnk ⟨wf.heap.size, c, k⟩ B k = none := by simp [lnk]
        rw [hov, pt_none] at po
        obtain ⟨q, hq⟩ : ∃ q, pt (nxt k B) = Value.pointer q := by cases nxt k B <;> exact ⟨_, rfl⟩
        rw [hq] at pn
        have HQ : Hid _ := hq
        have HGK : Hid _ := hgk
        have HLT : Hid _ := hLt
        have HND : Hid _ := hnd
        have HTK : Hid _ := hTk
        have HET : Hid _ := et
        have HOW : Hid (Ow l hd (A ++ B) (.slice none 0 0) t.b) := by
          rcases List.mem_cons.1 ht with e | e
          · exact Or.inr (Or.inl (by rw [e]))
          · exact Or.inr (Or.inr (Or.inl ⟨t, by simp [e], rfl⟩))
        have HNL : Hid (∀ x ∈ hdT hd :: (A ++ ⟨wf.heap.size, c, k + 1⟩ :: B), x.b ≠ l) := fun x hx => by
          have hx2 : x.b ∈ (hdT hd :: (A ++ ⟨wf.heap.size, c, k⟩ :: B)).map (fun t => t.b) := by
            have e : (hdT hd :: (A ++ ⟨wf.heap.size, c, k⟩ :: B)).map (fun t => t.b) = (hdT hd :: (A ++ ⟨wf.heap.size, c, k + 1⟩ :: B)).map (fun t => t.b) := by simp
            rw [e]
            exact List.mem_map.2 ⟨x, hx, rfl⟩
          obtain ⟨y, hy, e⟩ := List.mem_map.1 hx2
          obtain ⟨X, Y, e2⟩ := List.append_of_mem hy
          have h1 : wr.heap[y.b]? = _ := hC.at_ X y Y e2
          have h2 : wr.heap[l]? = _ := hlk
          intro e3
          rw [e, e3, h2] at h1
          cases h1
        have n8 : ¬ w3.heap.size = l := fun e => by
          have h1 := HR.out
          have h2 : wr.heap[l]? = _ := hlk
          rw [e, h2] at h1
          cases h1
        have HTB : Hid _ := hTb
        clear hgk hLt hnd hTk hTb ht et hov hq
        go_wp2_with fail
        go_region
        have hT1 : TwAt (wr.setCell ⟨wf.heap.size, 5 + k, none⟩ (.pointer q)).drew t.b t.c gk := (heap_set_other _ n1).trans HTK.out
        have hl1 : LsAt (wr.setCell ⟨wf.heap.size, 5 + k, none⟩ (.pointer q)).drew l hd _ _ := (heap_set_other _ n6).trans hlk
        have HR1 : Hid ((wr.setCell ⟨wf.heap.size, 5 + k, none⟩ (.pointer q)).drew.heap[w3.heap.size]? = some (.cells (a12 fun n => .pointer (some ⟨f n, 0, none⟩)) 52 (0, 0))) := (heap_set_other _ n3).trans HR.out
        have hK1 : Kp wf (wr.setCell ⟨wf.heap.size, 5 + k, none⟩ (.pointer q)).drew (Ow l hd (A ++ B) (.slice none 0 0)) := (hKr.setCell _ (Or.inr (Nat.le_refl _))).drew
        obtain ⟨W1, hW1⟩ : ∃ W1, W1 = (wr.setCell ⟨wf.heap.size, 5 + k, none⟩ (.pointer q)).drew := ⟨_, rfl⟩
        rw [← hW1] at hT1 hl1 HR1 hK1 ⊢
        have pn1 := hT1.next hk12
        rw [HGK.out, HQ.out] at pn1
        have fn1 := hT1.free (5 + k)
        have pr1 : W1.cell? ⟨w3.heap.size, k, none⟩ = some (.pointer (some ⟨t.b, 0, none⟩)) := by
          have hb := HR1.out
          rw [← HET.out]
          simp only [World.cell?, hb]
          exact a12_get hk12
        have HW1 : Hid _ := hW1
        clear pn fn po fo pr pa fa hW1 hlk HR hKr
        go_wp2_with fail
        have hl2 : LsAt (W1.setCell ⟨t.b, 5 + k, none⟩ (.pointer (some ⟨wf.heap.size, 0, none⟩))) l hd _ _ := (heap_set_other _ n7).trans hl1
        have HR2 : Hid ((W1.setCell ⟨t.b, 5 + k, none⟩ (.pointer (some ⟨wf.heap.size, 0, none⟩))).heap[w3.heap.size]? = some (.cells (a12 fun n => .pointer (some ⟨f n, 0, none⟩)) 52 (0, 0))) := (heap_set_other _ n5).trans HR1.out
        have hC2 : Chn (W1.setCell ⟨t.b, 5 + k, none⟩ (.pointer (some ⟨wf.heap.size, 0, none⟩))) (hdT hd :: (A ++ ⟨wf.heap.size, c, k + 1⟩ :: B)) := by
          have := Chn.link (HA := hdT hd :: A) (B := B) (w' := (wr.setCell ⟨wf.heap.size, 5 + k, none⟩ (pt (nxt k B))).setCell ⟨t.b, 5 + k, none⟩ (pt (some wf.heap.size))) hC hk12 HLT.out rfl
          rw [HQ.out] at this
          rw [HW1.out]
          exact this.kept fun _ _ => rfl
        have hK2 : Kp wf (W1.setCell ⟨t.b, 5 + k, none⟩ (.pointer (some ⟨wf.heap.size, 0, none⟩))) (Ow l hd (A ++ B) (.slice none 0 0)) := hK1.setCell _ (Or.inl HOW.out)
        generalize W1.setCell ⟨t.b, 5 + k, none⟩ (.pointer (some ⟨wf.heap.size, 0, none⟩)) = W2 at *
        have pa := hl2.above hk12
        have fa := hl2.free (1 + k)
        have hcb := cnt_le k (A ++ ⟨wf.heap.size, c, k⟩ :: B)
        have hwr : IntKind.i64.wrap ((cnt k (A ++ ⟨wf.heap.size, c, k⟩ :: B) : Int) + 1) = (cnt k (A ++ ⟨wf.heap.size, c, k⟩ :: B) : Int) + 1 := by
          rw [IntKind.wrap_i64]
          simp only [List.length_append, List.length_cons] at hcb hlen
          omega
        clear pn1 fn1 pr1 hT1 hl1 HR1 hK1 HW1 hC hcb
        go_region
        have hl3 : LsAt (W2.setCell ⟨l, 1 + k, none⟩ (.int .i64 ((cnt k (A ++ ⟨wf.heap.size, c, k⟩ :: B) : Int) + 1))).drew l hd (fun n => (cnt n (A ++ ⟨wf.heap.size, c, k + 1⟩ :: B) : Int)) (.slice none 0 0) := (hl2.setA hk12 _).congr fun n _ => (cnt_grow n).symm
        have hC3 : Chn (W2.setCell ⟨l, 1 + k, none⟩ (.int .i64 ((cnt k (A ++ ⟨wf.heap.size, c, k⟩ :: B) : Int) + 1))).drew (hdT hd :: (A ++ ⟨wf.heap.size, c, k + 1⟩ :: B)) := hC2.kept fun x hx => heap_set_other _ (HNL.out x hx)
        have HR3 : Hid ((W2.setCell ⟨l, 1 + k, none⟩ (.int .i64 ((cnt k (A ++ ⟨wf.heap.size, c, k⟩ :: B) : Int) + 1))).drew.heap[w3.heap.size]? = some (.cells (a12 fun n => .pointer (some ⟨f n, 0, none⟩)) 52 (0, 0))) := (heap_set_other _ n8).trans HR2.out
        have hK3 : Kp wf (W2.setCell ⟨l, 1 + k, none⟩ (.int .i64 ((cnt k (A ++ ⟨wf.heap.size, c, k⟩ :: B) : Int) + 1))).drew (Ow l hd (A ++ B) (.slice none 0 0)) := (hK2.setCell _ (Or.inl (Or.inl rfl))).drew
        generalize (W2.setCell ⟨l, 1 + k, none⟩ (.int .i64 ((cnt k (A ++ ⟨wf.heap.size, c, k⟩ :: B) : Int) + 1))).drew = W3 at *
        clear pa fa hl2 hC2 HR2 hK2 hwr
        go_wp2
        go_roundw
        case rel => exact ⟨k + 1, by go_num, by omega, hC3, hl3, HR3, hK3⟩
        case measure => simp [intOf]; omega
      · have hkh2 : k = h := by omega
        have hi5 : ¬ (k : Int) < (h : Int) := by omega
        have HKH : Hid _ := hkh2
        clear hkh2 hk
        go_wp2
        go_ret
        have hkk := HKH.out
        subst hkk
        refine ⟨rfl, _, Or.inr ⟨A, B, wf.heap.size, rfl, rfl, hKf.size, hA, HBX.out⟩, Ls.new hLf hc ⟨hh1, hh2⟩ hA HBX.out hC hlk, ?_, hQ _ _ hLf hQf hKr⟩
        refine (hKf.mono (fun i hi => Or.inl (Or.inl hi))).trans hKr (fun i hi => Or.inl (Or.inr ?_))
        rcases hi with hi | hi | hi | hi
        · exact Or.inl hi
        · exact Or.inr (Or.inl hi)
        · exact Or.inr (Or.inr (Or.inl hi))
        · cases hi
  · have hu0 : 0 < u.h := (hL.hgt u (by rw [hcs]; simp)).1
    rw [hcs, nxt_cons_yes hu0, pt_some] at hn0
    have hU := hL4.ch.at_ (hdT hd :: A) u B2 (by rw [hcs]; rfl)
    obtain ⟨d0, d1, d2, d3, d4⟩ := hU.cells
    have HU : Hid _ := hU
    have HCS : Hid _ := hcs
    clear hU hcs
    go_wp2_with fail
    go_region_held3 (fun w' => w'.cell? ⟨u.b, 0, none⟩ = some (.string (bstr u.c.row)) ∧ w'.cell? ⟨u.b, 1, none⟩ = some (.string (bstr u.c.col)) ∧ w'.cell? ⟨u.b, 2, none⟩ = some (.int .u64 u.c.ver) ∧ w'.cell? ⟨u.b, 3, none⟩ = some (.bool u.c.gone) ∧ w'.cell? ⟨u.b, 4, none⟩ = some (.string (bstr u.c.val)) ∧
        w'.cell? ⟨w.heap.size, 0, none⟩ = some (.string (bstr c.row)) ∧ w'.cell? ⟨w.heap.size, 1, none⟩ = some (.string (bstr c.col)) ∧ w'.cell? ⟨w.heap.size, 2, none⟩ = some (.int .u64 c.ver) ∧ w'.cell? ⟨w.heap.size, 3, none⟩ = some (.bool c.gone) ∧ w'.cell? ⟨w.heap.size, 4, none⟩ = some (.string (bstr c.val))) (first | with_reducible exact ⟨d0, d1, d2, d3, d4, c0, c1, c2, c3, c4⟩ | go_keep)
      (first
        | (go_at_call 22; refine (CmpC_any u.c c _).mono ?_; rintro e wx ⟨rfl, hb1⟩; have hL4d : Ls w4.drew l hd (A ++ B) (.slice none 0 0) [] := hL4.kept fun _ _ => rfl; have hQ4d : Q w4.drew := hQ _ _ hL4 hQ4 ⟨rfl, rfl, rfl, Nat.le_refl _, fun _ _ _ => rfl⟩; have hLx := hL4d.below hb1; have hc4d : CellAt w4.drew w.heap.size c.row c.col c.ver c.gone c.val := ⟨hc4.c0, hc4.c1, hc4.c2, hc4.c3, hc4.c4⟩; have hcx := hc4d.step hb1; have hKx : Kp w wx S := hK4.drew.trans (Kp.of_below (fun _ => False) hb1) (fun _ h => h.elim); have hQx : Q wx := hQ _ _ hL4d hQ4d (Kp.of_below _ hb1); have HRX : Hid (wx.heap[w3.heap.size]? = _) := (hb1.block _ (blk_lt HR.out)).trans HR.out; clear HR hL4 hK4 hQ4 hc4 hb4 hn0 hp0 c0 c1 c2 c3 c4 hw4 HU hL4d hQ4d hc4d d0 d1 d2 d3 d4 hb1; obtain ⟨c0, c1, c2, c3, c4⟩ := id hcx; obtain ⟨d0, d1, d2, d3, d4⟩ := (hLx.ch.at_ (hdT hd :: A) u B2 (by rw [HCS.out]; rfl)).cells)
        | (go_at_call 22; refine (CmpC_any u.c c _).mono ?_; rintro e wx ⟨rfl, hb1⟩; have hLx := hL4.below hb1; have hcx := hc4.step hb1; have hKx : Kp w wx S := hK4.trans (Kp.of_below (fun _ => False) hb1) (fun _ h => h.elim); have hQx : Q wx := hQ _ _ hL4 hQ4 (Kp.of_below _ hb1); have HRX : Hid (wx.heap[w3.heap.size]? = _) := (hb1.block _ (blk_lt HR.out)).trans HR.out; clear HR hL4 hK4 hQ4 hc4 hb4 hn0 hp0 c0 c1 c2 c3 c4 hw4 HU d0 d1 d2 d3 d4 hb1; obtain ⟨c0, c1, c2, c3, c4⟩ := id hcx; obtain ⟨d0, d1, d2, d3, d4⟩ := (hLx.ch.at_ (hdT hd :: A) u B2 (by rw [HCS.out]; rfl)).cells))
    have hge : 0 ≤ ccl u.c c := hB u (by rw [HCS.out]; simp)
    have hB2 : ∀ x ∈ B2, 0 < ccl x.c c := fun x hx => by
      have ha := hL.asc
      rw [HCS.out] at ha
      have hb : Asc ((A.map (fun t => t.c)) ++ u.c :: (B2.map (fun t => t.c))) := by simpa using ha
      exact asc_tail hb hge x.c (List.mem_map.2 ⟨x, hx, rfl⟩)
    have HB2 : Hid _ := hB2
    by_cases hz : ccl u.c c = 0
    · clear d0 d1 d2 d3 d4 hB2
      go_wp2_with fail
      refine (sfresh_any c wx (may_fits hc)).mono ?_
      rintro e wf ⟨rfl, hbf⟩
      have hLf := hLx.below hbf
      have hKf : Kp w wf S := hKx.trans (Kp.of_below (fun _ => False) hbf) (fun _ h => h.elim)
      have hQf : Q wf := hQ _ _ hLx hQx (Kp.of_below _ hbf)
      have hTu := hLf.ch.at_ (hdT hd :: A) u B2 (by rw [HCS.out]; rfl)
      obtain ⟨d0, d1, d2, d3, d4⟩ := hTu.cells
      have f0 := hTu.free 0
      have f1 := hTu.free 1
      have f2 := hTu.free 2
      have f3 := hTu.free 3
      have f4 := hTu.free 4
      have HZ : Hid _ := hz
      clear hLx hKx hQx hcx c0 c1 c2 c3 c4 HRX hbf hTu hz
      go_wp2
      rw [HCS.out] at hLf hL hQ
      obtain ⟨hL', hK'⟩ := Ls.old hLf hc HZ.out hA HB2.out rfl
      go_ret
      refine ⟨rfl, _, Or.inl ⟨A, u, B2, by rw [HCS.out], rfl, HZ.out, hA, HB2.out⟩, hL', ?_, hQ _ _ hLf hQf hK'⟩
      refine (hKf.mono (fun i hi => Or.inl (Or.inl hi))).trans hK' (fun i hi => Or.inl (Or.inr ?_))
      rw [HCS.out]
      rcases hi with hi | hi | hi | hi
      · exact Or.inl hi
      · exact Or.inr (Or.inl hi)
      · exact Or.inr (Or.inr (Or.inl hi))
      · cases hi
    · have hBx : ∀ x ∈ B, 0 < ccl x.c c := fun x hx => by
        rw [HCS.out] at hx
        rcases List.mem_cons.1 hx with rfl | hx
        · omega
        · exact hB2 x hx
      have HBX : Hid _ := hBx
      have gz : (ccl u.c c == 0) = false := by simpa using hz
      clear d0 d1 d2 d3 d4 hBx hB2 hz c0 c1 c2 c3 c4
      obtain ⟨c0, c1, c2, c3, c4⟩ := id hcx
      go_wp2_with fail
      refine (sfresh_any c wx (may_fits hc)).mono ?_
      rintro e wf ⟨rfl, hbf⟩
      have hLf := hLx.below hbf
      have hKf : Kp w wf S := hKx.trans (Kp.of_below (fun _ => False) hbf) (fun _ h => h.elim)
      have hQf : Q wf := hQ _ _ hLx hQx (Kp.of_below _ hbf)
      have hCn := Chn.add (A := hdT hd :: A) (B := B) hLf.ch c
      have hbn : Below wf.heap.size wf (wf.alloc (.cells (tw17 c (fun _ => none)) 54)) := (Below.refl _ _).alloc (Nat.le_refl _) _
      have hln : LsAt (wf.alloc (.cells (tw17 c (fun _ => none)) 54)) l hd (fun n => (cnt n (A ++ ⟨wf.heap.size, c, 0⟩ :: B) : Int)) (.slice none 0 0) := by
        have h1 : LsAt (wf.alloc (.cells (tw17 c (fun _ => none)) 54)) l hd (fun n => (cnt n (A ++ B) : Int)) (.slice none 0 0) := (hbn.block _ hLf.blk.lt).trans hLf.blk
        exact h1.congr fun n _ => by rw [cnt_append, cnt_append, cnt_cons]; simp
      have HRN : Hid ((wf.alloc (.cells (tw17 c (fun _ => none)) 54)).heap[w3.heap.size]? = some (.cells (a12 fun n => .pointer (some ⟨f n, 0, none⟩)) 52 (0, 0))) := (hbn.block _ (Nat.lt_of_lt_of_le (blk_lt HRX.out) hbf.size)).trans ((hbf.block _ (blk_lt HRX.out)).trans HRX.out)
      have h3f : w3.heap.size < wf.heap.size := Nat.lt_of_lt_of_le (blk_lt HRX.out) hbf.size
      clear hLx hKx hQx hcx c0 c1 c2 c3 c4 HRX hbf
      simp only [tw17, pt_none] at hbn hCn hln HRN
      generalize hwn : wf.alloc _ = wn at hbn hCn hln HRN
      go_wp2_with fail
      clear hwn
      go_loopw [58] (fun s58 wr => ∃ k : Nat, s58 = .int .i64 (k : Int) ∧ k ≤ h ∧ Chn wr (hdT hd :: (A ++ ⟨wf.heap.size, c, k⟩ :: B)) ∧ LsAt wr l hd (fun n => (cnt n (A ++ ⟨wf.heap.size, c, k⟩ :: B) : Int)) (.slice none 0 0) ∧ Hid (wr.heap[w3.heap.size]? = some (.cells (a12 fun n => .pointer (some ⟨f n, 0, none⟩)) 52 (0, 0))) ∧ Kp wf wr (Ow l hd (A ++ B) (.slice none 0 0))) (fun s58 _ => h - (intOf s58).toNat)
      case atStart => exact ⟨0, rfl, Nat.zero_le _, hCn, hln, HRN, Kp.of_below _ hbn⟩
      case round =>
        clear hCn hln HRN hbn
        obtain ⟨k, rfl, hkh, hC, hlk, HR, hKr⟩ := hrel
        by_cases hk : k < h
        · have hk12 : k < 12 := by omega
          have hi0 : (0 : Int) ≤ (k : Int) := by omega
          have hi3 : (k : Int) < 12 := by omega
          have hi4 : (k : Int) < (h : Int) := by omega
          obtain ⟨t, hLt, et⟩ := HF.out k hk12
          obtain ⟨gk, hTk, hgk⟩ := Chn.last (HA := hdT hd :: A) (B := ⟨wf.heap.size, c, k⟩ :: B) hC hLt
          rw [nxt_cons_no (t := ⟨wf.heap.size, c, k⟩) (Nat.le_refl _)] at hgk
          have pn := hTk.next hk12
          rw [hgk] at pn
          have fn := hTk.free (5 + k)
          have hTb := hC.at_ (hdT hd :: A) ⟨wf.heap.size, c, k⟩ B rfl
          have po := hTb.next hk12
          have fo := hTb.free (5 + k)
          simp only at po fo
          have pr : wr.cell? ⟨w3.heap.size, k, none⟩ = some (.pointer (some ⟨t.b, 0, none⟩)) := by
            have hb := HR.out
            rw [← et]
            simp only [World.cell?, hb]
            exact a12_get hk12
          have pa := hlk.above hk12
          have fa := hlk.free (1 + k)
          have hnd := nodup_ne (A := hdT hd :: A) (t := ⟨wf.heap.size, c, k⟩) (B := B) hC.nd
          have ht : t ∈ hdT hd :: A := by obtain ⟨X, Y, e, _⟩ := hLt; rw [e]; simp
          have n1 : ¬ t.b = wf.heap.size := hnd.1 t ht
          have n2 : ¬ wf.heap.size = t.b := fun e => n1 e.symm
          have n3 : ¬ w3.heap.size = wf.heap.size := by omega
          have n5 : ¬ w3.heap.size = t.b := fun e => by
            have h1 := HR.out
            have h2 : wr.heap[t.b]? = _ := hTk
            rw [e, h2] at h1
            cases h1
          have n6 : ¬ l = wf.heap.size := fun e => by
            have h1 : wr.heap[l]? = _ := hlk
            have h2 : wr.heap[wf.heap.size]? = _ := hTb
            rw [e, h2] at h1
            cases h1
          have n7 : ¬ l = t.b := fun e => by
            have h1 : wr.heap[l]? = _ := hlk
            have h2 : wr.heap[t.b]? = _ := hTk
            rw [e, h2] at h1
            cases h1
          have hov : lnk ⟨wf.heap.size, c, k⟩ B k = none := by simp [lnk]
          rw [hov, pt_none] at po
          obtain ⟨q, hq⟩ : ∃ q, pt (nxt k B) = Value.pointer q := by cases nxt k B <;> exact ⟨_, rfl⟩
          rw [hq] at pn
          have HQ : Hid _ := hq
          have HGK : Hid _ := hgk
          have HLT : Hid _ := hLt
          have HND : Hid _ := hnd
          have HTK : Hid _ := hTk
          have HET : Hid _ := et
          have HOW : Hid (Ow l hd (A ++ B) (.slice none 0 0) t.b) := by
            rcases List.mem_cons.1 ht with e | e
            · exact Or.inr (Or.inl (by rw [e]))
            · exact Or.inr (Or.inr (Or.inl ⟨t, by simp [e], rfl⟩))
          have HNL : Hid (∀ x ∈ hdT hd :: (A ++ ⟨wf.heap.size, c, k + 1⟩ :: B), x.b ≠ l) := fun x hx => by
            have hx2 : x.b ∈ (hdT hd :: (A ++ ⟨wf.heap.size, c, k⟩ :: B)).map (fun t => t.b) := by
              have e : (hdT hd :: (A ++ ⟨wf.heap.size, c, k⟩ :: B)).map (fun t => t.b) = (hdT hd :: (A ++ ⟨wf.heap.size, c, k + 1⟩ :: B)).map (fun t => t.b) := by simp
              rw [e]
              exact List.mem_map.2 ⟨x, hx, rfl⟩
            obtain ⟨y, hy, e⟩ := List.mem_map.1 hx2
            obtain ⟨X, Y, e2⟩ := List.append_of_mem hy
            have h1 : wr.heap[y.b]? = _ := hC.at_ X y Y e2
            have h2 : wr.heap[l]? = _ := hlk
            intro e3
            rw [e, e3, h2] at h1
            cases h1
          have n8 : ¬ w3.heap.size = l := fun e => by
            have h1 := HR.out
            have h2 : wr.heap[l]? = _ := hlk
            rw [e, h2] at h1
            cases h1
          have HTB : Hid _ := hTb
          clear hgk hLt hnd hTk hTb ht et hov hq
          go_wp2_with fail
          go_region
          have hT1 : TwAt (wr.setCell ⟨wf.heap.size, 5 + k, none⟩ (.pointer q)).drew t.b t.c gk := (heap_set_other _ n1).trans HTK.out
          have hl1 : LsAt (wr.setCell ⟨wf.heap.size, 5 + k, none⟩ (.pointer q)).drew l hd _ _ := (heap_set_other _ n6).trans hlk
          have HR1 : Hid ((wr.setCell ⟨wf.heap.size, 5 + k, none⟩ (.pointer q)).drew.heap[w3.heap.size]? = some (.cells (a12 fun n => .pointer (some ⟨f n, 0, none⟩)) 52 (0, 0))) := (heap_set_other _ n3).trans HR.out
          have hK1 : Kp wf (wr.setCell ⟨wf.heap.size, 5 + k, none⟩ (.pointer q)).drew (Ow l hd (A ++ B) (.slice none 0 0)) := (hKr.setCell _ (Or.inr (Nat.le_refl _))).drew
          obtain ⟨W1, hW1⟩ : ∃ W1, W1 = (wr.setCell ⟨wf.heap.size, 5 + k, none⟩ (.pointer q)).drew := ⟨_, rfl⟩
          rw [← hW1] at hT1 hl1 HR1 hK1 ⊢
          have pn1 := hT1.next hk12
          rw [HGK.out, HQ.out] at pn1
          have fn1 := hT1.free (5 + k)
          have pr1 : W1.cell? ⟨w3.heap.size, k, none⟩ = some (.pointer (some ⟨t.b, 0, none⟩)) := by
            have hb := HR1.out
            rw [← HET.out]
            simp only [World.cell?, hb]
            exact a12_get hk12
          have HW1 : Hid _ := hW1
          clear pn fn po fo pr pa fa hW1 hlk HR hKr
          go_wp2_with fail
          have hl2 : LsAt (W1.setCell ⟨t.b, 5 + k, none⟩ (.pointer (some ⟨wf.heap.size, 0, none⟩))) l hd _ _ := (heap_set_other _ n7).trans hl1
          have HR2 : Hid ((W1.setCell ⟨t.b, 5 + k, none⟩ (.pointer (some ⟨wf.heap.size, 0, none⟩))).heap[w3.heap.size]? = some (.cells (a12 fun n => .pointer (some ⟨f n, 0, none⟩)) 52 (0, 0))) := (heap_set_other _ n5).trans HR1.out
          have hC2 : Chn (W1.setCell ⟨t.b, 5 + k, none⟩ (.pointer (some ⟨wf.heap.size, 0, none⟩))) (hdT hd :: (A ++ ⟨wf.heap.size, c, k + 1⟩ :: B)) := by
            have := Chn.link (HA := hdT hd :: A) (B := B) (w' := (wr.setCell ⟨wf.heap.size, 5 + k, none⟩ (pt (nxt k B))).setCell ⟨t.b, 5 + k, none⟩ (pt (some wf.heap.size))) hC hk12 HLT.out rfl
            rw [HQ.out] at this
            rw [HW1.out]
            exact this.kept fun _ _ => rfl
          have hK2 : Kp wf (W1.setCell ⟨t.b, 5 + k, none⟩ (.pointer (some ⟨wf.heap.size, 0, none⟩))) (Ow l hd (A ++ B) (.slice none 0 0)) := hK1.setCell _ (Or.inl HOW.out)
          generalize W1.setCell ⟨t.b, 5 + k, none⟩ (.pointer (some ⟨wf.heap.size, 0, none⟩)) = W2 at *
          have pa := hl2.above hk12
          have fa := hl2.free (1 + k)
          have hcb := cnt_le k (A ++ ⟨wf.heap.size, c, k⟩ :: B)
          have hwr : IntKind.i64.wrap ((cnt k (A ++ ⟨wf.heap.size, c, k⟩ :: B) : Int) + 1) = (cnt k (A ++ ⟨wf.heap.size, c, k⟩ :: B) : Int) + 1 := by
            rw [IntKind.wrap_i64]
            simp only [List.length_append, List.length_cons] at hcb hlen
            omega
          clear pn1 fn1 pr1 hT1 hl1 HR1 hK1 HW1 hC hcb
          go_region
          have hl3 : LsAt (W2.setCell ⟨l, 1 + k, none⟩ (.int .i64 ((cnt k (A ++ ⟨wf.heap.size, c, k⟩ :: B) : Int) + 1))).drew l hd (fun n => (cnt n (A ++ ⟨wf.heap.size, c, k + 1⟩ :: B) : Int)) (.slice none 0 0) := (hl2.setA hk12 _).congr fun n _ => (cnt_grow n).symm
          have hC3 : Chn (W2.setCell ⟨l, 1 + k, none⟩ (.int .i64 ((cnt k (A ++ ⟨wf.heap.size, c, k⟩ :: B) : Int) + 1))).drew (hdT hd :: (A ++ ⟨wf.heap.size, c, k + 1⟩ :: B)) := hC2.kept fun x hx => heap_set_other _ (HNL.out x hx)
          have HR3 : Hid ((W2.setCell ⟨l, 1 + k, none⟩ (.int .i64 ((cnt k (A ++ ⟨wf.heap.size, c, k⟩ :: B) : Int) + 1))).drew.heap[w3.heap.size]? = some (.cells (a12 fun n => .pointer (some ⟨f n, 0, none⟩)) 52 (0, 0))) := (heap_set_other _ n8).trans HR2.out
          have hK3 : Kp wf (W2.setCell ⟨l, 1 + k, none⟩ (.int .i64 ((cnt k (A ++ ⟨wf.heap.size, c, k⟩ :: B) : Int) + 1))).drew (Ow l hd (A ++ B) (.slice none 0 0)) := (hK2.setCell _ (Or.inl (Or.inl rfl))).drew
          generalize (W2.setCell ⟨l, 1 + k, none⟩ (.int .i64 ((cnt k (A ++ ⟨wf.heap.size, c, k⟩ :: B) : Int) + 1))).drew = W3 at *
          clear pa fa hl2 hC2 HR2 hK2 hwr
          go_wp2
          go_roundw
          case rel => exact ⟨k + 1, by go_num, by omega, hC3, hl3, HR3, hK3⟩
          case measure => simp [intOf]; omega
        · have hkh2 : k = h := by omega
          have hi5 : ¬ (k : Int) < (h : Int) := by omega
          have HKH : Hid _ := hkh2
          clear hkh2 hk
          go_wp2
          go_ret
          have hkk := HKH.out
          subst hkk
          refine ⟨rfl, _, Or.inr ⟨A, B, wf.heap.size, rfl, rfl, hKf.size, hA, HBX.out⟩, Ls.new hLf hc ⟨hh1, hh2⟩ hA HBX.out hC hlk, ?_, hQ _ _ hLf hQf hKr⟩
          refine (hKf.mono (fun i hi => Or.inl (Or.inl hi))).trans hKr (fun i hi => Or.inl (Or.inr ?_))
          rcases hi with hi | hi | hi | hi
          · exact Or.inl hi
          · exact Or.inr (Or.inl hi)
          · exact Or.inr (Or.inr (Or.inl hi))
          · cases hi

end Go.Proofs.Ytijfmgpipnhkkaa
