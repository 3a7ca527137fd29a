/-
  No room for a new file: begin, Append.
-/
import Derived.Test.YtpldfakfgngaaaaGreatDoorGMid
namespace Go.Proofs.YtpldfakfgngaaaaGreatDoor
open Go.RowKit
attribute [local go_sem] size_bstr toList_bstr append_bstr

set_option maxHeartbeats 1000000 in
set_option maxRecDepth 100000 in
theorem begin_full {B : Nat} {k : Wk} {F : List Wf} {v : Value} {m fr N : Nat} {L : List Fl} (r : List UInt8) (w : World) (h : Lo B w m L fr N k F v) (hF : F.length ≤ 1000000) (hp : k.p.length ≤ 48) (he : ∀ f ∈ F, (lkP (nm k.p f.num) (Pu L)).isSome = true)
    (hn : nxtF (Pw F) ≤ 1000000000000000) (hfit : fr + tot L ≤ 9223372036854775807) (hb : totP (syF k.p F (Pu L)) + (frm r).length ≤ 140737488355328) (hN : N ≤ 1000000) (hf : fr + tot L - totP (syF k.p F (Pu L)) < (frm r).length) :
    Calls Tryz.prog 54 #[.pointer (some ⟨k.g, 0, none⟩), .string (bstr r), .string (bstr (frm r))] w fun e w' => e = .returned (.int .i64 7) ∧ ∃ L' fr', Lo B w' m L' fr' (N + 2) k F v ∧ Ks w w' m L L' k F F v v ∧ Pu L' = syF k.p F (Pu L) ∧ fr' + tot L' = fr + tot L := by
  have hNx := Next_any w h.wm (by omega) (by omega)
  have hfl := frm_length r
  obtain ⟨n, hnn⟩ : ∃ n, n = nxtF (Pw F) := ⟨_, rfl⟩
  rw [← hnn] at hNx hn
  clear hnn
  have gn : ¬ ((1000000000000000 : Int) < (n : Int)) := by omega
  have hz := apA_full (R := fr + tot L) (t := frm r) (P := syF k.p F (Pu L)) (nm_ok hp n) hf
  have HZ : Hid _ := hz
  clear hz
  generalize hbb : frm r = b at *
  clear hbb
  go_enter Tryz.func54, Tryz.ntmps54
  go_wp2_with fail
  refine hNx.mono ?_
  rintro e w1 ⟨rfl, hb1⟩
  have h1 := h.below hb1
  obtain ⟨t, ht⟩ : ∃ t, t = dgs 16 n := ⟨_, rfl⟩
  have HT : Hid (t = dgs 16 n) := ht
  have hcat : ¬ 9223372036854775807 < k.p.length + t.length := by rw [ht, dgs_length]; omega
  have hdg : ∀ w : World, Lib.TabIs Tryz.prog w "internal/strconv.uint64pow10" .u64 Lib.pow10Tab → Calls Tryz.prog 88 #[.int .u64 n] w fun e w' => e = .returned (.string (bstr t)) ∧ Below w.heap.size w w' := fun w hw => by
    rw [ht]; exact digitsOf_any n (by omega) w hw
  clear ht
  go_wp2_with fail
  refine (wSync_all w1 h1 hF hp he).mono ?_
  rintro e w2 ⟨rfl, L2, fr2, h2, K2, P2, R2⟩
  have K2' := (Ks.of_below (m := m) L k F v hb1).trans K2
  obtain ⟨-, c1, -, -, -⟩ := cells5 h2.wm.blk
  go_wp2_with fail
  go_region_held3 (fun w' => w'.cell? ⟨k.g, 1, none⟩ = some (.string (bstr k.p))) (first | with_reducible exact c1 | with_reducible exact d1 | go_keep)
    ((go_at_call 88; refine (hdg _ h2.drew.vw.pow).mono ?_; rintro e w3 ⟨rfl, hb3⟩; have hB3 : Below w2.heap.size w2 w3 := (below_drewN (Below.refl _ _) 1).trans hb3; have h3 := h2.below hB3; have d1 := (cells5 h3.wm.blk).2.1))
  have hnm : k.p ++ t = nm k.p n := by rw [HT.out]; rfl
  simp only [hnm]
  clear hnm c1 d1
  have hBW : Below w3.heap.size w3 (w3.alloc (.cells #[.string (bstr (nm k.p n)), .int .u64 (n : Int), .int .i64 0, .slice none 0 0] 99)) := (Below.refl _ _).alloc (Nat.le_refl _) _
  have hbk : (w3.alloc (.cells #[.string (bstr (nm k.p n)), .int .u64 (n : Int), .int .i64 0, .slice none 0 0] 99)).heap[w3.heap.size]? = some (.cells #[.string (bstr (nm k.p n)), .int .u64 (n : Int), .int .i64 0, .slice none 0 0] 99 (0, 0)) := heap_alloc_new w3 _
  generalize w3.alloc (.cells #[.string (bstr (nm k.p n)), .int .u64 (n : Int), .int .i64 0, .slice none 0 0] 99) = W at *
  have hW := h3.below hBW
  have hB3' := hB3
  have KW : Ks w W m L L2 k F F v v := (K2'.below hB3).below hBW
  have hWf : WfAt W k.p (wf1 n w3.heap.size) := ⟨hbk, Or.inl ⟨rfl, rfl⟩⟩
  obtain ⟨c0, -, -, -, -⟩ := cells5 hW.wm.blk
  obtain ⟨b0, -, -, -⟩ := cells4 hbk
  have hgl := (Array.getElem?_eq_some_iff.1 hbk).1
  have z1 := K2'.kp.size
  have z2 := hB3.size
  have hap := App_all (nm k.p n) b W.drew hW.dk.drew (by omega) (by rw [← totP_Pu L2, P2]; exact hb) (by unfold maxLen; omega)
  rw [R2, P2, HZ.out] at hap
  go_wp2_with fail
  go_region_held3 (fun w' => w'.cell? ⟨k.g, 0, none⟩ = some (.pointer (some ⟨k.d, 0, none⟩)) ∧ w'.cell? ⟨w3.heap.size, 0, none⟩ = some (.string (bstr (nm k.p n)))) (first | with_reducible exact ⟨c0, b0⟩ | with_reducible exact ⟨d0, e0⟩ | go_keep)
    ((go_at_call 31; refine hap.mono ?_; rintro e w5 ⟨rfl, L5, fr5, S5, P5, R5, T5⟩; have h5 := hW.drew.disk S5; have hWf5 : WfAt w5 k.p (wf1 n w3.heap.size) := hWf.kept (S5.kp.block _ hgl (hW.dk.drew.other hbk (by decide))) (fun i hi => by cases hi); have d0 := (cells5 h5.wm.blk).1; have e0 : w5.cell? ⟨w3.heap.size, 0, none⟩ = some (.string (bstr (nm k.p n))) := (cells4 hWf5.blk).1))
  have K5 : Ks w w5 m L L5 k F F v v := (KW.below (below_drewN (Below.refl _ _) 1)).trans (Ks.of_disk F v S5)
  go_wp2
  go_ret
  exact ⟨rfl, L5, fr5, h5, K5, P5, by omega⟩

set_option maxHeartbeats 1000000 in
set_option maxRecDepth 100000 in
theorem wApp_full {B : Nat} {k : Wk} {F : List Wf} {v : Value} {m fr N : Nat} {L : List Fl} (r : List UInt8) (w : World) (h : Lo B w m L fr N k F v) (hF : F.length ≤ 1000000) (hp : k.p.length ≤ 48) (hs : F = [] ∨ ∃ F0 f, F = F0 ++ [f] ∧ k.most ≤ (totS f.recs : Int)) (he : ∀ f ∈ F, (lkP (nm k.p f.num) (Pu L)).isSome = true)
    (hn : nxtF (Pw F) ≤ 1000000000000000) (hr : r.length ≤ 1048576) (hfit : fr + tot L ≤ 9223372036854775807) (hb : totP (syF k.p F (Pu L)) + (frm r).length ≤ 140737488355328) (hN : N ≤ 1000000) (hf : fr + tot L - totP (syF k.p F (Pu L)) < (frm r).length) :
    Calls Tryz.prog 13 #[.pointer (some ⟨k.g, 0, none⟩), .string (bstr r)] w fun e w' => e = .returned (.int .i64 7) ∧ ∃ L' fr', Lo B w' m L' fr' (N + 2) k F v ∧ Ks w w' m L L' k F F v v ∧ Pu L' = syF k.p F (Pu L) ∧ fr' + tot L' = fr + tot L := by
  have hno := wnone_any w h.wm
  have hfr := Frame_ok r w hr h.vw.tabs
  have key : ∀ w1 : World, Below w.heap.size w w1 → Calls Tryz.prog 54 #[.pointer (some ⟨k.g, 0, none⟩), .string (bstr r), .string (bstr (frm r))] w1 fun e w' => e = .returned (.int .i64 7) ∧ ∃ L' fr', Lo B w' m L' fr' (N + 2) k F v ∧ Ks w w' m L L' k F F v v ∧ Pu L' = syF k.p F (Pu L) ∧ fr' + tot L' = fr + tot L := by
    intro w1 hb1
    refine (begin_full r w1 (h.below hb1) hF hp he hn hfit hb hN hf).mono ?_
    rintro e w' ⟨rfl, L', fr', a1, a2, a3, a4⟩
    exact ⟨rfl, L', fr', a1, (Ks.of_below L k F v hb1).trans a2, a3, a4⟩
  generalize hbb : frm r = b at *
  clear hbb
  obtain ⟨q, cap, hv⟩ := h.wm.row.len
  rw [ptrV_len] at hv
  rcases hs with rfl | ⟨F0, f, rfl, hs⟩
  · go_enter Tryz.func13, Tryz.ntmps13
    go_wp2_with fail
    refine hno.mono ?_
    rintro e w0 ⟨rfl, hw0⟩
    obtain rfl : w = w0 := hw0.symm
    clear hw0
    go_wp2_with fail
    refine hfr.mono ?_
    rintro e w1 ⟨rfl, hb1⟩
    have h1 := h.below hb1
    have c4 : w1.cell? ⟨k.g, 4, none⟩ = some (.slice q 0 cap) := hv ▸ (cells5 h1.wm.blk).2.2.2.2
    go_wp2_with fail
    go_quiet (fail)
    go_wp2_with fail
    refine (key _ (below_drewN hb1 nq)).mono ?_
    rintro e w2 ⟨rfl, hres⟩
    go_wp2
    go_ret
    exact ⟨rfl, hres⟩
  · have gs : k.most ≤ (totS f.recs : Int) := hs
    have hlen : (F0 ++ [f]).length = F0.length + 1 := by simp
    rw [hlen] at hv
    clear hlen hs
    go_enter Tryz.func13, Tryz.ntmps13
    go_wp2_with fail
    refine hno.mono ?_
    rintro e w0 ⟨rfl, hw0⟩
    obtain rfl : w = w0 := hw0.symm
    clear hw0
    go_wp2_with fail
    refine hfr.mono ?_
    rintro e w1 ⟨rfl, hb1⟩
    have h1 := h.below hb1
    have hwf := h1.wm.fl f (by simp)
    have c4 : w1.cell? ⟨k.g, 4, none⟩ = some (.slice q (F0.length + 1) cap) := hv ▸ (cells5 h1.wm.blk).2.2.2.2
    have c2 := (cells5 h1.wm.blk).2.2.1
    have b2 := (cells4 hwf.blk).2.2.1
    have hls := last_any w1.drew h1.wm.drew (by simp at hF; omega)
    have g0 : (((F0.length : Int) + 1) == 0) = false := by rw [beq_eq_false_iff_ne]; omega
    go_wp2_with fail
    go_region_held3 (fun w' => w'.cell? ⟨k.g, 4, none⟩ = some (.slice q (F0.length + 1) cap) ∧ w'.cell? ⟨k.g, 2, none⟩ = some (.int .i64 k.most) ∧ w'.cell? ⟨f.g, 2, none⟩ = some (.int .i64 (totS f.recs : Int))) (first | with_reducible exact ⟨c4, c2, b2⟩ | with_reducible exact ⟨d4, d2, e2⟩ | go_keep)
      ((go_at_call 53; refine hls.mono ?_; rintro e w2 ⟨rfl, hb2⟩; have hB2 := (below_drewN (Below.refl _ _) 1).trans hb2; have h2 := h1.below hB2; have d4 : w2.cell? ⟨k.g, 4, none⟩ = some (.slice q (F0.length + 1) cap) := hv ▸ (cells5 h2.wm.blk).2.2.2.2; have d2 := (cells5 h2.wm.blk).2.2.1; have e2 := (cells4 (h2.wm.fl f (by simp)).blk).2.2.1))
    clear c4 c2 b2 d4 d2 e2
    go_wp2_with fail
    refine (key _ (hb1.trans (hB2.mono hb1.size))).mono ?_
    rintro e w3 ⟨rfl, hres⟩
    go_wp2
    go_ret
    exact ⟨rfl, hres⟩

end Go.Proofs.YtpldfakfgngaaaaGreatDoor
