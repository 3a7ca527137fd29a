/-
  A record put into a file in memory.
  The contract of Sync.
  The contract of begin.
  The contract of Append, where there is room.
-/
import Derived.Test.YtpldfakfgngaaaaGreatDoorGOpen
namespace Go.Proofs.YtpldfakfgngaaaaGreatDoor
open Go.RowKit
attribute [local go_sem] size_bstr toList_bstr append_bstr

theorem Tryz.infoS : (Tryz.prog.info? 9).map (fun i => (i.zero, i.size, i.bytes)) = some (some (.string ⟨#[]⟩), 1, 16) := by kernel_rfl
/-- A file with one record more. -/
def Wf.add (f : Wf) (r : List UInt8) (v : Value) : Wf := { f with recs := f.recs ++ [r], v := v }
def Fb (f : Wf) (i : Nat) : Prop := i = f.g ∨ f.v.ownBlock = some i
theorem strV_snoc (l : List (List UInt8)) (r : List UInt8) : strV (l ++ [r]) = strV l ++ [.string (bstr r)] := by simp [strV]

/-- Behind 'f.records = append(f.records, r)', 'f.size += n'. -/
theorem put_end {w W w4 w6 : World} {p : List UInt8} {f : Wf} {r : List UInt8} {v' : Value} {T : Int} (h : WfAt w p f) (hB : Below w.heap.size w W) (hr : Rw w4 9 v' (strV f.recs ++ [.string (bstr r)])) (hg : W.grownBy w4 f.v.ownBlock)
    (hv : v'.ownBlock = f.v.ownBlock ∨ v'.ownBlock = some W.heap.size) (hT : T = (totS (f.recs ++ [r]) : Int)) (h6 : w6 = (w4.setCell ⟨f.g, 3, none⟩ v').setCell ⟨f.g, 2, none⟩ (.int .i64 T)) :
    WfAt w6 p (f.add r v') ∧ Kp w w6 (Fb f) ∧ (v'.ownBlock = f.v.ownBlock ∨ ∃ j, v'.ownBlock = some j ∧ w.heap.size ≤ j) := by
  have hlt : f.g < w.heap.size := (Array.getElem?_eq_some_iff.1 h.blk).1
  have hW := h.kept (hB.block _ hlt) (fun i hi => hB.block i (h.row.lt hi))
  have hne : f.v.ownBlock ≠ some f.g := fun e => by
    obtain ⟨cur, hc⟩ := hW.row.blk e
    rw [hW.blk] at hc
    cases hc
  have hz := hB.size
  have h4 : w4.heap[f.g]? = W.heap[f.g]? := hg.block _ (by omega) (fun e => hne e.symm)
  have hne2 : v'.ownBlock ≠ some f.g := fun e => by
    obtain ⟨cur, hc⟩ := hr.blk e
    rw [h4, hW.blk] at hc
    cases hc
  have hs : ∀ i, i ≠ f.g → w6.heap[i]? = w4.heap[i]? := fun i hi => by
    rw [h6]
    exact (Below.heap_setCell _ _ _ _ (fun e => hi (by rw [e]))).trans (Below.heap_setCell _ _ _ _ (fun e => hi (by rw [e])))
  refine ⟨⟨?_, ?_⟩, ⟨?_, ?_, ?_, ?_, fun i hi hn => ?_⟩, ?_⟩
  · rw [h6]
    refine Eq.trans ?_ (congrArg (fun z => some (Obj.cells #[.string (bstr (nm p f.num)), .int .u64 (f.num : Int), .int .i64 z, v'] 99 (0, 0))) hT)
    exact block_set (block_set (h4.trans hW.blk) 3 v') 2 _
  · show Rw w6 _ v' (strV (f.recs ++ [r]))
    rw [strV_snoc]
    exact hr.kept fun i hi => hs i (fun e => hne2 (e ▸ hi))
  · rw [h6]; exact hg.os.trans hB.os
  · rw [h6]; exact hg.tape.trans hB.tape
  · rw [h6]; exact hg.output.trans hB.output
  · have := hg.size
    rw [h6]
    simp only [World.setCell, Array.size_modify]
    omega
  · rw [hs i (fun e => hn (Or.inl e)), hg.block i (by omega) (fun e => hn (Or.inr e.symm)), hB.block i hi]
  · rcases hv with e | e
    · exact Or.inl e
    · exact Or.inr ⟨_, e, hz⟩

set_option maxHeartbeats 1000000 in
set_option maxRecDepth 100000 in
theorem put_any {p : List UInt8} {f : Wf} (r : List UInt8) (w : World) (h : WfAt w p f) (hr : r.length ≤ 1048576) (hl : f.recs.length ≤ 1000000000000) (ht : totS f.recs ≤ 1000000000000000) :
    Calls Tryz.prog 55 #[.pointer (some ⟨f.g, 0, none⟩), .string (bstr r), .int .i64 ((r.length + 8 : Nat) : Int)] w fun e w' => e = .returned (.tuple #[]) ∧ ∃ v', WfAt w' p (f.add r v') ∧ Kp w w' (Fb f) ∧ (v'.ownBlock = f.v.ownBlock ∨ ∃ j, v'.ownBlock = some j ∧ w.heap.size ≤ j) := by
  obtain ⟨i0, hi, hz0, hz1, hz2⟩ := info_parts Tryz.infoS
  obtain ⟨-, -, c2, c3⟩ := cells4 h.blk
  have hlt : f.g < w.heap.size := (Array.getElem?_eq_some_iff.1 h.blk).1
  have eT : (totS f.recs : Int) + ((r.length : Int) + 8) = (totS (f.recs ++ [r]) : Int) := by rw [tot_snoc]; omega
  have HT : Hid _ := eT
  clear eT
  obtain ⟨T, hT⟩ : ∃ T, T = totS f.recs := ⟨_, rfl⟩
  have HTE : Hid (T = totS f.recs) := hT
  rw [← hT] at c2 HT ht
  clear hT
  have b1 : (T : Int) + ((r.length : Int) + 8) ≤ 9223372036854775807 := by omega
  have hne : f.v.ownBlock ≠ some f.g := fun e => by
    obtain ⟨cur, hc⟩ := h.row.blk e
    rw [h.blk] at hc
    cases hc
  go_enter Tryz.func55, Tryz.ntmps55
  go_wp2_with fail
  go_region_law
    (first
      | (go_simp; go_at_call 39; refine (CClone_any r _ (by omega)).mono ?_; rintro e w1 ⟨rfl, hb1⟩; have hB1 : Below w.heap.size w w1 := (below_drewN (Below.refl _ _) 1).trans hb1; have hblk1 := (hB1.block _ hlt).trans h.blk; have c31 := (cells4 hblk1).2.2.2; have hBa : Below w.heap.size w (w1.alloc (.cells #[.string (bstr r)] 9)) := hB1.alloc hB1.size _; have c32 := (cells4 ((hBa.block _ hlt).trans h.blk)).2.2.2; have hRw := (h.kept (hBa.block _ hlt) (fun i hi => hBa.block i (h.row.lt hi))).row; have hAc : (w1.alloc (.cells #[.string (bstr r)] 9)).cell? ⟨w1.heap.size, 0, none⟩ = some (.string (bstr r)) := cell_of_row _ _ 0 _ _ _ (heap_alloc_new w1 _); dsimp only)
      | (refine step_app_rw (by rfl) _ _ 62 (by rfl) 9 i0 (.string ⟨#[]⟩) 16 Tryz.underlying62 hi hz0 hz1 hz2 rfl f.v (strV f.recs) (by rfl) hRw (.string (bstr r)) rfl ⟨w1.heap.size, 0, none⟩ 1 (by rfl) hAc (by rw [strV_len]; unfold maxLen; omega) (by rw [strV_len]; omega) ?_; intro v' w4 hr4 hgr4 hv4; have hk4 := (hgr4.block f.g (by have := hBa.size; omega) (fun e => hne e.symm)).trans ((hBa.block _ hlt).trans h.blk); have d3 := (cells4 hk4).2.2.2; have d2 := (cells4 hk4).2.2.1; have fz3 := (cells_block hk4).2 3; have fz2 := (cells_block hk4).2 2; obtain ⟨q4, cap4, rfl⟩ := hr4.len))
  all_goals
    have e2 : (w4.setCell ⟨f.g, 3, none⟩ (.slice q4 ((strV f.recs).length + 1) cap4)).cell? ⟨f.g, 2, none⟩ = some (.int .i64 (T : Int)) := by rw [World.cell?_setCell_other _ _ _ _ (by simp), HTE.out]; exact d2
    have f2 : (w4.setCell ⟨f.g, 3, none⟩ (.slice q4 ((strV f.recs).length + 1) cap4)).frozen? ⟨f.g, 2, none⟩ = false := (cells_block (block_set hk4 3 _)).2 2
    clear d2 d3 fz2 fz3 c31 c32 c3 c2
    go_wp2
    go_end0
    have hfin := put_end h hBa hr4 hgr4 hv4 HT.out.symm.symm rfl
    simp only [List.length_append, List.length_singleton] at hfin
    exact ⟨rfl, _, hfin⟩

end Go.Proofs.YtpldfakfgngaaaaGreatDoor

namespace Go.Proofs.YtpldfakfgngaaaaGreatDoor
open Go.RowKit
attribute [local go_sem] size_bstr toList_bstr append_bstr

set_option maxHeartbeats 600000 in
theorem wSync_nil {k : Wk} {v : Value} (w : World) (h : Wm w k [] v) : Calls Tryz.prog 17 #[.pointer (some ⟨k.g, 0, none⟩)] w fun e w' => e = .returned (.int .i64 0) ∧ w' = w := by
  obtain ⟨-, -, -, -, c4⟩ := cells5 h.blk
  have hn := wnone_any w h
  obtain ⟨q, cap, hv⟩ := h.row.len
  rw [hv] at c4
  go_enter Tryz.func17, Tryz.ntmps17
  go_wp2_with fail
  refine hn.mono ?_
  rintro e w1 ⟨rfl, rfl⟩
  go_wp2
  go_ret
  exact ⟨rfl, rfl⟩
/-- A file is synced. -/
def syW (s : List UInt8) (P : List F3) : List F3 := wthP (s, (ofP s P).2.1, (ofP s P).2.1.length) P

set_option maxHeartbeats 600000 in
set_option maxRecDepth 100000 in
theorem wSync_any {B : Nat} {k : Wk} {F : List Wf} {v : Value} {f : Wf} {m fr N : Nat} {L : List Fl} (w : World) (h : Lo B w m L fr N k (F ++ [f]) v) (hF : F.length ≤ 1000000) (hp : k.p.length ≤ 48) (he : (lkP (nm k.p f.num) (Pu L)).isSome = true) :
    Calls Tryz.prog 17 #[.pointer (some ⟨k.g, 0, none⟩)] w fun e w' => e = .returned (.int .i64 0) ∧ ∃ L' fr', Lo B w' m L' fr' (N + 1) k (F ++ [f]) v ∧ Ks w w' m L L' k (F ++ [f]) (F ++ [f]) v v ∧ Pu L' = syW (nm k.p f.num) (Pu L) ∧ fr' + tot L' = fr + tot L := by
  obtain ⟨c0, -, -, -, c4⟩ := cells5 h.wm.blk
  have hn := wnone_any w h.wm
  obtain ⟨q, cap, hv⟩ := h.wm.row.len
  have hlen : (ptrV (F ++ [f])).length = F.length + 1 := by simp [ptrV]
  rw [hv, hlen] at c4
  clear hlen hv
  have g0 : ¬ (((F.length + 1 : Nat) : Int) = 0) := by omega
  have hwf := h.wm.fl f (by simp)
  have hfl := (Array.getElem?_eq_some_iff.1 hwf.blk).1
  have hgl := (Array.getElem?_eq_some_iff.1 h.wm.blk).1
  obtain ⟨b0, -, -, -⟩ := cells4 hwf.blk
  have hls := last_any w.drew h.wm.drew (by omega)
  have hnl : (nm k.p f.num).length ≤ maxLen := by rw [nm_length]; unfold maxLen; omega
  have hsy : syA (nm k.p f.num) (Pu L) = (syW (nm k.p f.num) (Pu L), 0) := by
    have : isP (nm k.p f.num) (Pu L) = true := he
    simp [syA, this, syW]
  have HSY : Hid _ := hsy
  clear hsy
  go_enter Tryz.func17, Tryz.ntmps17
  go_wp2_with fail
  refine hn.mono ?_
  rintro e w1 ⟨rfl, rfl⟩
  go_wp2_with fail
  go_region_held3 (fun w' => w'.cell? ⟨k.g, 0, none⟩ = some (.pointer (some ⟨k.d, 0, none⟩)) ∧ w'.cell? ⟨f.g, 0, none⟩ = some (.string (bstr (nm k.p f.num)))) (first | with_reducible exact ⟨c0, b0⟩ | with_reducible exact ⟨d0, e0⟩ | with_reducible exact ⟨d1, e1⟩ | go_keep)
    (first
      | (go_at_call 53; refine hls.mono ?_; rintro e w2 ⟨rfl, hb2⟩; have hB2 := (below_drewN (Below.refl _ _) 1).trans hb2; have h2 := h.below hB2; have d0 := (cells5 h2.wm.blk).1; have e0 := (cells4 (h2.wm.fl f (by simp)).blk).1; have hsn := Syn_all (nm k.p f.num) 0 w2 h2.dk hnl)
      | (go_at_call 58; refine hsn.mono ?_; rintro e w3 ⟨he3, L3, fr3, S3, P3, R3, T3⟩; rw [HSY.out] at he3 P3; subst he3; have h3 := h2.disk S3; have d1 := (cells5 h3.wm.blk).1; have e1 := (cells4 (h3.wm.fl f (by simp)).blk).1))
  go_wp2
  go_ret
  exact ⟨rfl, L3, fr3, h3, (Ks.of_below L k _ v hB2).trans (Ks.of_disk _ v S3), P3, R3⟩

end Go.Proofs.YtpldfakfgngaaaaGreatDoor

namespace Go.Proofs.YtpldfakfgngaaaaGreatDoor
open Go.RowKit
attribute [local go_sem] size_bstr toList_bstr append_bstr

/-- The last file is synced, if there is one. -/
def syF (p : List UInt8) (F : List Wf) (P : List F3) : List F3 := match F.getLast? with | none => P | some f => syW (nm p f.num) P
theorem syF_snoc (p : List UInt8) (F : List Wf) (f : Wf) (P : List F3) : syF p (F ++ [f]) P = syW (nm p f.num) P := by simp [syF]
theorem wSync_all {B : Nat} {k : Wk} {F : List Wf} {v : Value} {m fr N : Nat} {L : List Fl} (w : World) (h : Lo B w m L fr N k F v) (hF : F.length ≤ 1000000) (hp : k.p.length ≤ 48) (he : ∀ f ∈ F, (lkP (nm k.p f.num) (Pu L)).isSome = true) :
    Calls Tryz.prog 17 #[.pointer (some ⟨k.g, 0, none⟩)] w fun e w' => e = .returned (.int .i64 0) ∧ ∃ L' fr', Lo B w' m L' fr' (N + 1) k F v ∧ Ks w w' m L L' k F F v v ∧ Pu L' = syF k.p F (Pu L) ∧ fr' + tot L' = fr + tot L := by
  rcases snoc_cases F with rfl | ⟨F, f, rfl⟩
  · refine (wSync_nil w h.wm).mono ?_
    rintro e w' ⟨rfl, rfl⟩
    exact ⟨rfl, L, fr, ⟨h.dk.mono (Nat.le_succ _), h.wm, h.geD, h.geW, h.vw⟩, Ks.refl _ _ _ _ _ _, rfl, rfl⟩
  · rw [syF_snoc]
    exact wSync_any w h (by simp at hF; omega) hp (he f (by simp))
/-- A new file, where the log goes on. -/
def wf1 (n g : Nat) : Wf := ⟨n, [], g, .slice none 0 0⟩

set_option maxHeartbeats 400000 in
set_option maxRecDepth 100000 in
theorem begin_ok {B : Nat} {k : Wk} {F : List Wf} {v : Value} {m fr N : Nat} {L : List Fl} (r : List UInt8) (w : World) (h : Lo B w m L fr N k F v) (hF : F.length ≤ 1000000) (hp : k.p.length ≤ 48) (he : ∀ f ∈ F, (lkP (nm k.p f.num) (Pu L)).isSome = true)
    (hn : nxtF (Pw F) ≤ 1000000000000000) (hr : r.length ≤ 1048576) (hfit : fr + tot L ≤ 9223372036854775807) (hb : totP (syF k.p F (Pu L)) + (frm r).length ≤ 140737488355328) (hN : N ≤ 1000000) (hf : ¬ fr + tot L - totP (syF k.p F (Pu L)) < (frm r).length) :
    Calls Tryz.prog 54 #[.pointer (some ⟨k.g, 0, none⟩), .string (bstr r), .string (bstr (frm r))] w fun e w' => e = .returned (.int .i64 0) ∧ ∃ L' fr' f v', Lo B w' m L' fr' (N + 2) k (F ++ [f]) v' ∧ Ks w w' m L L' k F (F ++ [f]) v v' ∧ pw f = (nxtF (Pw F), [r]) ∧ Pu L' = (apA (fr + tot L) (nm k.p (nxtF (Pw F))) (frm r) (syF k.p F (Pu L))).1 ∧ fr' + tot L' = fr + tot L := by
  obtain ⟨i0, hi, hz0, hz1, hz2⟩ := info_parts Tryz.infoPF
  have hNx := Next_any w h.wm (by omega) (by omega)
  have hfl := frm_length r
  obtain ⟨n, hnn⟩ : ∃ n, n = nxtF (Pw F) := ⟨_, rfl⟩
  rw [← hnn] at hNx hn ⊢
  clear hnn
  have gn : ¬ ((1000000000000000 : Int) < (n : Int)) := by omega
  have hz := apA_ok (R := fr + tot L) (t := frm r) (P := syF k.p F (Pu L)) (nm_ok hp n) hf
  have HZ : Hid _ := hz
  clear hz
  generalize hbb : frm r = b at *
  clear hbb
  go_enter Tryz.func54, Tryz.ntmps54
  go_wp2_with fail
  refine hNx.mono ?_
  rintro e w1 ⟨rfl, hb1⟩
  have h1 := h.below hb1
  obtain ⟨t, ht⟩ : ∃ t, t = dgs 16 n := ⟨_, rfl⟩
  have HT : Hid (t = dgs 16 n) := ht
  have hcat : ¬ 9223372036854775807 < k.p.length + t.length := by rw [ht, dgs_length]; omega
  have hdg : ∀ w : World, Lib.TabIs Tryz.prog w "internal/strconv.uint64pow10" .u64 Lib.pow10Tab → Calls Tryz.prog 88 #[.int .u64 n] w fun e w' => e = .returned (.string (bstr t)) ∧ Below w.heap.size w w' := fun w hw => by
    rw [ht]; exact digitsOf_any n (by omega) w hw
  clear ht
  go_wp2_with fail
  refine (wSync_all w1 h1 hF hp he).mono ?_
  rintro e w2 ⟨rfl, L2, fr2, h2, K2, P2, R2⟩
  have K2' := (Ks.of_below (m := m) L k F v hb1).trans K2
  obtain ⟨-, c1, -, -, -⟩ := cells5 h2.wm.blk
  go_wp2_with fail
  go_region_held3 (fun w' => w'.cell? ⟨k.g, 1, none⟩ = some (.string (bstr k.p))) (first | with_reducible exact c1 | with_reducible exact d1 | go_keep)
    ((go_at_call 88; refine (hdg _ h2.drew.vw.pow).mono ?_; rintro e w3 ⟨rfl, hb3⟩; have hB3 : Below w2.heap.size w2 w3 := (below_drewN (Below.refl _ _) 1).trans hb3; have h3 := h2.below hB3; have d1 := (cells5 h3.wm.blk).2.1))
  have hnm : k.p ++ t = nm k.p n := by rw [HT.out]; rfl
  simp only [hnm]
  clear hnm c1 d1
  have hBW : Below w3.heap.size w3 (w3.alloc (.cells #[.string (bstr (nm k.p n)), .int .u64 (n : Int), .int .i64 0, .slice none 0 0] 99)) := (Below.refl _ _).alloc (Nat.le_refl _) _
  have hbk : (w3.alloc (.cells #[.string (bstr (nm k.p n)), .int .u64 (n : Int), .int .i64 0, .slice none 0 0] 99)).heap[w3.heap.size]? = some (.cells #[.string (bstr (nm k.p n)), .int .u64 (n : Int), .int .i64 0, .slice none 0 0] 99 (0, 0)) := heap_alloc_new w3 _
  generalize w3.alloc (.cells #[.string (bstr (nm k.p n)), .int .u64 (n : Int), .int .i64 0, .slice none 0 0] 99) = W at *
  have hW := h3.below hBW
  have hB3' := hB3
  have KW : Ks w W m L L2 k F F v v := (K2'.below hB3).below hBW
  have hWf : WfAt W k.p (wf1 n w3.heap.size) := ⟨hbk, Or.inl ⟨rfl, rfl⟩⟩
  obtain ⟨c0, -, -, -, -⟩ := cells5 hW.wm.blk
  obtain ⟨b0, -, -, -⟩ := cells4 hbk
  have hgl := (Array.getElem?_eq_some_iff.1 hbk).1
  have z1 := K2'.kp.size
  have z2 := hB3.size
  have hap := App_all (nm k.p n) b W.drew hW.dk.drew (by omega) (by rw [← totP_Pu L2, P2]; exact hb) (by unfold maxLen; omega)
  rw [R2, P2, HZ.out] at hap
  go_wp2_with fail
  go_region_held3 (fun w' => w'.cell? ⟨k.g, 0, none⟩ = some (.pointer (some ⟨k.d, 0, none⟩)) ∧ w'.cell? ⟨w3.heap.size, 0, none⟩ = some (.string (bstr (nm k.p n)))) (first | with_reducible exact ⟨c0, b0⟩ | with_reducible exact ⟨d0, e0⟩ | go_keep)
    ((go_at_call 31; refine hap.mono ?_; rintro e w5 ⟨rfl, L5, fr5, S5, P5, R5, T5⟩; have h5 := hW.drew.disk S5; have hWf5 : WfAt w5 k.p (wf1 n w3.heap.size) := hWf.kept (S5.kp.block _ hgl (hW.dk.drew.other hbk (by decide))) (fun i hi => by cases hi); have d0 := (cells5 h5.wm.blk).1; have e0 : w5.cell? ⟨w3.heap.size, 0, none⟩ = some (.string (bstr (nm k.p n))) := (cells4 hWf5.blk).1))
  have K5 : Ks w w5 m L L5 k F F v v := (KW.below (below_drewN (Below.refl _ _) 1)).trans (Ks.of_disk F v S5)
  have hpu := put_any r w5 hWf5 hr (Nat.zero_le _) (Nat.zero_le _)
  have z5 : W.heap.size ≤ w5.heap.size := S5.kp.size
  have e8 : ((r.length + 8 : Nat) : Int) = (r.length : Int) + 8 := by omega
  rw [e8] at hpu
  clear e8
  go_wp2_with fail
  refine hpu.mono ?_
  rintro e w6 ⟨rfl, v6, hWf6, K6, hv6⟩
  have hFt : ¬ Ft k.d m L5 w3.heap.size := h5.dk.other hWf5.blk (by decide)
  have hFw : ¬ Fw k F v w3.heap.size := fun hi => by have := h3.wm.lt hi; omega
  have hFb : ∀ i, Fb (wf1 n w3.heap.size) i → i = w3.heap.size := fun i hi => by
    rcases hi with e | e
    · exact e
    · cases e
  have h6 : Lo B w6 m L5 fr5 (N + 1 + 1) k F v := h5.kept (fun i hi => K6.block i (h5.dk.lt hi) (fun e => hFt (hFb i e ▸ hi))) (fun i hi => K6.block i (h5.wm.lt hi) (fun e => hFw (hFb i e ▸ hi))) (K6.below h5.vw.le (fun i hi => by rw [hFb i hi]; exact h3.vw.le))
  have K6' : Ks w w6 m L L5 k F F v v := ⟨K5.kp.trans K6 (fun i hi => Or.inr (by rw [hFb i hi]; omega)), K5.ft, K5.fw⟩
  have c4 := (cells5 h6.wm.blk).2.2.2.2
  have hAB : Below w6.heap.size w6 (w6.alloc (.cells #[.pointer (some ⟨w3.heap.size, 0, none⟩)] 100)) := (Below.refl _ _).alloc (Nat.le_refl _) _
  have hWA := h6.wm.below hAB
  have hRw := hWA.row
  have hAc : (w6.alloc (.cells #[.pointer (some ⟨w3.heap.size, 0, none⟩)] 100)).cell? ⟨w6.heap.size, 0, none⟩ = some (.pointer (some ⟨w3.heap.size, 0, none⟩)) := cell_of_row _ _ 0 _ _ _ (heap_alloc_new w6 _)
  have z6 : w5.heap.size ≤ w6.heap.size := K6.size
  clear c0 b0 d0 e0
  go_wp2_with (at_builtin; refine wpList_app_rw rfl _ _ 82 rfl 100 i0 (.pointer none) 8 Tryz.underlying82 hi hz0 hz1 hz2 rfl v (ptrV F) rfl hRw (.pointer (some ⟨w3.heap.size, 0, none⟩)) rfl ⟨w6.heap.size, 0, none⟩ 1 rfl hAc (by rw [ptrV_len]; unfold maxLen; omega) (by rw [ptrV_len]; omega) ?_; intro v' w7 hr7 hgr7 hv7; refine Hid.out ?_)
  refine Lib.hid ?_
  have hk7 := (hgr7.block k.g (hWA.lt (Or.inl rfl)) (fun e => by
    obtain ⟨cur, hc⟩ := hWA.row.blk e.symm
    rw [hWA.blk] at hc
    cases hc)).trans hWA.blk
  have d4 := (cells5 hk7).2.2.2.2
  have fz4 := (cells_block hk7).2 4
  obtain ⟨q7, cap7, rfl⟩ := hr7.len
  go_wp2
  go_ret
  have hWfA : WfAt _ k.p ((wf1 n w3.heap.size).add r v6) := hWf6.kept (hAB.block _ (Array.getElem?_eq_some_iff.1 hWf6.blk).1) (fun i hi => hAB.block i (hWf6.row.lt hi))
  have hfin := h6.push2 (f := (wf1 n w3.heap.size).add r v6) hAB hWfA (fun a ha e => hFw (Or.inr (Or.inr (Or.inr (Or.inr ⟨a, ha, Or.inl e.symm⟩))))) (by show B ≤ w3.heap.size; exact h3.vw.le) (fun i hi => by
    rcases hv6 with e | ⟨j, e, hj⟩
    · rw [show ((wf1 n w3.heap.size).add r v6).v = v6 from rfl, e] at hi
      cases hi
    · rw [show ((wf1 n w3.heap.size).add r v6).v = v6 from rfl, e] at hi
      cases hi
      refine ⟨by have := h5.vw.le; omega, fun e2 => ?_, fun a ha e2 => ?_⟩
      · have := h5.wm.lt (Or.inr (Or.inr (Or.inl rfl)) : Fw k F v k.cb)
        omega
      · have := h5.wm.lt (Or.inr (Or.inr (Or.inr (Or.inr ⟨a, ha, Or.inr e2⟩))))
        omega) hgr7 (by rw [ptrV_snoc]; exact hr7) hv7 rfl
  simp only [List.length_append, List.length_singleton] at hfin
  obtain ⟨k1, k2, k3⟩ := hfin
  have hKn : Ks w6 _ m L5 L5 k F F v v := ⟨k2.mono fun _ h => Or.inl (Or.inr h), fun _ h => Or.inl h, fun _ h => Or.inl h⟩
  have hKt := K6'.trans hKn
  refine ⟨rfl, L5, fr5, _, _, k1, ⟨hKt.kp, hKt.ft, fun i hi => ?_⟩, rfl, by rw [HZ.out]; exact P5, by omega⟩
  rcases k3 i hi with e | e | e | e
  · exact Or.inl e
  · exact Or.inr (by omega)
  · exact Or.inr (by rw [e]; show w.heap.size ≤ w3.heap.size; omega)
  · rcases hv6 with e2 | ⟨j, e2, hj⟩
    · rw [show ((wf1 n w3.heap.size).add r v6).v = v6 from rfl, e2] at e
      cases e
    · rw [show ((wf1 n w3.heap.size).add r v6).v = v6 from rfl, e2] at e
      cases e
      exact Or.inr (by omega)

end Go.Proofs.YtpldfakfgngaaaaGreatDoor

namespace Go.Proofs.YtpldfakfgngaaaaGreatDoor
open Go.RowKit
attribute [local go_sem] size_bstr toList_bstr append_bstr

/-- The last file turned into another one in its place. -/
theorem Lo.turn {B : Nat} {w w' : World} {m fr N : Nat} {L : List Fl} {k : Wk} {F : List Wf} {f f' : Wf} {v : Value} (h : Lo B w m L fr N k (F ++ [f]) v) (hf : WfAt w' k.p f') (hg : f'.g = f.g) (hk : Kp w w' (Fb f)) (hv : f'.v.ownBlock = none ∨ f'.v.ownBlock = f.v.ownBlock ∨ ∃ j, f'.v.ownBlock = some j ∧ w.heap.size ≤ j) :
    Lo B w' m L fr N k (F ++ [f']) v ∧ Ks w w' m L L k (F ++ [f]) (F ++ [f']) v v := by
  have hm : f ∈ F ++ [f] := by simp
  have hF := h.wm.fl f hm
  have gne : ∀ {i : Nat} {cur : Array Value} {t : TypeId} {x : Nat × Nat}, w.heap[i]? = some (.cells cur t x) → t ≠ 99 → i ≠ f.g := fun {i cur t x} hi ht e => by
    rw [e, hF.blk] at hi
    cases hi
    exact ht rfl
  have vne : ∀ {i : Nat} {cur : Array Value} {t : TypeId} {x : Nat × Nat}, w.heap[i]? = some (.cells cur t x) → t ≠ 9 → f.v.ownBlock ≠ some i := fun {i cur t x} hi ht e => by
    obtain ⟨cur', hc⟩ := hF.row.blk e
    rw [hi] at hc
    cases hc
    exact ht rfl
  have kep : ∀ {i : Nat}, i < w.heap.size → i ≠ f.g → f.v.ownBlock ≠ some i → w'.heap[i]? = w.heap[i]? := fun {i} h1 h2 h3 => hk.block i h1 (fun e => by
    rcases e with e | e
    · exact h2 e
    · exact h3 e)
  have lt : ∀ {i : Nat} {o : Obj}, w.heap[i]? = some o → i < w.heap.size := fun {i o} hi => (Array.getElem?_eq_some_iff.1 hi).1
  have hgs := List.pairwise_append.1 h.wm.gs
  have hrs := List.pairwise_append.1 h.wm.rs
  have hpv : ptrV (F ++ [f']) = ptrV (F ++ [f]) := by simp [ptrV, hg]
  have hw : Wm w' k (F ++ [f']) v := by
    refine ⟨(kep (lt h.wm.blk) (gne h.wm.blk (by decide)) (vne h.wm.blk (by decide))).trans h.wm.blk, (kep (lt h.wm.ca) (gne h.wm.ca (by decide)) (vne h.wm.ca (by decide))).trans h.wm.ca,
      (kep (lt h.wm.cb) (gne h.wm.cb (by decide)) (h.wm.nb f hm)).trans h.wm.cb, ?_, fun a ha => ?_, ?_, ?_, fun a ha => ?_⟩
    · rw [hpv]
      refine h.wm.row.kept fun i hi => ?_
      obtain ⟨cur, hc⟩ := h.wm.row.blk hi
      exact kep (lt hc) (gne hc (by decide)) (vne hc (by decide))
    · rcases List.mem_append.1 ha with ha | ha
      · have hfa := h.wm.fl a (by simp [ha])
        refine hfa.kept (kep (lt hfa.blk) (hgs.2.2 a ha f (by simp)) (vne hfa.blk (by decide))) (fun i hi => ?_)
        obtain ⟨cur, hc⟩ := hfa.row.blk hi
        refine kep (lt hc) (gne hc (by decide)) (fun e => ?_)
        rcases hrs.2.2 a ha f (by simp) with e2 | e2
        · rw [e2] at hi; cases hi
        · exact e2 (hi.trans e.symm)
      · rw [List.mem_singleton.1 ha]
        exact hf
    · refine List.pairwise_append.2 ⟨hgs.1, List.pairwise_singleton _ _, fun a ha b hb => ?_⟩
      rw [List.mem_singleton.1 hb, hg]
      exact hgs.2.2 a ha f (by simp)
    · refine List.pairwise_append.2 ⟨hrs.1, List.pairwise_singleton _ _, fun a ha b hb => ?_⟩
      rw [List.mem_singleton.1 hb]
      rcases hv with e | e | ⟨j, e, hj⟩
      · rw [e]
        cases a.v.ownBlock <;> simp
      · rw [e]
        exact hrs.2.2 a ha f (by simp)
      · rw [e]
        cases ea : a.v.ownBlock with
        | none => exact Or.inl rfl
        | some i =>
          have := h.wm.lt (Or.inr (Or.inr (Or.inr (Or.inr ⟨a, by simp [ha], Or.inr ea⟩))))
          exact Or.inr (fun e2 => by cases e2; omega)
    · rcases List.mem_append.1 ha with ha | ha
      · exact h.wm.nb a (by simp [ha])
      · rw [List.mem_singleton.1 ha]
        rcases hv with e | e | ⟨j, e, hj⟩
        · rw [e]; simp
        · rw [e]; exact h.wm.nb f hm
        · rw [e]
          have := h.wm.lt (Or.inr (Or.inr (Or.inl rfl)) : Fw k (F ++ [f]) v k.cb)
          exact fun e2 => by cases e2; omega
  refine h.log hw (hk.mono fun i hi => Or.inl (Or.inr (Or.inr (Or.inr (Or.inr ⟨f, hm, hi⟩))))) (fun i hi => ?_)
  rcases hi with e | e | e | e | ⟨a, ha, e⟩
  · exact Or.inl (Or.inl e)
  · exact Or.inl (Or.inr (Or.inl e))
  · exact Or.inl (Or.inr (Or.inr (Or.inl e)))
  · exact Or.inl (Or.inr (Or.inr (Or.inr (Or.inl e))))
  · rcases List.mem_append.1 ha with ha | ha
    · exact Or.inl (Or.inr (Or.inr (Or.inr (Or.inr ⟨a, by simp [ha], e⟩))))
    · rw [List.mem_singleton.1 ha] at e
      rcases e with e | e
      · exact Or.inl (Or.inr (Or.inr (Or.inr (Or.inr ⟨f, hm, Or.inl (e.trans hg)⟩))))
      · rcases hv with e2 | e2 | ⟨j, e2, hj⟩
        · rw [e2] at e; cases e
        · rw [e2] at e
          exact Or.inl (Or.inr (Or.inr (Or.inr (Or.inr ⟨f, hm, Or.inr e⟩))))
        · rw [e2] at e; cases e
          exact Or.inr hj

set_option maxHeartbeats 400000 in
set_option maxRecDepth 100000 in
/-- To the last file. -/
theorem wApp_old {B : Nat} {k : Wk} {F : List Wf} {f : Wf} {v : Value} {m fr N : Nat} {L : List Fl} (r : List UInt8) (w : World) (h : Lo B w m L fr N k (F ++ [f]) v) (hF : F.length ≤ 1000000) (hp : k.p.length ≤ 48) (hs : (totS f.recs : Int) < k.most)
    (hr : r.length ≤ 1048576) (hfit : fr + tot L ≤ 9223372036854775807) (hb : tot L + (frm r).length ≤ 140737488355328) (hN : N ≤ 1000000) (hl : f.recs.length ≤ 1000000000000) (ht : totS f.recs ≤ 1000000000000000) (hf : ¬ fr + tot L - totP (Pu L) < (frm r).length) :
    Calls Tryz.prog 13 #[.pointer (some ⟨k.g, 0, none⟩), .string (bstr r)] w fun e w' => e = .returned (.int .i64 0) ∧ ∃ L' fr' f', Lo B w' m L' fr' (N + 1) k (F ++ [f']) v ∧ Ks w w' m L L' k (F ++ [f]) (F ++ [f']) v v ∧ pw f' = (f.num, f.recs ++ [r]) ∧ Pu L' = (apA (fr + tot L) (nm k.p f.num) (frm r) (Pu L)).1 ∧ fr' + tot L' = fr + tot L := by
  have hn := wnone_any w h.wm
  have hfl := frm_length r
  have hfr := Frame_ok r w hr h.vw.tabs
  have hz := apA_ok (R := fr + tot L) (t := frm r) (P := Pu L) (nm_ok hp f.num) hf
  have HZ : Hid _ := hz
  clear hz
  generalize hbb : frm r = b at *
  clear hbb
  have hlen : (ptrV (F ++ [f])).length = F.length + 1 := by simp [ptrV]
  obtain ⟨q, cap, hv⟩ := h.wm.row.len
  rw [hlen] at hv
  clear hlen
  have gs : ¬ (k.most ≤ (totS f.recs : Int)) := by omega
  go_enter Tryz.func13, Tryz.ntmps13
  go_wp2_with fail
  refine hn.mono ?_
  rintro e w0 ⟨rfl, hw0⟩
  obtain rfl : w = w0 := hw0.symm
  clear hw0
  go_wp2_with fail
  refine hfr.mono ?_
  rintro e w1 ⟨rfl, hb1⟩
  have h1 := h.below hb1
  have hwf := h1.wm.fl f (by simp)
  have c4 : w1.cell? ⟨k.g, 4, none⟩ = some (.slice q (F.length + 1) cap) := hv ▸ (cells5 h1.wm.blk).2.2.2.2
  have c2 := (cells5 h1.wm.blk).2.2.1
  have b2 := (cells4 hwf.blk).2.2.1
  have hls := last_any w1.drew h1.wm.drew (by omega)
  have g0 : (((F.length : Int) + 1) == 0) = false := by rw [beq_eq_false_iff_ne]; omega
  go_wp2_with fail
  go_region_held3 (fun w' => w'.cell? ⟨k.g, 4, none⟩ = some (.slice q (F.length + 1) cap) ∧ w'.cell? ⟨k.g, 2, none⟩ = some (.int .i64 k.most) ∧ w'.cell? ⟨f.g, 2, none⟩ = some (.int .i64 (totS f.recs : Int))) (first | with_reducible exact ⟨c4, c2, b2⟩ | with_reducible exact ⟨d4, d2, e2⟩ | go_keep)
    ((go_at_call 53; refine hls.mono ?_; rintro e w2 ⟨rfl, hb2⟩; have hB2 := (below_drewN (Below.refl _ _) 1).trans hb2; have h2 := h1.below hB2; have d4 : w2.cell? ⟨k.g, 4, none⟩ = some (.slice q (F.length + 1) cap) := hv ▸ (cells5 h2.wm.blk).2.2.2.2; have d2 := (cells5 h2.wm.blk).2.2.1; have e2 := (cells4 (h2.wm.fl f (by simp)).blk).2.2.1))
  clear c4 c2 b2 d4 d2 e2
  go_wp2_with fail
  refine (last_any w2 h2.wm (by omega)).mono ?_
  rintro e w3 ⟨rfl, hb3⟩
  have h3 := h2.below hb3
  have hwf3 := h3.wm.fl f (by simp)
  obtain ⟨c0, -, -, -, -⟩ := cells5 h3.wm.blk
  obtain ⟨b0, -, -, -⟩ := cells4 hwf3.blk
  have hap := App_all (nm k.p f.num) b w3.drew h3.dk.drew hfit (by omega) (by unfold maxLen; omega)
  rw [HZ.out] at hap
  go_wp2_with fail
  go_region_held3 (fun w' => w'.cell? ⟨k.g, 0, none⟩ = some (.pointer (some ⟨k.d, 0, none⟩)) ∧ w'.cell? ⟨f.g, 0, none⟩ = some (.string (bstr (nm k.p f.num)))) (first | with_reducible exact ⟨c0, b0⟩ | with_reducible exact ⟨d0, e0⟩ | go_keep)
    ((go_at_call 31; refine hap.mono ?_; rintro e w5 ⟨rfl, L5, fr5, S5, P5, R5, T5⟩; have h5 := h3.drew.disk S5; have hwf5 := h5.wm.fl f (by simp); have d0 := (cells5 h5.wm.blk).1; have e0 := (cells4 hwf5.blk).1))
  have hpu := put_any r w5 hwf5 hr hl ht
  have e8 : ((r.length + 8 : Nat) : Int) = (r.length : Int) + 8 := by omega
  rw [e8] at hpu
  clear e8 c0 b0 d0 e0
  go_wp2_with fail
  refine hpu.mono ?_
  rintro e w6 ⟨rfl, v6, hWf6, K6, hv6⟩
  go_wp2
  go_ret
  obtain ⟨h6, Kn⟩ := h5.turn hWf6 rfl K6 (by
    rcases hv6 with e | e
    · exact Or.inr (Or.inl e)
    · exact Or.inr (Or.inr e))
  have Kb : Ks w w3 m L L k (F ++ [f]) (F ++ [f]) v v := ((Ks.of_below L k _ v hb1).below hB2).below hb3
  refine ⟨rfl, L5, fr5, _, h6, ((Kb.below (below_drewN (Below.refl _ _) 1)).trans (Ks.of_disk _ v S5)).trans Kn, rfl, by rw [HZ.out]; exact P5, R5⟩

set_option maxHeartbeats 400000 in
set_option maxRecDepth 100000 in
/-- To a new file. -/
theorem wApp_new {B : Nat} {k : Wk} {F : List Wf} {v : Value} {m fr N : Nat} {L : List Fl} (r : List UInt8) (w : World) (h : Lo B w m L fr N k F v) (hF : F.length ≤ 1000000) (hp : k.p.length ≤ 48) (hs : F = [] ∨ ∃ F0 f, F = F0 ++ [f] ∧ k.most ≤ (totS f.recs : Int)) (he : ∀ f ∈ F, (lkP (nm k.p f.num) (Pu L)).isSome = true)
    (hn : nxtF (Pw F) ≤ 1000000000000000) (hr : r.length ≤ 1048576) (hfit : fr + tot L ≤ 9223372036854775807) (hb : totP (syF k.p F (Pu L)) + (frm r).length ≤ 140737488355328) (hN : N ≤ 1000000) (hf : ¬ fr + tot L - totP (syF k.p F (Pu L)) < (frm r).length) :
    Calls Tryz.prog 13 #[.pointer (some ⟨k.g, 0, none⟩), .string (bstr r)] w fun e w' => e = .returned (.int .i64 0) ∧ ∃ L' fr' f v', Lo B w' m L' fr' (N + 2) k (F ++ [f]) v' ∧ Ks w w' m L L' k F (F ++ [f]) v v' ∧ pw f = (nxtF (Pw F), [r]) ∧ Pu L' = (apA (fr + tot L) (nm k.p (nxtF (Pw F))) (frm r) (syF k.p F (Pu L))).1 ∧ fr' + tot L' = fr + tot L := by
  have hno := wnone_any w h.wm
  have hfr := Frame_ok r w hr h.vw.tabs
  have key : ∀ w1 : World, Below w.heap.size w w1 → Calls Tryz.prog 54 #[.pointer (some ⟨k.g, 0, none⟩), .string (bstr r), .string (bstr (frm r))] w1 fun e w' => e = .returned (.int .i64 0) ∧ ∃ L' fr' f v', Lo B w' m L' fr' (N + 2) k (F ++ [f]) v' ∧ Ks w w' m L L' k F (F ++ [f]) v v' ∧ pw f = (nxtF (Pw F), [r]) ∧ Pu L' = (apA (fr + tot L) (nm k.p (nxtF (Pw F))) (frm r) (syF k.p F (Pu L))).1 ∧ fr' + tot L' = fr + tot L := by
    intro w1 hb1
    refine (begin_ok r w1 (h.below hb1) hF hp he hn hr hfit hb hN hf).mono ?_
    rintro e w' ⟨rfl, L', fr', f, v', a1, a2, a3, a4, a5⟩
    exact ⟨rfl, L', fr', f, v', a1, (Ks.of_below L k F v hb1).trans a2, a3, a4, a5⟩
  generalize hbb : frm r = b at *
  clear hbb
  obtain ⟨q, cap, hv⟩ := h.wm.row.len
  rw [ptrV_len] at hv
  rcases hs with rfl | ⟨F0, f, rfl, hs⟩
  · go_enter Tryz.func13, Tryz.ntmps13
    go_wp2_with fail
    refine hno.mono ?_
    rintro e w0 ⟨rfl, hw0⟩
    obtain rfl : w = w0 := hw0.symm
    clear hw0
    go_wp2_with fail
    refine hfr.mono ?_
    rintro e w1 ⟨rfl, hb1⟩
    have h1 := h.below hb1
    have c4 : w1.cell? ⟨k.g, 4, none⟩ = some (.slice q 0 cap) := hv ▸ (cells5 h1.wm.blk).2.2.2.2
    go_wp2_with fail
    go_quiet (fail)
    go_wp2_with fail
    refine (key _ (below_drewN hb1 nq)).mono ?_
    rintro e w2 ⟨rfl, hres⟩
    go_wp2
    go_ret
    exact ⟨rfl, hres⟩
  · have gs : k.most ≤ (totS f.recs : Int) := hs
    have hlen : (F0 ++ [f]).length = F0.length + 1 := by simp
    rw [hlen] at hv
    clear hlen hs
    go_enter Tryz.func13, Tryz.ntmps13
    go_wp2_with fail
    refine hno.mono ?_
    rintro e w0 ⟨rfl, hw0⟩
    obtain rfl : w = w0 := hw0.symm
    clear hw0
    go_wp2_with fail
    refine hfr.mono ?_
    rintro e w1 ⟨rfl, hb1⟩
    have h1 := h.below hb1
    have hwf := h1.wm.fl f (by simp)
    have c4 : w1.cell? ⟨k.g, 4, none⟩ = some (.slice q (F0.length + 1) cap) := hv ▸ (cells5 h1.wm.blk).2.2.2.2
    have c2 := (cells5 h1.wm.blk).2.2.1
    have b2 := (cells4 hwf.blk).2.2.1
    have hls := last_any w1.drew h1.wm.drew (by simp at hF; omega)
    have g0 : (((F0.length : Int) + 1) == 0) = false := by rw [beq_eq_false_iff_ne]; omega
    go_wp2_with fail
    go_region_held3 (fun w' => w'.cell? ⟨k.g, 4, none⟩ = some (.slice q (F0.length + 1) cap) ∧ w'.cell? ⟨k.g, 2, none⟩ = some (.int .i64 k.most) ∧ w'.cell? ⟨f.g, 2, none⟩ = some (.int .i64 (totS f.recs : Int))) (first | with_reducible exact ⟨c4, c2, b2⟩ | with_reducible exact ⟨d4, d2, e2⟩ | go_keep)
      ((go_at_call 53; refine hls.mono ?_; rintro e w2 ⟨rfl, hb2⟩; have hB2 := (below_drewN (Below.refl _ _) 1).trans hb2; have h2 := h1.below hB2; have d4 : w2.cell? ⟨k.g, 4, none⟩ = some (.slice q (F0.length + 1) cap) := hv ▸ (cells5 h2.wm.blk).2.2.2.2; have d2 := (cells5 h2.wm.blk).2.2.1; have e2 := (cells4 (h2.wm.fl f (by simp)).blk).2.2.1))
    clear c4 c2 b2 d4 d2 e2
    go_wp2_with fail
    refine (key _ (hb1.trans (hB2.mono hb1.size))).mono ?_
    rintro e w3 ⟨rfl, hres⟩
    go_wp2
    go_ret
    exact ⟨rfl, hres⟩

end Go.Proofs.YtpldfakfgngaaaaGreatDoor

