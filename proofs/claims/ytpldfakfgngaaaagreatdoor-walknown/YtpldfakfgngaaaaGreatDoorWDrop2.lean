/-
  The contract of Drop.
-/
import Derived.Test.YtpldfakfgngaaaaGreatDoorWDrop
import Derived.Scope
namespace Go.Proofs.YtpldfakfgngaaaaGreatDoor
open Go.RowKit
attribute [local go_sem] size_bstr toList_bstr append_bstr

/-- How many files a log has, read off its memory. -/
def lnW (w : World) (g : Nat) : Nat := match w.cell? ⟨g, 4, none⟩ with | some (.slice _ n _) => n | _ => 0
theorem Wm.ln {w : World} {k : Wk} {F : List Wf} {v : Value} (h : Wm w k F v) : lnW w k.g = F.length := by
  obtain ⟨-, -, -, -, c4⟩ := cells5 h.blk
  obtain ⟨q, cap, hv⟩ := h.row.len
  rw [hv, ptrV_len] at c4
  unfold lnW
  rw [c4]
theorem Wm.frst {w : World} {k : Wk} {a : Wf} {F : List Wf} {v : Value} (h : Wm w k (a :: F) v) : ∃ g off cap, v = .slice (some ⟨g, off, none⟩) (F.length + 1) cap ∧ F.length + 1 ≤ cap := by
  have h1 : Rw w 100 v (.pointer (some ⟨a.g, 0, none⟩) :: ptrV F) := h.row
  obtain ⟨g, off, cap, e1, e2, -, -, -⟩ := h1.tail (.pointer none)
  rw [ptrV_len] at e1 e2
  exact ⟨g, off, cap, e1, e2⟩
theorem Wm.frst2 {w : World} {k : Wk} {a : Wf} {F : List Wf} {g off cap : Nat} (h : Wm w k (a :: F) (.slice (some ⟨g, off, none⟩) (F.length + 1) cap)) :
    w.cell? ⟨g, off, none⟩ = some (.pointer (some ⟨a.g, 0, none⟩)) ∧ w.frozen? ⟨g, off, none⟩ = false ∧ Rw (w.setCell ⟨g, off, none⟩ (.pointer none)) 100 (.slice (some ⟨g, off + 1, none⟩) F.length (cap - 1)) (ptrV F) := by
  have h1 : Rw w 100 (.slice (some ⟨g, off, none⟩) (F.length + 1) cap) (.pointer (some ⟨a.g, 0, none⟩) :: ptrV F) := h.row
  obtain ⟨g', off', cap', e1, e2, e3, e4, e5⟩ := h1.tail (.pointer none)
  rw [ptrV_len] at e1 e2 e5
  cases e1
  exact ⟨e3, e4, e5⟩
structure DrR (B : Nat) (w wr : World) (m : Nat) (L : List Fl) (fr N c : Nat) (k : Wk) (F F1 : List Wf) (L1 : List Fl) (fr1 : Nat) (v1 : Value) : Prop where
  lo : Lo B wr m L1 fr1 (N + (F.length - F1.length)) k F1 v1
  eq : drP k.p c (Pw F1) (Pu L1) = drP k.p c (Pw F) (Pu L)
  len : F1.length ≤ F.length
  sub : F1.Sublist F
  ex : ∀ f ∈ F1, (lkP (nm k.p f.num) (Pu L1)).isSome = true
  room : fr1 + tot L1 = fr + tot L
  le : tot L1 ≤ tot L
  frame : Below B w wr

set_option maxHeartbeats 600000 in
set_option maxRecDepth 100000 in
theorem Drop_any {B : Nat} {k : Wk} {F : List Wf} {v : Value} {m fr N : Nat} {L : List Fl} (c : Nat) (w : World) (h : Lo B w m L fr N k F v) (hp : k.p.length ≤ 48) (hinc : F.Pairwise (fun a b => a.num < b.num)) (hex : ∀ f ∈ F, okNo f.num ∧ (lkP (nm k.p f.num) (Pu L)).isSome = true) (hnx : ∀ f ∈ F, f.num + f.recs.length < 18446744073709551616) (hfit : fr + tot L ≤ 9223372036854775807) :
    Calls Tryz.prog 21 #[.pointer (some ⟨k.g, 0, none⟩), .int .u64 (c : Int)] w fun e w' => e = .returned (.int .i64 0) ∧ ∃ F1 L1 fr1 v1, DrR B w w' m L fr N c k F F1 L1 fr1 v1 ∧ (Pw F1, Pu L1) = drP k.p c (Pw F) (Pu L) := by
  have hn := wnone_any w h.wm
  go_enter Tryz.func21, Tryz.ntmps21
  go_wp2
  refine wp_scope_straight ?_
  go_wp2_with fail
  refine hn.mono ?_
  rintro e w1 ⟨rfl, rfl⟩
  go_wp2_with fail
  refine wp_label ?_
  go_wp2_with fail
  go_loopw [] (fun wr => ∃ F1 L1 fr1 v1, DrR B w1 wr m L fr N c k F F1 L1 fr1 v1) (fun wr => lnW wr k.g)
  case atStart => exact ⟨F, L, fr, v, by rw [Nat.sub_self]; exact h, rfl, Nat.le_refl _, List.Sublist.refl _, fun f hf => (hex f hf).2, rfl, Nat.le_refl _, Below.refl _ _⟩
  case round =>
    obtain ⟨F1, L1, fr1, v1, R⟩ := hrel
    obtain ⟨-, -, -, -, c4⟩ := cells5 R.lo.wm.blk
    obtain ⟨q, cap, hv⟩ := R.lo.wm.row.len
    rw [hv, ptrV_len] at c4
    rcases F1 with _ | ⟨a, _ | ⟨b, r⟩⟩
    · go_wp2
      simp only [Exit.noGoto]
      go_ret
      exact ⟨rfl, [], L1, fr1, v1, R, R.eq⟩
    · go_wp2
      simp only [Exit.noGoto]
      go_ret
      exact ⟨rfl, [a], L1, fr1, v1, R, R.eq⟩
    · clear hv c4
      obtain ⟨g, off, cap, rfl, hcap⟩ := R.lo.wm.frst
      obtain ⟨-, -, -, -, c4⟩ := cells5 R.lo.wm.blk
      obtain ⟨x0, -, -⟩ := R.lo.wm.frst2
      rw [List.length_cons] at c4 hcap
      have ha := R.lo.wm.fl a (by simp)
      have haF : a ∈ F := R.sub.subset (by simp)
      have hfn := fnext_any wr ha (hnx a haF)
      have g1 : (1 : Int) < ((r.length + 1 + 1 : Nat) : Int) := by omega
      go_wp2_with fail
      refine hfn.mono ?_
      rintro e w2 ⟨rfl, hb2⟩
      have R2 := R.lo.below hb2
      by_cases hlt : c < a.num + a.recs.length
      · have g2 : (c : Int) < ((a.num + a.recs.length : Nat) : Int) := by omega
        go_wp2
        simp only [Exit.noGoto]
        go_ret
        refine ⟨rfl, a :: b :: r, L1, fr1, _, ⟨R2, R.eq, R.len, R.sub, R.ex, R.room, R.le, R.frame.trans (hb2.mono R.lo.vw.le)⟩, ?_⟩
        rw [← R.eq]
        exact (if_pos (t := (Pw (a :: b :: r), Pu L1)) (e := drP k.p c (Pw (b :: r)) (wtoP (nm k.p a.num) (Pu L1))) hlt).symm
      · have g2 : ¬ (c : Int) < ((a.num + a.recs.length : Nat) : Int) := by omega
        have hBd : Below w2.heap.size w2 w2.drew := below_drewN (Below.refl _ _) 1
        have R2d := R2.below hBd
        have c0 := (cells5 R2.wm.blk).1
        have b0 := (cells4 (R2.wm.fl a (by simp)).blk).1
        have hok := (hex a haF).1
        have hrm := Rem_all (nm k.p a.num) 0 w2.drew R2d.dk (by rw [nm_length]; unfold maxLen; omega) (by have := R.room; omega)
        have e1 : rmA (nm k.p a.num) (Pu L1) = (wtoP (nm k.p a.num) (Pu L1), 0) := by
          have hi : isP (nm k.p a.num) (Pu L1) = true := R.ex a (by simp)
          simp [rmA, hi]
        rw [e1] at hrm
        clear e1 c4 x0 hfn
        go_wp2_with fail
        go_region_held3 (fun w' => w'.cell? ⟨k.g, 0, none⟩ = some (.pointer (some ⟨k.d, 0, none⟩)) ∧ w'.cell? ⟨a.g, 0, none⟩ = some (.string (bstr (nm k.p a.num)))) (first | with_reducible exact ⟨c0, b0⟩ | with_reducible exact ⟨d0, d1⟩ | go_keep)
          ((go_at_call 59; refine hrm.mono ?_; rintro e w3 ⟨rfl, L3, fr3, S3, P3, R3, T3⟩; have Q3 := R2d.disk S3; have d0 := (cells5 Q3.wm.blk).1; have d1 := (cells4 (Q3.wm.fl a (by simp)).blk).1))
        have c4 := (cells5 Q3.wm.blk).2.2.2.2
        rw [List.length_cons] at c4
        obtain ⟨x3, f3, row3⟩ := Q3.wm.frst2
        have hgk : g ≠ k.g := fun e => by
          obtain ⟨cur, hc⟩ := Q3.wm.row.blk (i := g) rfl
          rw [e, Q3.wm.blk] at hc
          cases hc
        have blk4 : (w3.setCell ⟨g, off, none⟩ (.pointer none)).heap[k.g]? = some (.cells #[.pointer (some ⟨k.d, 0, none⟩), .string (bstr k.p), .int .i64 k.most, k.fn, .slice (some ⟨g, off, none⟩) ((b :: r).length + 1) cap] 84 (0, 0)) := (Below.heap_setCell _ _ _ _ (fun e => hgk e.symm)).trans Q3.wm.blk
        have c44 := (cells5 blk4).2.2.2.2
        have f44 := (cells_block blk4).2 4
        rw [List.length_cons] at c44
        have hsl := slice_one g off (r.length + 1) cap (by omega) hcap
        clear d0 d1 c0 b0 blk4
        go_wp2
        go_roundw
        case rel =>
          obtain ⟨Q5, K5, -⟩ := Q3.sub (List.sublist_cons_self a (b :: r)) rfl rfl rfl row3
          refine ⟨b :: r, L3, fr3, .slice (some ⟨g, off + 1, none⟩) (r.length + 1) (cap - 1), ⟨?_, ?_, ?_, ?_, fun f hf => ?_, ?_, ?_, ?_⟩⟩
          · have := R.len
            rw [show N + (F.length - (b :: r).length) = N + (F.length - (a :: b :: r).length) + 1 by simp at this ⊢; omega]
            exact Q5
          · rw [← R.eq, P3]
            exact (if_neg (t := (Pw (a :: b :: r), Pu L1)) (e := drP k.p c (Pw (b :: r)) (wtoP (nm k.p a.num) (Pu L1))) hlt).symm
          · have := R.len
            simp at this ⊢
            omega
          · exact (List.sublist_cons_self a (b :: r)).trans R.sub
          · rw [P3, lkP_wto_other (Pu_srt R.lo.dk.srt)]
            · exact R.ex f (List.mem_cons_of_mem _ hf)
            · intro e
              have h1 := nm_inj k.p (hex f (R.sub.subset (List.mem_cons_of_mem _ hf))).1.2 hok.2 e
              have h2 := (List.pairwise_cons.1 (hinc.sublist R.sub)).1 f hf
              omega
          · have := R.room; omega
          · have := R.le; omega
          · exact ((R.frame.trans (hb2.mono R.lo.vw.le)).trans (hBd.mono R2.vw.le)).trans ((R2d.frame (Ks.of_disk _ _ S3)).trans (K5.below Q3.vw.le Q3.geW))
        case measure =>
          obtain ⟨Q5, K5, -⟩ := Q3.sub (List.sublist_cons_self a (b :: r)) rfl rfl rfl row3
          have h1 := Q5.wm.ln
          have h2 := R.lo.wm.ln
          simp only [List.length_cons] at h1 h2 ⊢
          omega

end Go.Proofs.YtpldfakfgngaaaaGreatDoor
