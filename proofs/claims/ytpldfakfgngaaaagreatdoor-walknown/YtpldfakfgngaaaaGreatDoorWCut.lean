/-
  The contract of Cut, where it cuts.
-/
import Derived.Test.YtpldfakfgngaaaaGreatDoorWShort2
namespace Go.Proofs.YtpldfakfgngaaaaGreatDoor
open Go.RowKit
attribute [local go_sem] size_bstr toList_bstr append_bstr

theorem chn_init : ∀ {A : WF} {x : Nat × List (List UInt8)}, Chn (A ++ [x]) → Chn A
  | [], _, _ => trivial
  | [_], _, _ => trivial
  | _ :: b :: r, _, h => ⟨h.1, chn_init (A := b :: r) h.2⟩
theorem chn_last : ∀ {A : WF} {x : Nat × List (List UInt8)}, Chn (A ++ [x]) → A ≠ [] → x.1 = nxtF A
  | [], _, _, h => absurd rfl h
  | [_], _, h, _ => by
    have := h.1
    simpa [nxtF] using this
  | _ :: b :: r, _, h, _ => by
    have := chn_last (A := b :: r) h.2 (by simp)
    rw [this]
    simp [nxtF]

set_option maxRecDepth 100000 in
theorem lastSl (g off n cap : Nat) (hc : n + 1 ≤ cap) (W : World) : (Instr.slice 82 (.slice (some ⟨g, off, none⟩) (n + 1) cap) none (some (.int .i64 (n : Int))) none).run Tryz.prog W = .ok (.slice (some ⟨g, off, none⟩) n cap) W := by
  obtain ⟨i0, hi, hz0, hz1, hz2⟩ := info_parts Tryz.infoPF
  have hel : Tryz.prog.elem 82 = 100 := by kernel_rfl
  have hs : (sizeOf (Tryz.prog.elem 82)).run Tryz.prog W = .ok 1 W := by rw [hel]; simp [Go.sizeOf, typeInfo, hi, hz1]
  rw [run_slice_h (P := Tryz.prog) W 82 (some ⟨g, off, none⟩) (n + 1) cap Tryz.underlying82 .i64 (n : Int) (by omega) (by omega), hs]
  simp [Result.andThen, sliced, Addr.add_lit]
theorem Wm.lst {w : World} {k : Wk} {a : Wf} {F : List Wf} {v : Value} (h : Wm w k (F ++ [a]) v) : ∃ g off cap, v = .slice (some ⟨g, off, none⟩) (F.length + 1) cap ∧ F.length + 1 ≤ cap := by
  have h1 : Rw w 100 v (ptrV F ++ [.pointer (some ⟨a.g, 0, none⟩)]) := by have := h.row; simpa [ptrV] using this
  obtain ⟨g, off, cap, e1, e2, -, -, -⟩ := h1.init (.pointer none)
  rw [ptrV_len] at e1 e2
  exact ⟨g, off, cap, e1, e2⟩
theorem Wm.lst2 {w : World} {k : Wk} {a : Wf} {F : List Wf} {g off cap : Nat} (h : Wm w k (F ++ [a]) (.slice (some ⟨g, off, none⟩) (F.length + 1) cap)) :
    w.cell? ⟨g, off + F.length, none⟩ = some (.pointer (some ⟨a.g, 0, none⟩)) ∧ w.frozen? ⟨g, off + F.length, none⟩ = false ∧ Rw (w.setCell ⟨g, off + F.length, none⟩ (.pointer none)) 100 (.slice (some ⟨g, off, none⟩) F.length cap) (ptrV F) := by
  have h1 : Rw w 100 (.slice (some ⟨g, off, none⟩) (F.length + 1) cap) (ptrV F ++ [.pointer (some ⟨a.g, 0, none⟩)]) := by have := h.row; simpa [ptrV] using this
  obtain ⟨g', off', cap', e1, e2, e3, e4, e5⟩ := h1.init (.pointer none)
  rw [ptrV_len] at e1 e2 e3 e4 e5
  cases e1
  exact ⟨e3, e4, e5⟩
theorem rmAll_tail {p : List UInt8} (f : Wf) (R : List Wf) (P : List F3) : rmAll p (((f :: R).map (fun x => x.num)).reverse) P = wtoP (nm p f.num) (rmAll p ((R.map (fun x => x.num)).reverse) P) := by
  rw [List.map_cons, List.reverse_cons, rmAll_snoc]
theorem totP_wto_le (s : List UInt8) (P : List F3) : totP (wtoP s P) ≤ totP P := by
  induction P with
  | nil => exact Nat.le_refl _
  | cons x r ih =>
    unfold wtoP at ih ⊢
    rw [List.filter_cons]
    split
    · rw [totP_cons, totP_cons]; omega
    · rw [totP_cons]; omega
theorem tot_take_le (l : List (List UInt8)) (n : Nat) : totS (l.take n) ≤ totS l := by
  conv => rhs; rw [← List.take_append_drop n l]
  rw [tot_append]
  omega
structure CuR (B : Nat) (w wr : World) (m : Nat) (L : List Fl) (fe N c : Nat) (k : Wk) (F F1 R : List Wf) (L1 : List Fl) (fe1 : Nat) (v1 : Value) : Prop where
  lo : Lo B wr m L1 fe1 (N + R.length) k F1 v1
  eq : F = F1 ++ R
  pu : Pu L1 = rmAll k.p ((R.map (fun x => x.num)).reverse) (Pu L)
  chn : Chn (Pw F1)
  fst : fstF (Pw F1) ≤ c
  nxt : c < nxtF (Pw F1)
  far : ∀ x ∈ R, c < x.num
  ex : ∀ f ∈ F1, (lkP (nm k.p f.num) (Pu L1)).isSome = true
  room : fe1 + tot L1 = fe + tot L
  le : tot L1 ≤ tot L
  frame : Below B w wr

set_option maxHeartbeats 600000 in
set_option maxRecDepth 100000 in
theorem Cut_mid {B : Nat} {k : Wk} {F : List Wf} {v : Value} {m fe N : Nat} {L : List Fl} (c : Nat) (w : World) (h : Lo B w m L fe N k F v) (hp : k.p.length ≤ 48) (hl : F.length ≤ 1000000) (hinc : F.Pairwise (fun a b => a.num < b.num)) (hex : ∀ f ∈ F, okNo f.num ∧ (lkP (nm k.p f.num) (Pu L)).isSome = true)
    (hchn : Chn (Pw F)) (h1 : fstF (Pw F) ≤ c) (h2 : c < nxtF (Pw F)) (hnx : nxtF (Pw F) < 18446744073709551616) (hsm : ∀ f ∈ F, ∀ r ∈ f.recs, r.length ≤ 1048576) (hto : ∀ f ∈ F, totS f.recs ≤ tot L) (hR : fe + tot L ≤ 1099511627776) (hroom : tot L + tot L ≤ fe + tot L) (hN : N ≤ 100000) :
    Calls Tryz.prog 18 #[.pointer (some ⟨k.g, 0, none⟩), .int .u64 (c : Int)] w fun e w' => e = .returned (.int .i64 0) ∧ ∃ A f R L' fe' f' v', F = A ++ f :: R ∧ f.num ≤ c ∧ c < f.num + f.recs.length ∧ (∀ x ∈ R, c < x.num) ∧ Lo B w' m L' fe' (N + R.length + 4) k (A ++ [f']) v' ∧ pw f' = (f.num, f.recs.take (c - f.num)) ∧ Below B w w' ∧
      Pu L' = wthP (nm k.p f.num, fr (f.recs.take (c - f.num)), totS (f.recs.take (c - f.num))) (wtoP (sp k.p) (rmAll k.p ((R.map (fun x => x.num)).reverse) (Pu L))) ∧ fe' + tot L' = fe + tot L := by
  have hn := wnone_any w h.wm
  have hfi := First_any w h.wm
  have hnt := Next_any w h.wm (by omega) hnx
  obtain ⟨a1, ha1⟩ : ∃ a1, a1 = fstF (Pw F) := ⟨_, rfl⟩
  obtain ⟨a2, ha2⟩ : ∃ a2, a2 = nxtF (Pw F) := ⟨_, rfl⟩
  rw [← ha1] at hfi
  rw [← ha2] at hnt
  have g1 : ¬ (c : Int) < (a1 : Int) := by omega
  have g2 : ¬ (a2 : Int) ≤ (c : Int) := by omega
  have HA1 : Hid _ := ha1
  have HA2 : Hid _ := ha2
  clear ha1 ha2
  go_enter Tryz.func18, Tryz.ntmps18
  go_wp2_with fail
  refine hn.mono ?_
  rintro e w1 ⟨rfl, rfl⟩
  go_wp2_with fail
  refine hfi.mono ?_
  rintro e w2 ⟨rfl, hw2⟩
  obtain rfl : w1 = w2 := hw2.symm
  clear hw2
  go_wp2_with fail
  refine hnt.mono ?_
  rintro e w2 ⟨rfl, hb2⟩
  have hlo2 := h.below hb2
  have hfr2 : Below B w1 w2 := hb2.mono h.vw.le
  go_wp2_with fail
  have g2n : decide (a2 ≤ c) = false := by simp; omega
  simp only [g2n]
  clear g2n
  go_loopw [] (fun wr => ∃ F1 R L1 fe1 v1, CuR B w1 wr m L fe N c k F F1 R L1 fe1 v1) (fun wr => lnW wr k.g)
  case atStart => exact ⟨F, [], L, fe, v, hlo2, by simp, rfl, hchn, h1, h2, fun x hx => by simp at hx, fun f hf => (hex f hf).2, rfl, Nat.le_refl _, hfr2⟩
  case round =>
    obtain ⟨F1, R, L1, fe1, v1, Q⟩ := hrel
    have hfi1 := Q.fst
    have hnx1 := Q.nxt
    rcases snoc_cases F1 with rfl | ⟨A, f, rfl⟩
    · simp [Pw, fstF, nxtF] at hfi1 hnx1
      omega
    have hpwA : Pw (A ++ [f]) = Pw A ++ [pw f] := by simp [Pw]
    have hlA : A.length ≤ 1000000 := by have := congrArg List.length Q.eq; simp at this; omega
    have hfF : f ∈ F := by rw [Q.eq]; simp
    obtain ⟨g, off, cap, rfl, hcap⟩ := Q.lo.wm.lst
    have hls := last_any wr Q.lo.wm (by omega)
    go_wp2_with fail
    refine hls.mono ?_
    rintro e w3 ⟨rfl, hb3⟩
    have h3 := Q.lo.below hb3
    have b1 := (cells4 (h3.wm.fl f (by simp)).blk).2.1
    have hBd : Below w3.heap.size w3 w3.drew := below_drewN (Below.refl _ _) 1
    have h3d := h3.below hBd
    by_cases hgt : c < f.num
    · have g3 : (c : Int) < (f.num : Int) := by omega
      have hA0 : A ≠ [] := fun e => by
        subst e
        have : f.num ≤ c := hfi1
        omega
      have c0 := (cells5 h3.wm.blk).1
      have b0 := (cells4 (h3.wm.fl f (by simp)).blk).1
      have hls4 := last_any w3.drew h3d.wm (by omega)
      have hnl : (nm k.p f.num).length ≤ maxLen := by rw [nm_length]; unfold maxLen; omega
      have e1 : rmA (nm k.p f.num) (Pu L1) = (wtoP (nm k.p f.num) (Pu L1), 0) := by
        have hi : isP (nm k.p f.num) (Pu L1) = true := Q.ex f (by simp)
        simp [rmA, hi]
      have HRM : Hid _ := e1
      have hro := Q.room
      clear e1 hls
      go_wp2_with fail
      go_region_held3 (fun w' => w'.cell? ⟨k.g, 0, none⟩ = some (.pointer (some ⟨k.d, 0, none⟩)) ∧ w'.cell? ⟨f.g, 0, none⟩ = some (.string (bstr (nm k.p f.num)))) (first | with_reducible exact ⟨c0, b0⟩ | with_reducible exact ⟨d0, e0⟩ | with_reducible exact ⟨d1, e1⟩ | go_keep)
        (first
          | (go_at_call 53; refine hls4.mono ?_; rintro e w4 ⟨rfl, hb4⟩; have h4 := h3d.below hb4; have d0 := (cells5 h4.wm.blk).1; have e0 := (cells4 (h4.wm.fl f (by simp)).blk).1; have hrm := Rem_all (nm k.p f.num) 0 w4 h4.dk hnl (by omega))
          | (go_at_call 59; refine hrm.mono ?_; rintro e w5 ⟨he5, L5, fe5, S5, P5, R5, T5⟩; rw [HRM.out] at he5 P5; subst he5; have h5 := h4.disk S5; have d1 := (cells5 h5.wm.blk).1; have e1 := (cells4 (h5.wm.fl f (by simp)).blk).1))
      have c4 := (cells5 h5.wm.blk).2.2.2.2
      obtain ⟨x5, f5, row5⟩ := h5.wm.lst2
      have hgk : g ≠ k.g := fun e => by
        obtain ⟨cur, hc⟩ := h5.wm.row.blk (i := g) rfl
        rw [e, h5.wm.blk] at hc
        cases hc
      have blk6 : (w5.setCell ⟨g, off + A.length, none⟩ (.pointer none)).heap[k.g]? = some (.cells #[.pointer (some ⟨k.d, 0, none⟩), .string (bstr k.p), .int .i64 k.most, k.fn, .slice (some ⟨g, off, none⟩) (A.length + 1) cap] 84 (0, 0)) := (Below.heap_setCell _ _ _ _ (fun e => hgk e.symm)).trans h5.wm.blk
      have c46 := (cells5 blk6).2.2.2.2
      have f46 := (cells_block blk6).2 4
      have hsl := lastSl g off A.length cap hcap
      have g4 : (A.length : Int) < (A.length : Int) + 1 := by omega
      clear d0 d1 e0 e1 c0 b0 b1 blk6
      go_wp2
      go_roundw
      case rel =>
        obtain ⟨h7, K7, -⟩ := h5.sub (List.sublist_append_left A [f]) rfl rfl rfl row5
        have hlst := chn_last (A := Pw A) (x := pw f) (by rw [← hpwA]; exact Q.chn) (by simpa [Pw] using hA0)
        refine ⟨A, f :: R, L5, fe5, .slice (some ⟨g, off, none⟩) A.length cap, ⟨?_, ?_, ?_, ?_, ?_, ?_, fun x hx => ?_, fun x hx => ?_, ?_, ?_, ?_⟩⟩
        · rw [show N + (f :: R).length = N + R.length + 1 by simp; omega]
          exact h7
        · rw [Q.eq]; simp
        · rw [rmAll_tail, ← Q.pu]; exact P5
        · exact chn_init (by rw [← hpwA]; exact Q.chn)
        · cases A with
          | nil => exact absurd rfl hA0
          | cons a r => exact hfi1
        · rw [← hlst]; exact hgt
        · rcases List.mem_cons.1 hx with rfl | hx
          · exact hgt
          · exact Q.far x hx
        · rw [P5, lkP_wto_other (Pu_srt Q.lo.dk.srt)]
          · exact Q.ex x (by simp [hx])
          · intro e
            have hxF : x ∈ F := by rw [Q.eq]; simp [hx]
            have h8 := nm_inj k.p (hex x hxF).1.2 (hex f hfF).1.2 e
            have h9 := hinc
            rw [Q.eq] at h9
            have := (List.pairwise_append.1 (List.pairwise_append.1 h9).1).2.2 x hx f (by simp)
            omega
        · omega
        · have := Q.le; omega
        · exact ((Q.frame.trans (hb3.mono Q.lo.vw.le)).trans (hBd.mono h3.vw.le)).trans ((hb4.mono h3d.vw.le).trans ((h4.frame (Ks.of_disk _ _ S5)).trans (K7.below h5.vw.le h5.geW)))
      case measure =>
        obtain ⟨h7, K7, -⟩ := h5.sub (List.sublist_append_left A [f]) rfl rfl rfl row5
        have q1 := h7.wm.ln
        have q2 := Q.lo.wm.ln
        rw [List.length_append] at q2
        show lnW _ k.g < lnW wr k.g
        rw [q1, q2]
        simp
    · have g3 : ¬ (c : Int) < (f.num : Int) := by omega
      have hls4 := last_any w3 h3.wm (by omega)
      go_wp2_with fail
      refine hls4.mono ?_
      rintro e w4 ⟨rfl, hb4⟩
      have h4 := h3.below hb4
      have hro := Q.room
      have hle := Q.le
      have htf := hto f hfF
      have htt := tot_take_le f.recs (c - f.num)
      have hw1 := totP_wto_le (sp k.p) (Pu L1)
      rw [totP_Pu] at hw1
      rw [nxt_snoc] at hnx1
      have hRl : R.length ≤ 1000000 := by have := congrArg List.length Q.eq; simp at this; omega
      have hsh := shorten_any (c - f.num) c w4 h4 (by omega) (by
        have : nxtF (Pw F) < 18446744073709551616 := hnx
        omega) (by omega) (hsm f hfF) (by omega) hp (by omega) (by omega) (by unfold maxLen; omega) (by omega)
      clear hls hls4
      go_wp2_with fail
      refine hsh.mono ?_
      rintro e w5 ⟨rfl, L5, fe5, f5, h5, pw5, K5, P5, R5⟩
      go_wp2
      go_ret
      refine ⟨rfl, A, f, R, L5, fe5, f5, _, by rw [Q.eq]; simp, by omega, by omega, Q.far, h5, pw5, ?_, by rw [← Q.pu]; exact P5, by omega⟩
      exact ((Q.frame.trans (hb3.mono Q.lo.vw.le)).trans (hb4.mono h3.vw.le)).trans (h4.frame K5)

end Go.Proofs.YtpldfakfgngaaaaGreatDoor
