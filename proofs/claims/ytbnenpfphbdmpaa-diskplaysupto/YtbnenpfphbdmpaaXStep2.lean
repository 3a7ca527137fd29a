/-
  A step of the law: Read, Copy.
-/
import Derived.Test.YtbnenpfphbdmpaaXStep
namespace Go.Proofs.Ytbnenpfphbdmpaa
open Go.RowKit
attribute [local go_sem] size_bstr toList_bstr append_bstr

theorem St.drew {B : Nat} {w0 W : World} {d m : Nat} {L : List Fl} {fr N R : Nat} {q : Option Addr} {cap : Nat} (h : St B w0 W d m L fr N R q cap) : St B w0 W.drew d m L fr N R q cap := ⟨⟨h.dw.dk.drew, h.dw.ge, h.dw.bel.drew, h.dw.hB⟩, h.fa.drew, h.room⟩

set_option maxHeartbeats 4000000 in
set_option maxRecDepth 100000 in
theorem step_read {B : Nat} {w0 w : World} {d m : Nat} {L : List Fl} {fr N R : Nat} {q : Option Addr} {cap : Nat} (k : Int) (nm dt : List UInt8) (kq : Option Addr) (kl kc : Nat) (hS : St B w0 w d m L fr N R q cap) (hk : (k.tmod 7 + 7).tmod 7 = 2) (hk1 : -7 < k.tmod 7) (hk2 : k.tmod 7 < 7)
    (hn1 : nm.length ≤ 1048576) (hN : N ≤ 1000) :
    Calls Try.prog 10 #[.pointer (some ⟨d, 0, none⟩), rdV R q (Pu L).length cap, .agg #[.int .i64 k, .string (bstr nm), .string (bstr dt), .slice kq kl kc]] w fun e w' => StepPost B w0 w d m L N R (tot L + dt.length) e w' := by
  have hsz := Nat.le_trans hS.dw.hB hS.dw.bel.size
  obtain ⟨hb0, hC⟩ := three_blocks w R q (Pu L).length cap k nm dt kq kl kc
  have hPl : (Pu L).length ≤ 1000000 := by have := hS.dw.dk.len; simp only [Pu, List.length_map]; omega
  have hD0 := hS.dw.on hb0
  have hF0 := hS.fa.below hb0
  have hrd := Read_any nm _ hD0.dk (by unfold maxLen; omega)
  have hdoc := fun (W : World) (hF : FArg W q cap (Pu L)) => RRead_any R cap q (Pu L) nm W hF (Pu_srt hS.dw.dk.srt) hPl
  simp only [(ofP_Pu nm L).1, reP_Pu] at hdoc
  generalize by_ (lk nm L) = bs at *
  generalize fc (lk nm L) = xx at *
  have hroom := hS.room
  have HQ : Hid ((Pu L).length ≤ 1000000) := hPl
  clear hPl
  go_enter Try.func10, Try.ntmps10
  go_wp2_with fail
  generalize ((w.alloc (.cells #[.int .i64 (R : Int), .slice q (Pu L).length cap] 27)).alloc (.cells #[.int .i64 k, .string (bstr nm), .string (bstr dt), .slice kq kl kc] 33)).alloc (.cells #[.int .i64 0, .slice none 0 0] 27) = W at *
  refine hrd.mono ?_
  rintro e _ ⟨rfl, rfl⟩
  have c0 := (cells_block hC.b0).1 0
  have c1 := (cells_block hC.b0).1 1
  have x1 := (cells_block hC.b1).1 1
  go_wp2_with fail
  refine (hdoc _ hF0).mono ?_
  rintro e w2 ⟨rfl, hb2⟩
  have hC2 := hC.below hb2
  have HF : Hid _ := ((show St B w0 w2 d m L fr (N + 1) R q cap from ⟨⟨(hD0.on hb2).dk.mono (Nat.le_succ _), hD0.ge, (hD0.on hb2).bel, hD0.hB⟩, hF0.below hb2, hroom⟩).put hC2.b2 (by omega) (.int .i64 (R : Int)) (.slice q (Pu L).length cap)).drew
  have KK : Hid _ := (kp_put (g := w.heap.size + 1 + 1) (b_step hb0 hb2 (Nat.le_refl _)) (Kp.refl w2 (Ft d m L)) (by omega) (.int .i64 (R : Int)) (.slice q (Pu L).length cap)).drew
  have hz := cells_block (set2_block hC2.b2 (.int .i64 (R : Int)) (.slice q (Pu L).length cap))
  have r0 := hz.1 0
  have r1 := hz.1 1
  clear c0 c1 x1 hz hdoc hrd hD0 hF0 hC hb2 hb0
  have c0 := (cells_block hC2.b0).1 0
  have c1 := (cells_block hC2.b0).1 1
  have t0 := (cells_block hC2.b2).1 0
  have t1 := (cells_block hC2.b2).1 1
  have u0 := (cells_block hC2.b2).2 0
  have u1 := (cells_block hC2.b2).2 1
  have e0 : ((w2.setCell ⟨w.heap.size + 1 + 1, 0, none⟩ (.int .i64 (R : Int))).setCell ⟨w.heap.size + 1 + 1, 1, none⟩ (.slice q (Pu L).length cap)).drew.cell? ⟨w.heap.size, 0, none⟩ = some (.int .i64 (R : Int)) := (show (set2 w2 _ _ _).cell? _ = _ by rw [set_far _ (by omega), set_far _ (by omega)]; exact c0)
  have e1 : ((w2.setCell ⟨w.heap.size + 1 + 1, 0, none⟩ (.int .i64 (R : Int))).setCell ⟨w.heap.size + 1 + 1, 1, none⟩ (.slice q (Pu L).length cap)).drew.cell? ⟨w.heap.size, 1, none⟩ = some (.slice q (Pu L).length cap) := (show (set2 w2 _ _ _).cell? _ = _ by rw [set_far _ (by omega), set_far _ (by omega)]; exact c1)
  go_wp2_with fail
  go_region_held3 (fun w' => w'.cell? ⟨w.heap.size, 0, none⟩ = some (.int .i64 (R : Int)) ∧ w'.cell? ⟨w.heap.size, 1, none⟩ = some (.slice q (Pu L).length cap)) (first | with_reducible exact ⟨c0, c1⟩ | with_reducible exact ⟨e0, e1⟩ | go_keep)
    (fail)
  all_goals
    go_wp2
    refine bodyPost_ret (v := .tuple #[.pointer (some ⟨d, 0, none⟩), rdV R q (Pu L).length cap, .bool true]) ?_ ?_ ?_
    · simp [results, Try.results10, go_sem, r0, r1]
    · rfl
    · exact ⟨d, m, L, fr, q, cap, rfl, HF.out, Nat.le_add_right _ _, KK.out⟩

end Go.Proofs.Ytbnenpfphbdmpaa
