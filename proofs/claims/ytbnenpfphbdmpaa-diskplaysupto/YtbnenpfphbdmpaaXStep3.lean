/-
  A step of the law: Copy.
-/
import Derived.Test.YtbnenpfphbdmpaaXStep2
namespace Go.Proofs.Ytbnenpfphbdmpaa
open Go.RowKit
attribute [local go_sem] size_bstr toList_bstr append_bstr

/-- Two disks side by side: one is turned, the other is left. -/
structure Tw (B : Nat) (w0 W : World) (d m : Nat) (L : List Fl) (fr N : Nat) (c m2 : Nat) (L2 : List Fl) (fr2 N2 : Nat) : Prop where
  dw : Dw B w0 W d m L fr N
  dk : Dk W c m2 L2 fr2 N2
  ge : ∀ i, Ft c m2 L2 i → B ≤ i
  dis : ∀ i, Ft c m2 L2 i → ¬ Ft d m L i
theorem Tw.step {B : Nat} {w0 W W' : World} {d m : Nat} {L L' : List Fl} {fr N fr' N' c m2 : Nat} {L2 : List Fl} {fr2 N2 : Nat} (h : Tw B w0 W d m L fr N c m2 L2 fr2 N2) (hs : Stp W W' d m L L' fr' N') : Tw B w0 W' d m L' fr' N' c m2 L2 fr2 N2 :=
  ⟨h.dw.step hs, h.dk.kept fun i hi => hs.kp.block i (h.dk.lt hi) (h.dis i hi), h.ge, fun i hi hf => by
    rcases hs.ft i hf with a | a
    · exact h.dis i hi a
    · have := h.dk.lt hi
      omega⟩

set_option maxHeartbeats 4000000 in
set_option maxRecDepth 100000 in
theorem step_copy {B : Nat} {w0 w : World} {d m : Nat} {L : List Fl} {fr N R : Nat} {q : Option Addr} {cap : Nat} (k : Int) (nm dt : List UInt8) (kq : Option Addr) (kl kc : Nat) (hS : St B w0 w d m L fr N R q cap) (hk : (k.tmod 7 + 7).tmod 7 = 6) (hk1 : -7 < k.tmod 7) (hk2 : k.tmod 7 < 7)
    (hn1 : nm.length ≤ 1048576) (hL : tot L + dt.length ≤ 1048576) (hR : R ≤ 9223372036854775807) (hN : N ≤ 1000) :
    Calls Try.prog 10 #[.pointer (some ⟨d, 0, none⟩), rdV R q (Pu L).length cap, .agg #[.int .i64 k, .string (bstr nm), .string (bstr dt), .slice kq kl kc]] w fun e w' => StepPost B w0 w d m L N R (tot L + dt.length) e w' := by
  have hsz := Nat.le_trans hS.dw.hB hS.dw.bel.size
  obtain ⟨hb0, hC⟩ := three_blocks w R q (Pu L).length cap k nm dt kq kl kc
  have hfit : fr + tot L ≤ 9223372036854775807 := by rw [hS.room]; exact hR
  have hD0 := hS.dw.on hb0
  have hF0 := hS.fa.below hb0
  have hroom := hS.room
  have hcp := Copy_any _ hD0.dk (by omega) (by omega)
  go_enter Try.func10, Try.ntmps10
  go_wp2_with fail
  have hszW := hb0.size
  generalize ((w.alloc (.cells #[.int .i64 (R : Int), .slice q (Pu L).length cap] 27)).alloc (.cells #[.int .i64 k, .string (bstr nm), .string (bstr dt), .slice kq kl kc] 33)).alloc (.cells #[.int .i64 0, .slice none 0 0] 27) = W at *
  refine hcp.mono ?_
  rintro e w1 ⟨c, m2, L2, rfl, hPu, hDc, hb1, hge⟩
  have hT1 : Tw B w0 w1 d m L fr N c m2 L2 fr N := ⟨hD0.on hb1, hDc, fun i hi => by have := hge i hi; omega, fun i hi hf => by have := hge i hi; have := hD0.dk.lt hf; omega⟩
  have hbA := b_step hb0 hb1 (Nat.le_refl _)
  have hC1 := hC.below hb1
  have hF1 := hF0.below hb1
  have x1 := (cells_block hC1.b1).1 1
  have x2 := (cells_block hC1.b1).1 2
  have hap := App_r nm dt w1 hT1.dw.dk hfit (by omega) (by unfold maxLen; omega)
  clear hb0 hcp hC hD0 hF0 hDc hge hb1
  go_wp2_with fail
  refine hap.mono ?_
  rintro e w3 ⟨xa, La, fa, rfl, hRa⟩
  have hC3 := hC1.kp hT1.dw.dk hRa.stp.kp
  have hF3 := hF1.kp hT1.dw.dk hRa.stp.kp
  have hT3 := hT1.step hRa.stp
  have S3 := hRa.stp
  have hs3 := hRa.sum
  have hl3 := hRa.le
  have hcr := Crash_any none 0 [] w3 hT3.dw.dk (by omega) (fun h => by simp at h) (by omega) (by omega)
  clear hap hRa hT1 hC1 hF1 x1 x2
  go_wp2_with fail
  refine hcr.mono ?_
  rintro e w4 ⟨rfl, Lb, fb, hCr, hs4, hSt4⟩
  have hC4 := hC3.kp hT3.dw.dk hSt4.kp
  have hF4 := hF3.kp hT3.dw.dk hSt4.kp
  have hT4 := hT3.step hSt4
  have S4 := S3.trans hSt4
  have x1 := (cells_block hC4.b1).1 1
  have hrm := Remove_any nm w4 hT4.dw.dk (by unfold maxLen; omega) (by omega)
  clear hcr hCr hSt4 hT3 hC3 hF3
  go_wp2_with fail
  refine hrm.mono ?_
  rintro e w5 ⟨rfl, hSt5⟩
  have hC5 := hC4.kp hT4.dw.dk hSt5.kp
  have hF5 := hF4.kp hT4.dw.dk hSt5.kp
  have hT5 := hT4.step hSt5
  have KK : Hid _ := (kp_put (g := w.heap.size + 1 + 1) hbA (S4.trans hSt5).kp (by omega) (.int .i64 (R : Int)) (.slice q (Pu L).length cap)).drew
  have htt : tot L2 = tot L := by rw [← totP_Pu, ← totP_Pu, hPu]
  have HF : Hid _ := ((show St B w0 w5 c m2 L2 fr (N + 1) R q cap from ⟨⟨hT5.dk.mono (Nat.le_succ _), hT5.ge, hT5.dw.bel, hT5.dw.hB⟩, by rw [hPu]; exact hF5, by rw [htt]; exact hroom⟩).put hC5.b2 (by omega) (.int .i64 (R : Int)) (.slice q (Pu L).length cap)).drew
  have hz := cells_block (set2_block hC5.b2 (.int .i64 (R : Int)) (.slice q (Pu L).length cap))
  have r0 := hz.1 0
  have r1 := hz.1 1
  have HP : Hid _ := hPu
  have HT : Hid (tot L2 ≤ tot L + dt.length) := by show tot L2 ≤ _; omega
  clear hz hrm S3 S4 hSt5 hT4 hC4 hF4 x1 hT5 hF5 hPu htt
  have c0 := (cells_block hC5.b0).1 0
  have c1 := (cells_block hC5.b0).1 1
  have t0 := (cells_block hC5.b2).1 0
  have t1 := (cells_block hC5.b2).1 1
  have u0 := (cells_block hC5.b2).2 0
  have u1 := (cells_block hC5.b2).2 1
  have e0 : ((w5.setCell ⟨w.heap.size + 1 + 1, 0, none⟩ (.int .i64 (R : Int))).setCell ⟨w.heap.size + 1 + 1, 1, none⟩ (.slice q (Pu L).length cap)).drew.cell? ⟨w.heap.size, 0, none⟩ = some (.int .i64 (R : Int)) := (show (set2 w5 _ _ _).cell? _ = _ by rw [set_far _ (by omega), set_far _ (by omega)]; exact c0)
  have e1 : ((w5.setCell ⟨w.heap.size + 1 + 1, 0, none⟩ (.int .i64 (R : Int))).setCell ⟨w.heap.size + 1 + 1, 1, none⟩ (.slice q (Pu L).length cap)).drew.cell? ⟨w.heap.size, 1, none⟩ = some (.slice q (Pu L).length cap) := (show (set2 w5 _ _ _).cell? _ = _ by rw [set_far _ (by omega), set_far _ (by omega)]; exact c1)
  go_wp2_with fail
  go_region_held3 (fun w' => w'.cell? ⟨w.heap.size, 0, none⟩ = some (.int .i64 (R : Int)) ∧ w'.cell? ⟨w.heap.size, 1, none⟩ = some (.slice q (Pu L).length cap)) (first | with_reducible exact ⟨c0, c1⟩ | with_reducible exact ⟨e0, e1⟩ | go_keep)
    (fail)
  all_goals
    go_wp2
    refine bodyPost_ret (v := .tuple #[.pointer (some ⟨c, 0, none⟩), rdV R q (Pu L).length cap, .bool true]) ?_ ?_ ?_
    · simp [results, Try.results10, go_sem, r0, r1]
    · rfl
    · exact ⟨c, m2, L2, fr, q, cap, by rw [HP.out], HF.out, HT.out, KK.out⟩

end Go.Proofs.Ytbnenpfphbdmpaa
