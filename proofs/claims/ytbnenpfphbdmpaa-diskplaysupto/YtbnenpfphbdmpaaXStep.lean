/-
  A step of the law: Append, Sync, Rename, Remove.
-/
import Derived.Test.YtbnenpfphbdmpaaXAns
namespace Go.Proofs.Ytbnenpfphbdmpaa
open Go.RowKit
attribute [local go_sem] size_bstr toList_bstr append_bstr

/-- The program's disk and the document's, side by side. -/
structure St (B : Nat) (w0 W : World) (d m : Nat) (L : List Fl) (fr N R : Nat) (q : Option Addr) (cap : Nat) : Prop where
  dw : Dw B w0 W d m L fr N
  fa : FArg W q cap (Pu L)
  room : fr + tot L = R
def StepPost (B : Nat) (w0 w : World) (d m : Nat) (L : List Fl) (N R T : Nat) (e : Ending) (w' : World) : Prop := ∃ d' m' L' fr' q' cap', e = .returned (.tuple #[.pointer (some ⟨d', 0, none⟩), rdV R q' (Pu L').length cap', .bool true]) ∧ St B w0 w' d' m' L' fr' (N + 1) R q' cap' ∧ tot L' ≤ T ∧ Kp w w' (Ft d m L)
/-- What is kept, behind the answer's store. -/
theorem kp_put {w A w3 : World} {S : Nat → Prop} (h1 : Below w.heap.size w A) (h2 : Kp A w3 S) {g : Nat} (hg : w.heap.size ≤ g) (x y : Value) : Kp w (set2 w3 g x y) S := by
  have hb := set2_below (Below.refl g w3) (Nat.le_refl _) x y
  exact ⟨hb.os.trans (h2.os.trans h1.os), hb.tape.trans (h2.tape.trans h1.tape), hb.output.trans (h2.output.trans h1.output), Nat.le_trans h1.size (Nat.le_trans h2.size hb.size), fun i hi hn => (hb.block i (by omega)).trans ((h2.block i (Nat.lt_of_lt_of_le hi h1.size) hn).trans (h1.block i hi))⟩
/-- The three blocks that a step makes for its arguments and its answer. -/
structure Ct (w W : World) (R : Nat) (q : Option Addr) (n cap : Nat) (k : Int) (nm dt : List UInt8) (kq : Option Addr) (kl kc : Nat) : Prop where
  b0 : W.heap[w.heap.size]? = some (.cells #[.int .i64 (R : Int), .slice q n cap] 27 (0, 0))
  b1 : W.heap[w.heap.size + 1]? = some (.cells #[.int .i64 k, .string (bstr nm), .string (bstr dt), .slice kq kl kc] 33 (0, 0))
  b2 : W.heap[w.heap.size + 1 + 1]? = some (.cells #[.int .i64 0, .slice none 0 0] 27 (0, 0))
theorem three_blocks (w : World) (R : Nat) (q : Option Addr) (n cap : Nat) (k : Int) (nm dt : List UInt8) (kq : Option Addr) (kl kc : Nat) :
    Below w.heap.size w (((w.alloc (.cells #[.int .i64 (R : Int), .slice q n cap] 27)).alloc (.cells #[.int .i64 k, .string (bstr nm), .string (bstr dt), .slice kq kl kc] 33)).alloc (.cells #[.int .i64 0, .slice none 0 0] 27)) ∧ Ct w (((w.alloc (.cells #[.int .i64 (R : Int), .slice q n cap] 27)).alloc (.cells #[.int .i64 k, .string (bstr nm), .string (bstr dt), .slice kq kl kc] 33)).alloc (.cells #[.int .i64 0, .slice none 0 0] 27)) R q n cap k nm dt kq kl kc := by
  refine ⟨(((Below.refl _ _).alloc (Nat.le_refl _) _).alloc (by simp) _).alloc (by simp; omega) _, ⟨?_, ?_, ?_⟩⟩
  · exact ((MapKept.heap_alloc _ _).2 w.heap.size (by simp; omega)).trans (((MapKept.heap_alloc _ _).2 w.heap.size (by simp)).trans (boxed w _ _ _))
  · refine ((MapKept.heap_alloc _ _).2 (w.heap.size + 1) (by simp)).trans ?_
    have := heap_alloc_new (w.alloc (.cells #[.int .i64 (R : Int), .slice q n cap] 27)) (.cells #[.int .i64 k, .string (bstr nm), .string (bstr dt), .slice kq kl kc] 33 (0, 0))
    simpa using this
  · have := heap_alloc_new ((w.alloc (.cells #[.int .i64 (R : Int), .slice q n cap] 27)).alloc (.cells #[.int .i64 k, .string (bstr nm), .string (bstr dt), .slice kq kl kc] 33)) (.cells #[.int .i64 0, .slice none 0 0] 27 (0, 0))
    simpa using this
theorem Ct.below {w W W' : World} {R n cap kl kc : Nat} {q kq : Option Addr} {k : Int} {nm dt : List UInt8} (h : Ct w W R q n cap k nm dt kq kl kc) (hb : Below W.heap.size W W') : Ct w W' R q n cap k nm dt kq kl kc :=
  ⟨(hb.block _ (Array.getElem?_eq_some_iff.1 h.b0).1).trans h.b0, (hb.block _ (Array.getElem?_eq_some_iff.1 h.b1).1).trans h.b1, (hb.block _ (Array.getElem?_eq_some_iff.1 h.b2).1).trans h.b2⟩
/-- A block of another kind is left as it was. -/
theorem far_kept {w w' : World} {d m fr N : Nat} {L : List Fl} (h : Dk w d m L fr N) (hk : Kp w w' (Ft d m L)) {g : Nat} {cs : Array Value} {t : TypeId} (hg : w.heap[g]? = some (.cells cs t (0, 0))) (ht : t ≠ 61 ∧ t ≠ 76 ∧ t ≠ 5) : w'.heap[g]? = some (.cells cs t (0, 0)) :=
  (hk.block g (Array.getElem?_eq_some_iff.1 hg).1 (h.other hg ht)).trans hg
theorem Ct.kp {w W W' : World} {R n cap kl kc : Nat} {q kq : Option Addr} {k : Int} {nm dt : List UInt8} {d m fr N : Nat} {L : List Fl} (h : Ct w W R q n cap k nm dt kq kl kc) (hD : Dk W d m L fr N) (hk : Kp W W' (Ft d m L)) : Ct w W' R q n cap k nm dt kq kl kc :=
  ⟨far_kept hD hk h.b0 ⟨by decide, by decide, by decide⟩, far_kept hD hk h.b1 ⟨by decide, by decide, by decide⟩, far_kept hD hk h.b2 ⟨by decide, by decide, by decide⟩⟩
/-- The answer is written. -/
theorem St.put {B : Nat} {w0 W : World} {d m : Nat} {L : List Fl} {fr N R : Nat} {q : Option Addr} {cap : Nat} (h : St B w0 W d m L fr N R q cap) {g : Nat} {cs : Array Value} (hg : W.heap[g]? = some (.cells cs 27 (0, 0))) (hB : B ≤ g) (x y : Value) : St B w0 (set2 W g x y) d m L fr N R q cap :=
  ⟨⟨h.dw.dk.kept fun i hi => set2_other W (fun e => by subst e; exact h.dw.dk.other hg ⟨by decide, by decide, by decide⟩ hi) x y, h.dw.ge, set2_below h.dw.bel hB x y, h.dw.hB⟩, farg_apart h.fa hg x y, h.room⟩

set_option maxHeartbeats 4000000 in
set_option maxRecDepth 100000 in
theorem step_app {B : Nat} {w0 w : World} {d m : Nat} {L : List Fl} {fr N R : Nat} {q : Option Addr} {cap : Nat} (k : Int) (nm dt : List UInt8) (kq : Option Addr) (kl kc : Nat) (hS : St B w0 w d m L fr N R q cap) (hk : (k.tmod 7 + 7).tmod 7 = 0) (hk1 : -7 < k.tmod 7) (hk2 : k.tmod 7 < 7)
    (hn1 : nm.length ≤ 1048576) (hL : tot L + dt.length ≤ 1048576) (hR : R ≤ 9223372036854775807) (hN : N ≤ 1000) :
    Calls Try.prog 10 #[.pointer (some ⟨d, 0, none⟩), rdV R q (Pu L).length cap, .agg #[.int .i64 k, .string (bstr nm), .string (bstr dt), .slice kq kl kc]] w fun e w' => StepPost B w0 w d m L N R (tot L + dt.length) e w' := by
  have hsz := Nat.le_trans hS.dw.hB hS.dw.bel.size
  obtain ⟨hb0, hC⟩ := three_blocks w R q (Pu L).length cap k nm dt kq kl kc
  have hPl : (Pu L).length ≤ 1000000 := by have := hS.dw.dk.len; simp only [Pu, List.length_map]; omega
  have hsrt := Pu_srt hS.dw.dk.srt
  have hfit : fr + tot L ≤ 9223372036854775807 := by rw [hS.room]; exact hR
  have hof : (ofP nm (Pu L)).2.1.length ≤ tot L := by
    rw [(ofP_Pu nm L).1]
    cases e : lk nm L with
    | none => exact Nat.zero_le _
    | some f => exact tot_mem (lk_some e).1
  have hdoc := RApp_all R cap q (Pu L) nm dt _ (hS.fa.below hb0) hsrt hPl (by omega) hR (by rw [totP_Pu]; have := hS.room; omega) (by omega)
  have hap := fun (W : World) (hD : Dk W d m L fr N) => App_all nm dt W hD hfit (by omega) (by unfold maxLen; omega)
  simp only [hS.room] at hap
  have hroom := hS.room
  generalize (apA R nm dt (Pu L)).1 = P' at *
  generalize (apA R nm dt (Pu L)).2 = xx at *
  have hD0 := hS.dw.on hb0
  have hL2 := hL
  clear hof hfit hsrt hL hL2
  go_enter Try.func10, Try.ntmps10
  go_wp2_with fail
  generalize ((w.alloc (.cells #[.int .i64 (R : Int), .slice q (Pu L).length cap] 27)).alloc (.cells #[.int .i64 k, .string (bstr nm), .string (bstr dt), .slice kq kl kc] 33)).alloc (.cells #[.int .i64 0, .slice none 0 0] 27) = W at *
  refine hdoc.mono ?_
  rintro e w1 ⟨⟨q', cap', rfl, hF⟩, hb1⟩
  have hD1 := hD0.on hb1
  have hC1 := hC.below hb1
  have hal := (Below.refl w1.heap.size w1).alloc (Nat.le_refl _) (.cells #[.int .i64 (R : Int), .slice q' P'.length cap'] 27)
  have hbA := b_step (b_step hb0 hb1 (Nat.le_refl _)) hal (Nat.le_refl _)
  have hgn := boxed w1 (.int .i64 (R : Int)) (.slice q' P'.length cap') 27
  have hD2 := hD1.on hal
  have hC2 := hC1.below hal
  have hF2 := hF.below hal
  have hne : w1.heap.size ≠ w.heap.size + 1 + 1 := fun he => by have := (Array.getElem?_eq_some_iff.1 hC1.b2).1; omega
  go_wp2_with fail
  generalize w1.alloc (.cells #[.int .i64 (R : Int), .slice q' P'.length cap'] 27) = A at *
  have n0 := (cells_block hgn).1 0
  have n1 := (cells_block hgn).1 1
  have x1 := (cells_block hC2.b1).1 1
  have x2 := (cells_block hC2.b1).1 2
  have hcall := hap A.drew hD2.dk.drew
  clear hap hdoc hD0 hD1 hC hC1 hal hb1 hF hb0
  go_region_held3 (fun w' => w'.cell? ⟨w1.heap.size, 0, none⟩ = some (.int .i64 (R : Int)) ∧ w'.cell? ⟨w1.heap.size, 1, none⟩ = some (.slice q' P'.length cap') ∧ w'.cell? ⟨w.heap.size + 1, 1, none⟩ = some (.string (bstr nm)) ∧ w'.cell? ⟨w.heap.size + 1, 2, none⟩ = some (.string (bstr dt))) (first | with_reducible exact ⟨n0, n1, x1, x2⟩ | with_reducible exact ⟨e0, e1, e2, e3⟩ | go_keep)
    ((go_at_call 20; refine hcall.mono ?_; rintro e w3 ⟨rfl, L', fr', hSt, hPu, hsum, hle⟩; have hgn3 := far_kept hD2.dk.drew hSt.kp hgn ⟨by decide, by decide, by decide⟩; have hC3 := (show Ct w A.drew R q (Pu L).length cap k nm dt kq kl kc from ⟨hC2.b0, hC2.b1, hC2.b2⟩).kp hD2.dk.drew hSt.kp; have hF3 := (hF2.drew).kp hD2.dk.drew hSt.kp; have hD3 := hD2.step (Stp.of_drew hSt); clear n0 n1 x1 x2; have n0 := (cells_block hgn3).1 0; have n1 := (cells_block hgn3).1 1; have x1 := (cells_block hC3.b1).1 1; have x2 := (cells_block hC3.b1).1 2; have t0 := (cells_block hC3.b2).1 0; have t1 := (cells_block hC3.b2).1 1; have u0 := (cells_block hC3.b2).2 0; have u1 := (cells_block hC3.b2).2 1; have HF : Hid _ := (show St B w0 w3 d m L' fr' (N + 1) R q' cap' from ⟨hD3, by rw [hPu]; exact hF3, by rw [hsum]; exact hroom⟩).put hC3.b2 (by omega) (.int .i64 (R : Int)) (.slice q' P'.length cap'); have hz := cells_block (set2_block hC3.b2 (.int .i64 (R : Int)) (.slice q' P'.length cap')); have r0 := hz.1 0; have r1 := hz.1 1; have KK : Hid _ := kp_put (g := w.heap.size + 1 + 1) hbA (Stp.of_drew hSt).kp (by omega) (.int .i64 (R : Int)) (.slice q' P'.length cap'); have HP : Hid _ := hPu; have HL : Hid _ := hle; clear hPu hle hsum hz; have e0 : ((w3.setCell ⟨w.heap.size + 1 + 1, 0, none⟩ (.int .i64 (R : Int))).setCell ⟨w.heap.size + 1 + 1, 1, none⟩ (.slice q' P'.length cap')).cell? ⟨w1.heap.size, 0, none⟩ = some (.int .i64 (R : Int)) := (by rw [set_far _ hne, set_far _ hne]; exact n0); have e1 : ((w3.setCell ⟨w.heap.size + 1 + 1, 0, none⟩ (.int .i64 (R : Int))).setCell ⟨w.heap.size + 1 + 1, 1, none⟩ (.slice q' P'.length cap')).cell? ⟨w1.heap.size, 1, none⟩ = some (.slice q' P'.length cap') := (by rw [set_far _ hne, set_far _ hne]; exact n1); have e2 : ((w3.setCell ⟨w.heap.size + 1 + 1, 0, none⟩ (.int .i64 (R : Int))).setCell ⟨w.heap.size + 1 + 1, 1, none⟩ (.slice q' P'.length cap')).cell? ⟨w.heap.size + 1, 1, none⟩ = some (.string (bstr nm)) := (by rw [set_far _ (by omega), set_far _ (by omega)]; exact x1); have e3 : ((w3.setCell ⟨w.heap.size + 1 + 1, 0, none⟩ (.int .i64 (R : Int))).setCell ⟨w.heap.size + 1 + 1, 1, none⟩ (.slice q' P'.length cap')).cell? ⟨w.heap.size + 1, 2, none⟩ = some (.string (bstr dt)) := (by rw [set_far _ (by omega), set_far _ (by omega)]; exact x2)))
  all_goals
    go_wp2
    refine bodyPost_ret (v := .tuple #[.pointer (some ⟨d, 0, none⟩), rdV R q' P'.length cap', .bool true]) ?_ ?_ ?_
    · simp [results, Try.results10, go_sem, r0, r1]
    · rfl
    · exact ⟨d, m, L', fr', q', cap', by rw [HP.out], HF.out, HL.out, KK.out⟩

set_option maxHeartbeats 4000000 in
set_option maxRecDepth 100000 in
theorem step_syn {B : Nat} {w0 w : World} {d m : Nat} {L : List Fl} {fr N R : Nat} {q : Option Addr} {cap : Nat} (k : Int) (nm dt : List UInt8) (kq : Option Addr) (kl kc : Nat) (hS : St B w0 w d m L fr N R q cap) (hk : (k.tmod 7 + 7).tmod 7 = 1) (hk1 : -7 < k.tmod 7) (hk2 : k.tmod 7 < 7)
    (hn1 : nm.length ≤ 1048576) (hL : tot L + dt.length ≤ 1048576) (hR : R ≤ 9223372036854775807) (hN : N ≤ 1000) :
    Calls Try.prog 10 #[.pointer (some ⟨d, 0, none⟩), rdV R q (Pu L).length cap, .agg #[.int .i64 k, .string (bstr nm), .string (bstr dt), .slice kq kl kc]] w fun e w' => StepPost B w0 w d m L N R (tot L + dt.length) e w' := by
  have hsz := Nat.le_trans hS.dw.hB hS.dw.bel.size
  obtain ⟨hb0, hC⟩ := three_blocks w R q (Pu L).length cap k nm dt kq kl kc
  have hPl : (Pu L).length ≤ 1000000 := by have := hS.dw.dk.len; simp only [Pu, List.length_map]; omega
  have hsrt := Pu_srt hS.dw.dk.srt
  have hfit : fr + tot L ≤ 9223372036854775807 := by rw [hS.room]; exact hR
  have hof : (ofP nm (Pu L)).2.1.length ≤ tot L := by
    rw [(ofP_Pu nm L).1]
    cases e : lk nm L with
    | none => exact Nat.zero_le _
    | some f => exact tot_mem (lk_some e).1
  have hdoc := RSyn_all R cap q (Pu L) nm _ (hS.fa.below hb0) hsrt hPl (by omega)
  have hap := fun (W : World) (hD : Dk W d m L fr N) => Syn_all nm dt.length W hD (by unfold maxLen; omega)
  have hroom := hS.room
  generalize (syA nm (Pu L)).1 = P' at *
  generalize (syA nm (Pu L)).2 = xx at *
  have hD0 := hS.dw.on hb0
  have hL2 := hL
  clear hof hfit hsrt hL hL2
  go_enter Try.func10, Try.ntmps10
  go_wp2_with fail
  generalize ((w.alloc (.cells #[.int .i64 (R : Int), .slice q (Pu L).length cap] 27)).alloc (.cells #[.int .i64 k, .string (bstr nm), .string (bstr dt), .slice kq kl kc] 33)).alloc (.cells #[.int .i64 0, .slice none 0 0] 27) = W at *
  refine hdoc.mono ?_
  rintro e w1 ⟨⟨q', cap', rfl, hF⟩, hb1⟩
  have hD1 := hD0.on hb1
  have hC1 := hC.below hb1
  have hal := (Below.refl w1.heap.size w1).alloc (Nat.le_refl _) (.cells #[.int .i64 (R : Int), .slice q' P'.length cap'] 27)
  have hbA := b_step (b_step hb0 hb1 (Nat.le_refl _)) hal (Nat.le_refl _)
  have hgn := boxed w1 (.int .i64 (R : Int)) (.slice q' P'.length cap') 27
  have hD2 := hD1.on hal
  have hC2 := hC1.below hal
  have hF2 := hF.below hal
  have hne : w1.heap.size ≠ w.heap.size + 1 + 1 := fun he => by have := (Array.getElem?_eq_some_iff.1 hC1.b2).1; omega
  go_wp2_with fail
  generalize w1.alloc (.cells #[.int .i64 (R : Int), .slice q' P'.length cap'] 27) = A at *
  have n0 := (cells_block hgn).1 0
  have n1 := (cells_block hgn).1 1
  have x1 := (cells_block hC2.b1).1 1
  have x2 := (cells_block hC2.b1).1 2
  have hcall := hap A.drew hD2.dk.drew
  clear hap hdoc hD0 hD1 hC hC1 hal hb1 hF hb0
  go_region_held3 (fun w' => w'.cell? ⟨w1.heap.size, 0, none⟩ = some (.int .i64 (R : Int)) ∧ w'.cell? ⟨w1.heap.size, 1, none⟩ = some (.slice q' P'.length cap') ∧ w'.cell? ⟨w.heap.size + 1, 1, none⟩ = some (.string (bstr nm)) ∧ w'.cell? ⟨w.heap.size + 1, 2, none⟩ = some (.string (bstr dt))) (first | with_reducible exact ⟨n0, n1, x1, x2⟩ | with_reducible exact ⟨e0, e1, e2, e3⟩ | go_keep)
    ((go_at_call 21; refine hcall.mono ?_; rintro e w3 ⟨rfl, L', fr', hSt, hPu, hsum, hle⟩; have hgn3 := far_kept hD2.dk.drew hSt.kp hgn ⟨by decide, by decide, by decide⟩; have hC3 := (show Ct w A.drew R q (Pu L).length cap k nm dt kq kl kc from ⟨hC2.b0, hC2.b1, hC2.b2⟩).kp hD2.dk.drew hSt.kp; have hF3 := (hF2.drew).kp hD2.dk.drew hSt.kp; have hD3 := hD2.step (Stp.of_drew hSt); clear n0 n1 x1 x2; have n0 := (cells_block hgn3).1 0; have n1 := (cells_block hgn3).1 1; have x1 := (cells_block hC3.b1).1 1; have x2 := (cells_block hC3.b1).1 2; have t0 := (cells_block hC3.b2).1 0; have t1 := (cells_block hC3.b2).1 1; have u0 := (cells_block hC3.b2).2 0; have u1 := (cells_block hC3.b2).2 1; have HF : Hid _ := (show St B w0 w3 d m L' fr' (N + 1) R q' cap' from ⟨hD3, by rw [hPu]; exact hF3, by rw [hsum]; exact hroom⟩).put hC3.b2 (by omega) (.int .i64 (R : Int)) (.slice q' P'.length cap'); have hz := cells_block (set2_block hC3.b2 (.int .i64 (R : Int)) (.slice q' P'.length cap')); have r0 := hz.1 0; have r1 := hz.1 1; have KK : Hid _ := kp_put (g := w.heap.size + 1 + 1) hbA (Stp.of_drew hSt).kp (by omega) (.int .i64 (R : Int)) (.slice q' P'.length cap'); have HP : Hid _ := hPu; have HL : Hid _ := hle; clear hPu hle hsum hz; have e0 : ((w3.setCell ⟨w.heap.size + 1 + 1, 0, none⟩ (.int .i64 (R : Int))).setCell ⟨w.heap.size + 1 + 1, 1, none⟩ (.slice q' P'.length cap')).cell? ⟨w1.heap.size, 0, none⟩ = some (.int .i64 (R : Int)) := (by rw [set_far _ hne, set_far _ hne]; exact n0); have e1 : ((w3.setCell ⟨w.heap.size + 1 + 1, 0, none⟩ (.int .i64 (R : Int))).setCell ⟨w.heap.size + 1 + 1, 1, none⟩ (.slice q' P'.length cap')).cell? ⟨w1.heap.size, 1, none⟩ = some (.slice q' P'.length cap') := (by rw [set_far _ hne, set_far _ hne]; exact n1); have e2 : ((w3.setCell ⟨w.heap.size + 1 + 1, 0, none⟩ (.int .i64 (R : Int))).setCell ⟨w.heap.size + 1 + 1, 1, none⟩ (.slice q' P'.length cap')).cell? ⟨w.heap.size + 1, 1, none⟩ = some (.string (bstr nm)) := (by rw [set_far _ (by omega), set_far _ (by omega)]; exact x1); have e3 : ((w3.setCell ⟨w.heap.size + 1 + 1, 0, none⟩ (.int .i64 (R : Int))).setCell ⟨w.heap.size + 1 + 1, 1, none⟩ (.slice q' P'.length cap')).cell? ⟨w.heap.size + 1, 2, none⟩ = some (.string (bstr dt)) := (by rw [set_far _ (by omega), set_far _ (by omega)]; exact x2)))
  all_goals
    go_wp2
    refine bodyPost_ret (v := .tuple #[.pointer (some ⟨d, 0, none⟩), rdV R q' P'.length cap', .bool true]) ?_ ?_ ?_
    · simp [results, Try.results10, go_sem, r0, r1]
    · rfl
    · exact ⟨d, m, L', fr', q', cap', by rw [HP.out], HF.out, HL.out, KK.out⟩

set_option maxHeartbeats 4000000 in
set_option maxRecDepth 100000 in
theorem step_ren {B : Nat} {w0 w : World} {d m : Nat} {L : List Fl} {fr N R : Nat} {q : Option Addr} {cap : Nat} (k : Int) (nm dt : List UInt8) (kq : Option Addr) (kl kc : Nat) (hS : St B w0 w d m L fr N R q cap) (hk : (k.tmod 7 + 7).tmod 7 = 3) (hk1 : -7 < k.tmod 7) (hk2 : k.tmod 7 < 7)
    (hn1 : nm.length ≤ 1048576) (hL : tot L + dt.length ≤ 1048576) (hR : R ≤ 9223372036854775807) (hN : N ≤ 1000) :
    Calls Try.prog 10 #[.pointer (some ⟨d, 0, none⟩), rdV R q (Pu L).length cap, .agg #[.int .i64 k, .string (bstr nm), .string (bstr dt), .slice kq kl kc]] w fun e w' => StepPost B w0 w d m L N R (tot L + dt.length) e w' := by
  have hsz := Nat.le_trans hS.dw.hB hS.dw.bel.size
  obtain ⟨hb0, hC⟩ := three_blocks w R q (Pu L).length cap k nm dt kq kl kc
  have hPl : (Pu L).length ≤ 1000000 := by have := hS.dw.dk.len; simp only [Pu, List.length_map]; omega
  have hsrt := Pu_srt hS.dw.dk.srt
  have hfit : fr + tot L ≤ 9223372036854775807 := by rw [hS.room]; exact hR
  have hof : (ofP nm (Pu L)).2.1.length ≤ tot L := by
    rw [(ofP_Pu nm L).1]
    cases e : lk nm L with
    | none => exact Nat.zero_le _
    | some f => exact tot_mem (lk_some e).1
  have hdoc := RRen_all R cap q (Pu L) nm dt _ (hS.fa.below hb0) hsrt hPl (by omega)
  have hap := fun (W : World) (hD : Dk W d m L fr N) => Ren_all nm dt dt.length W hD (by unfold maxLen; omega) hfit (by unfold maxLen; omega)
  have hroom := hS.room
  generalize (rnA nm dt (Pu L)).1 = P' at *
  generalize (rnA nm dt (Pu L)).2 = xx at *
  have hD0 := hS.dw.on hb0
  have hL2 := hL
  clear hof hfit hsrt hL hL2
  go_enter Try.func10, Try.ntmps10
  go_wp2_with fail
  generalize ((w.alloc (.cells #[.int .i64 (R : Int), .slice q (Pu L).length cap] 27)).alloc (.cells #[.int .i64 k, .string (bstr nm), .string (bstr dt), .slice kq kl kc] 33)).alloc (.cells #[.int .i64 0, .slice none 0 0] 27) = W at *
  refine hdoc.mono ?_
  rintro e w1 ⟨⟨q', cap', rfl, hF⟩, hb1⟩
  have hD1 := hD0.on hb1
  have hC1 := hC.below hb1
  have hal := (Below.refl w1.heap.size w1).alloc (Nat.le_refl _) (.cells #[.int .i64 (R : Int), .slice q' P'.length cap'] 27)
  have hbA := b_step (b_step hb0 hb1 (Nat.le_refl _)) hal (Nat.le_refl _)
  have hgn := boxed w1 (.int .i64 (R : Int)) (.slice q' P'.length cap') 27
  have hD2 := hD1.on hal
  have hC2 := hC1.below hal
  have hF2 := hF.below hal
  have hne : w1.heap.size ≠ w.heap.size + 1 + 1 := fun he => by have := (Array.getElem?_eq_some_iff.1 hC1.b2).1; omega
  go_wp2_with fail
  generalize w1.alloc (.cells #[.int .i64 (R : Int), .slice q' P'.length cap'] 27) = A at *
  have n0 := (cells_block hgn).1 0
  have n1 := (cells_block hgn).1 1
  have x1 := (cells_block hC2.b1).1 1
  have x2 := (cells_block hC2.b1).1 2
  have hcall := hap A.drew hD2.dk.drew
  clear hap hdoc hD0 hD1 hC hC1 hal hb1 hF hb0
  go_region_held3 (fun w' => w'.cell? ⟨w1.heap.size, 0, none⟩ = some (.int .i64 (R : Int)) ∧ w'.cell? ⟨w1.heap.size, 1, none⟩ = some (.slice q' P'.length cap') ∧ w'.cell? ⟨w.heap.size + 1, 1, none⟩ = some (.string (bstr nm)) ∧ w'.cell? ⟨w.heap.size + 1, 2, none⟩ = some (.string (bstr dt))) (first | with_reducible exact ⟨n0, n1, x1, x2⟩ | with_reducible exact ⟨e0, e1, e2, e3⟩ | go_keep)
    ((go_at_call 24; refine hcall.mono ?_; rintro e w3 ⟨rfl, L', fr', hSt, hPu, hsum, hle⟩; have hgn3 := far_kept hD2.dk.drew hSt.kp hgn ⟨by decide, by decide, by decide⟩; have hC3 := (show Ct w A.drew R q (Pu L).length cap k nm dt kq kl kc from ⟨hC2.b0, hC2.b1, hC2.b2⟩).kp hD2.dk.drew hSt.kp; have hF3 := (hF2.drew).kp hD2.dk.drew hSt.kp; have hD3 := hD2.step (Stp.of_drew hSt); clear n0 n1 x1 x2; have n0 := (cells_block hgn3).1 0; have n1 := (cells_block hgn3).1 1; have x1 := (cells_block hC3.b1).1 1; have x2 := (cells_block hC3.b1).1 2; have t0 := (cells_block hC3.b2).1 0; have t1 := (cells_block hC3.b2).1 1; have u0 := (cells_block hC3.b2).2 0; have u1 := (cells_block hC3.b2).2 1; have HF : Hid _ := (show St B w0 w3 d m L' fr' (N + 1) R q' cap' from ⟨hD3, by rw [hPu]; exact hF3, by rw [hsum]; exact hroom⟩).put hC3.b2 (by omega) (.int .i64 (R : Int)) (.slice q' P'.length cap'); have hz := cells_block (set2_block hC3.b2 (.int .i64 (R : Int)) (.slice q' P'.length cap')); have r0 := hz.1 0; have r1 := hz.1 1; have KK : Hid _ := kp_put (g := w.heap.size + 1 + 1) hbA (Stp.of_drew hSt).kp (by omega) (.int .i64 (R : Int)) (.slice q' P'.length cap'); have HP : Hid _ := hPu; have HL : Hid _ := hle; clear hPu hle hsum hz; have e0 : ((w3.setCell ⟨w.heap.size + 1 + 1, 0, none⟩ (.int .i64 (R : Int))).setCell ⟨w.heap.size + 1 + 1, 1, none⟩ (.slice q' P'.length cap')).cell? ⟨w1.heap.size, 0, none⟩ = some (.int .i64 (R : Int)) := (by rw [set_far _ hne, set_far _ hne]; exact n0); have e1 : ((w3.setCell ⟨w.heap.size + 1 + 1, 0, none⟩ (.int .i64 (R : Int))).setCell ⟨w.heap.size + 1 + 1, 1, none⟩ (.slice q' P'.length cap')).cell? ⟨w1.heap.size, 1, none⟩ = some (.slice q' P'.length cap') := (by rw [set_far _ hne, set_far _ hne]; exact n1); have e2 : ((w3.setCell ⟨w.heap.size + 1 + 1, 0, none⟩ (.int .i64 (R : Int))).setCell ⟨w.heap.size + 1 + 1, 1, none⟩ (.slice q' P'.length cap')).cell? ⟨w.heap.size + 1, 1, none⟩ = some (.string (bstr nm)) := (by rw [set_far _ (by omega), set_far _ (by omega)]; exact x1); have e3 : ((w3.setCell ⟨w.heap.size + 1 + 1, 0, none⟩ (.int .i64 (R : Int))).setCell ⟨w.heap.size + 1 + 1, 1, none⟩ (.slice q' P'.length cap')).cell? ⟨w.heap.size + 1, 2, none⟩ = some (.string (bstr dt)) := (by rw [set_far _ (by omega), set_far _ (by omega)]; exact x2)))
  all_goals
    go_wp2
    refine bodyPost_ret (v := .tuple #[.pointer (some ⟨d, 0, none⟩), rdV R q' P'.length cap', .bool true]) ?_ ?_ ?_
    · simp [results, Try.results10, go_sem, r0, r1]
    · rfl
    · exact ⟨d, m, L', fr', q', cap', by rw [HP.out], HF.out, HL.out, KK.out⟩

set_option maxHeartbeats 4000000 in
set_option maxRecDepth 100000 in
theorem step_rem {B : Nat} {w0 w : World} {d m : Nat} {L : List Fl} {fr N R : Nat} {q : Option Addr} {cap : Nat} (k : Int) (nm dt : List UInt8) (kq : Option Addr) (kl kc : Nat) (hS : St B w0 w d m L fr N R q cap) (hk : (k.tmod 7 + 7).tmod 7 = 4) (hk1 : -7 < k.tmod 7) (hk2 : k.tmod 7 < 7)
    (hn1 : nm.length ≤ 1048576) (hL : tot L + dt.length ≤ 1048576) (hR : R ≤ 9223372036854775807) (hN : N ≤ 1000) :
    Calls Try.prog 10 #[.pointer (some ⟨d, 0, none⟩), rdV R q (Pu L).length cap, .agg #[.int .i64 k, .string (bstr nm), .string (bstr dt), .slice kq kl kc]] w fun e w' => StepPost B w0 w d m L N R (tot L + dt.length) e w' := by
  have hsz := Nat.le_trans hS.dw.hB hS.dw.bel.size
  obtain ⟨hb0, hC⟩ := three_blocks w R q (Pu L).length cap k nm dt kq kl kc
  have hPl : (Pu L).length ≤ 1000000 := by have := hS.dw.dk.len; simp only [Pu, List.length_map]; omega
  have hsrt := Pu_srt hS.dw.dk.srt
  have hfit : fr + tot L ≤ 9223372036854775807 := by rw [hS.room]; exact hR
  have hof : (ofP nm (Pu L)).2.1.length ≤ tot L := by
    rw [(ofP_Pu nm L).1]
    cases e : lk nm L with
    | none => exact Nat.zero_le _
    | some f => exact tot_mem (lk_some e).1
  have hdoc := RRem_all R cap q (Pu L) nm _ (hS.fa.below hb0) hsrt hPl
  have hap := fun (W : World) (hD : Dk W d m L fr N) => Rem_all nm dt.length W hD (by unfold maxLen; omega) hfit
  have hroom := hS.room
  generalize (rmA nm (Pu L)).1 = P' at *
  generalize (rmA nm (Pu L)).2 = xx at *
  have hD0 := hS.dw.on hb0
  have hL2 := hL
  clear hof hfit hsrt hL hL2
  go_enter Try.func10, Try.ntmps10
  go_wp2_with fail
  generalize ((w.alloc (.cells #[.int .i64 (R : Int), .slice q (Pu L).length cap] 27)).alloc (.cells #[.int .i64 k, .string (bstr nm), .string (bstr dt), .slice kq kl kc] 33)).alloc (.cells #[.int .i64 0, .slice none 0 0] 27) = W at *
  refine hdoc.mono ?_
  rintro e w1 ⟨⟨q', cap', rfl, hF⟩, hb1⟩
  have hD1 := hD0.on hb1
  have hC1 := hC.below hb1
  have hal := (Below.refl w1.heap.size w1).alloc (Nat.le_refl _) (.cells #[.int .i64 (R : Int), .slice q' P'.length cap'] 27)
  have hbA := b_step (b_step hb0 hb1 (Nat.le_refl _)) hal (Nat.le_refl _)
  have hgn := boxed w1 (.int .i64 (R : Int)) (.slice q' P'.length cap') 27
  have hD2 := hD1.on hal
  have hC2 := hC1.below hal
  have hF2 := hF.below hal
  have hne : w1.heap.size ≠ w.heap.size + 1 + 1 := fun he => by have := (Array.getElem?_eq_some_iff.1 hC1.b2).1; omega
  go_wp2_with fail
  generalize w1.alloc (.cells #[.int .i64 (R : Int), .slice q' P'.length cap'] 27) = A at *
  have n0 := (cells_block hgn).1 0
  have n1 := (cells_block hgn).1 1
  have x1 := (cells_block hC2.b1).1 1
  have x2 := (cells_block hC2.b1).1 2
  have hcall := hap A.drew hD2.dk.drew
  clear hap hdoc hD0 hD1 hC hC1 hal hb1 hF hb0
  go_region_held3 (fun w' => w'.cell? ⟨w1.heap.size, 0, none⟩ = some (.int .i64 (R : Int)) ∧ w'.cell? ⟨w1.heap.size, 1, none⟩ = some (.slice q' P'.length cap') ∧ w'.cell? ⟨w.heap.size + 1, 1, none⟩ = some (.string (bstr nm)) ∧ w'.cell? ⟨w.heap.size + 1, 2, none⟩ = some (.string (bstr dt))) (first | with_reducible exact ⟨n0, n1, x1, x2⟩ | with_reducible exact ⟨e0, e1, e2, e3⟩ | go_keep)
    ((go_at_call 25; refine hcall.mono ?_; rintro e w3 ⟨rfl, L', fr', hSt, hPu, hsum, hle⟩; have hgn3 := far_kept hD2.dk.drew hSt.kp hgn ⟨by decide, by decide, by decide⟩; have hC3 := (show Ct w A.drew R q (Pu L).length cap k nm dt kq kl kc from ⟨hC2.b0, hC2.b1, hC2.b2⟩).kp hD2.dk.drew hSt.kp; have hF3 := (hF2.drew).kp hD2.dk.drew hSt.kp; have hD3 := hD2.step (Stp.of_drew hSt); clear n0 n1 x1 x2; have n0 := (cells_block hgn3).1 0; have n1 := (cells_block hgn3).1 1; have x1 := (cells_block hC3.b1).1 1; have x2 := (cells_block hC3.b1).1 2; have t0 := (cells_block hC3.b2).1 0; have t1 := (cells_block hC3.b2).1 1; have u0 := (cells_block hC3.b2).2 0; have u1 := (cells_block hC3.b2).2 1; have HF : Hid _ := (show St B w0 w3 d m L' fr' (N + 1) R q' cap' from ⟨hD3, by rw [hPu]; exact hF3, by rw [hsum]; exact hroom⟩).put hC3.b2 (by omega) (.int .i64 (R : Int)) (.slice q' P'.length cap'); have hz := cells_block (set2_block hC3.b2 (.int .i64 (R : Int)) (.slice q' P'.length cap')); have r0 := hz.1 0; have r1 := hz.1 1; have KK : Hid _ := kp_put (g := w.heap.size + 1 + 1) hbA (Stp.of_drew hSt).kp (by omega) (.int .i64 (R : Int)) (.slice q' P'.length cap'); have HP : Hid _ := hPu; have HL : Hid _ := hle; clear hPu hle hsum hz; have e0 : ((w3.setCell ⟨w.heap.size + 1 + 1, 0, none⟩ (.int .i64 (R : Int))).setCell ⟨w.heap.size + 1 + 1, 1, none⟩ (.slice q' P'.length cap')).cell? ⟨w1.heap.size, 0, none⟩ = some (.int .i64 (R : Int)) := (by rw [set_far _ hne, set_far _ hne]; exact n0); have e1 : ((w3.setCell ⟨w.heap.size + 1 + 1, 0, none⟩ (.int .i64 (R : Int))).setCell ⟨w.heap.size + 1 + 1, 1, none⟩ (.slice q' P'.length cap')).cell? ⟨w1.heap.size, 1, none⟩ = some (.slice q' P'.length cap') := (by rw [set_far _ hne, set_far _ hne]; exact n1); have e2 : ((w3.setCell ⟨w.heap.size + 1 + 1, 0, none⟩ (.int .i64 (R : Int))).setCell ⟨w.heap.size + 1 + 1, 1, none⟩ (.slice q' P'.length cap')).cell? ⟨w.heap.size + 1, 1, none⟩ = some (.string (bstr nm)) := (by rw [set_far _ (by omega), set_far _ (by omega)]; exact x1); have e3 : ((w3.setCell ⟨w.heap.size + 1 + 1, 0, none⟩ (.int .i64 (R : Int))).setCell ⟨w.heap.size + 1 + 1, 1, none⟩ (.slice q' P'.length cap')).cell? ⟨w.heap.size + 1, 2, none⟩ = some (.string (bstr dt)) := (by rw [set_far _ (by omega), set_far _ (by omega)]; exact x2)))
  all_goals
    go_wp2
    refine bodyPost_ret (v := .tuple #[.pointer (some ⟨d, 0, none⟩), rdV R q' P'.length cap', .bool true]) ?_ ?_ ?_
    · simp [results, Try.results10, go_sem, r0, r1]
    · rfl
    · exact ⟨d, m, L', fr', q', cap', by rw [HP.out], HF.out, HL.out, KK.out⟩

end Go.Proofs.Ytbnenpfphbdmpaa
