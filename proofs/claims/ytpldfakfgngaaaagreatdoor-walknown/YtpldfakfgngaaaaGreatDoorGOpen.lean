/-
  What becomes of a log's files when it is opened, as lists.
  The contract of load.
  The contract of Open.
-/
import Derived.Test.YtpldfakfgngaaaaGreatDoorGTake
import Derived.Deep.CutRange
namespace Go.Proofs.YtpldfakfgngaaaaGreatDoor
open Go.RowKit

theorem scn_tot : ∀ (k : Nat) (s : List UInt8), totS (scn k s) ≤ s.length
  | 0, _ => Nat.zero_le _
  | k + 1, s => by
    cases e : opn s with
    | none => rw [scn_none e]; exact Nat.zero_le _
    | some b =>
      have h1 := opn_length e
      have h2 := scn_tot k (s.drop (8 + b.length))
      rw [scn_some e]
      rw [List.length_drop] at h2
      show ((b :: scn k _).map fun b => b.length + 8).sum ≤ _
      rw [List.map_cons, List.sum_cons]
      unfold totS at h2
      omega
theorem tot_len : ∀ l : List (List UInt8), 8 * l.length ≤ totS l
  | [] => Nat.le_refl _
  | b :: r => by
    have := tot_len r
    unfold totS at this ⊢
    rw [List.map_cons, List.sum_cons, List.length_cons]
    omega
theorem scn'_tot (s : List UInt8) : totS (scn' s) ≤ s.length := scn_tot _ _
theorem scn'_len (s : List UInt8) : (scn' s).length ≤ s.length := by
  have h1 := scn'_tot s
  have h2 := tot_len (scn' s)
  omega
theorem by_le (s : List UInt8) (L : List Fl) : (by_ (lk s L)).length ≤ tot L := by
  cases e : lk s L with
  | none => simp [by_]
  | some f => exact tot_mem (lk_some e).1
theorem gtP_le (s : List UInt8) (L : List Fl) : (gtP s (Pu L)).length ≤ tot L := by
  unfold gtP
  rw [(ofP_Pu s L).1]
  exact by_le s L
/-- A file with its records, by its number. -/
def rcP (p : List UInt8) (P : List F3) (n : Nat) : Nat × List (List UInt8) := (n, scn' (gtP (nm p n) P))
/-- What becomes of the files from some place on: the files, what the log has, the answer. -/
def ldP (p : List UInt8) (R : Nat) : Option Nat → List Nat → List F3 → List F3 × List (Nat × List (List UInt8)) × Int
  | _, [], P => (P, [], 0)
  | nx, n :: ns, P =>
    if nx = none ∨ nx = some n then
      if totS (scn' (gtP (nm p n) P)) < (gtP (nm p n) P).length then
        if R - totP (wtoP (sp p) P) < ((gtP (nm p n) P).take (totS (scn' (gtP (nm p n) P)))).length then (wtoP (sp p) P, [], 7)
        else (rmAll p ns (wthP (nm p n, (gtP (nm p n) P).take (totS (scn' (gtP (nm p n) P))), ((gtP (nm p n) P).take (totS (scn' (gtP (nm p n) P)))).length) (wtoP (sp p) P)), [rcP p P n], 0)
      else ((ldP p R (some (n + (scn' (gtP (nm p n) P)).length)) ns P).1, rcP p P n :: (ldP p R (some (n + (scn' (gtP (nm p n) P)).length)) ns P).2.1, (ldP p R (some (n + (scn' (gtP (nm p n) P)).length)) ns P).2.2)
    else (rmAll p (n :: ns) P, [], 0)
theorem ldP_off {p : List UInt8} {R n x : Nat} {ns : List Nat} {P : List F3} (h : x ≠ n) : ldP p R (some x) (n :: ns) P = (rmAll p (n :: ns) P, [], 0) := by
  rw [ldP, if_neg]
  rintro (e | e)
  · cases e
  · cases e; exact h rfl
theorem ldP_whole {p : List UInt8} {R n : Nat} {nx : Option Nat} {ns : List Nat} {P : List F3} (h : nx = none ∨ nx = some n) (hw : totS (scn' (gtP (nm p n) P)) = (gtP (nm p n) P).length) :
    ldP p R nx (n :: ns) P = ((ldP p R (some (n + (scn' (gtP (nm p n) P)).length)) ns P).1, rcP p P n :: (ldP p R (some (n + (scn' (gtP (nm p n) P)).length)) ns P).2.1, (ldP p R (some (n + (scn' (gtP (nm p n) P)).length)) ns P).2.2) := by
  rw [ldP, if_pos h, if_neg (by omega)]
theorem ldP_err {p : List UInt8} {R n : Nat} {nx : Option Nat} {ns : List Nat} {P : List F3} (h : nx = none ∨ nx = some n) (hw : totS (scn' (gtP (nm p n) P)) < (gtP (nm p n) P).length) (hf : R - totP (wtoP (sp p) P) < ((gtP (nm p n) P).take (totS (scn' (gtP (nm p n) P)))).length) :
    ldP p R nx (n :: ns) P = (wtoP (sp p) P, [], 7) := by
  rw [ldP, if_pos h, if_pos hw, if_pos hf]
theorem ldP_cut {p : List UInt8} {R n : Nat} {nx : Option Nat} {ns : List Nat} {P : List F3} (h : nx = none ∨ nx = some n) (hw : totS (scn' (gtP (nm p n) P)) < (gtP (nm p n) P).length) (hf : ¬ R - totP (wtoP (sp p) P) < ((gtP (nm p n) P).take (totS (scn' (gtP (nm p n) P)))).length) :
    ldP p R nx (n :: ns) P = (rmAll p ns (wthP (nm p n, (gtP (nm p n) P).take (totS (scn' (gtP (nm p n) P))), ((gtP (nm p n) P).take (totS (scn' (gtP (nm p n) P)))).length) (wtoP (sp p) P)), [rcP p P n], 0) := by
  rw [ldP, if_pos h, if_pos hw, if_neg hf]
/-- The first i files are whole, and follow one another. -/
def nxI (p : List UInt8) (P : List F3) (ns : List Nat) (i : Nat) : Option Nat := match i with | 0 => none | j + 1 => (ns[j]?).map fun n => n + (scn' (gtP (nm p n) P)).length
structure Ld (p : List UInt8) (R : Nat) (ns : List Nat) (P : List F3) (i : Nat) : Prop where
  eq : ldP p R none ns P = ((ldP p R (nxI p P ns i) (ns.drop i) P).1, (ns.take i).map (rcP p P) ++ (ldP p R (nxI p P ns i) (ns.drop i) P).2.1, (ldP p R (nxI p P ns i) (ns.drop i) P).2.2)
theorem Ld.start (p : List UInt8) (R : Nat) (ns : List Nat) (P : List F3) : Ld p R ns P 0 := ⟨by simp [nxI]⟩
theorem Ld.step {p : List UInt8} {R : Nat} {ns : List Nat} {P : List F3} {i : Nat} (h : Ld p R ns P i) (hi : i < ns.length) (hn : nxI p P ns i = none ∨ nxI p P ns i = some ns[i]) (hw : totS (scn' (gtP (nm p ns[i]) P)) = (gtP (nm p ns[i]) P).length) : Ld p R ns P (i + 1) := by
  refine ⟨?_⟩
  rw [h.eq, List.drop_eq_getElem_cons hi, ldP_whole hn hw]
  have e : nxI p P ns (i + 1) = some (ns[i] + (scn' (gtP (nm p ns[i]) P)).length) := by simp [nxI, hi]
  rw [e, List.take_succ_eq_append_getElem hi, List.map_append, List.append_assoc]
  rfl
theorem Ld.last {p : List UInt8} {R : Nat} {ns : List Nat} {P : List F3} (h : Ld p R ns P ns.length) : ldP p R none ns P = (P, ns.map (rcP p P), 0) := by
  rw [h.eq, List.drop_length, ldP, List.take_length, List.append_nil]
theorem nxI_pw {p : List UInt8} {P : List F3} {ns : List Nat} {F : List (Nat × List (List UInt8))} {i : Nat} (hF : F = (ns.take i).map (rcP p P)) (h0 : 0 < i) (hi : i ≤ ns.length) : nxI p P ns i = some (nxtF F) := by
  obtain ⟨j, rfl⟩ : ∃ j, i = j + 1 := ⟨i - 1, by omega⟩
  subst hF
  have hj : j < ns.length := by omega
  rw [List.take_succ_eq_append_getElem hj, List.map_append]
  simp [nxI, hj, nxtF, rcP]
theorem nxtF_le {p : List UInt8} {L : List Fl} {ns : List Nat} {i : Nat} (hok : ∀ n ∈ ns, okNo n) : nxtF ((ns.take i).map (rcP p (Pu L))) ≤ 1000000000000000 + tot L := by
  unfold nxtF
  split
  · omega
  · rename_i x hx
    obtain ⟨n, hn, rfl⟩ := List.mem_map.1 (List.mem_of_getLast? hx)
    have h1 := (hok n (List.mem_of_mem_take hn)).2
    have h2 := scn'_len (gtP (nm p n) (Pu L))
    have h3 := gtP_le (nm p n) L
    show n + (scn' (gtP (nm p n) (Pu L))).length ≤ _
    omega

end Go.Proofs.YtpldfakfgngaaaaGreatDoor

namespace Go.Proofs.YtpldfakfgngaaaaGreatDoor
open Go.RowKit
attribute [local go_sem] size_bstr toList_bstr append_bstr

theorem Ab.log {B : Nat} {w w' : World} {m fr N : Nat} {L L' : List Fl} {k : Wk} {F F' : List Wf} {v v' : Value} {p : List UInt8} {g off : Nat} {ns : List Nat} (h : Ab w p g off ns) (hL : Lo B w m L fr N k F v) (hK : Ks w w' m L L' k F F' v v') : Ab w' p g off ns := by
  obtain ⟨cur, hc⟩ := h.blk
  refine h.kept (hK.kp.block g (Array.getElem?_eq_some_iff.1 hc).1 ?_)
  rintro (hi | hi)
  · exact hL.dk.other hc (by decide) hi
  · obtain ⟨cur', t, hc', ht⟩ := hL.wm.what hi
    rw [hc] at hc'
    cases hc'
    revert ht
    decide

set_option maxHeartbeats 1000000 in
set_option maxRecDepth 100000 in
theorem load_any {B : Nat} {k : Wk} {v0 : Value} {m fr N : Nat} {L : List Fl} (w : World) (h : Lo B w m L fr N k [] v0) (hp : k.p.length ≤ 48) (hfit : fr + tot L ≤ 9223372036854775807) (hb : tot L ≤ 35184372088832) (hN : N ≤ 900000) :
    Calls Tryz.prog 41 #[.pointer (some ⟨k.g, 0, none⟩)] w fun e w' => e = .returned (.int .i64 (ldP k.p (fr + tot L) none (nos k.p (Pu L)) (Pu L)).2.2) ∧ ∃ L' fr' F v', Lo B w' m L' fr' (N + 4 + (nos k.p (Pu L)).length) k F v' ∧ Ks w w' m L L' k [] F v0 v' ∧ Pu L' = (ldP k.p (fr + tot L) none (nos k.p (Pu L)) (Pu L)).1 ∧ fr' + tot L' = fr + tot L ∧ ((ldP k.p (fr + tot L) none (nos k.p (Pu L)) (Pu L)).2.2 = 0 → Pw F = (ldP k.p (fr + tot L) none (nos k.p (Pu L)) (Pu L)).2.1) := by
  have hP := Pu_srt h.dk.srt
  have hok : ∀ n ∈ nos k.p (Pu L), okNo n ∧ (lkP (nm k.p n) (Pu L)).isSome = true := fun n hn => ⟨(mem_nos_lk.1 hn).2, (mem_nos_lk.1 hn).1⟩
  have hsr := nos_srt k.p hP
  have hnl : (nos k.p (Pu L)).length ≤ N := by
    have h1 : (nos k.p (Pu L)).length ≤ ((Pu L).map (fun f => f.1)).length := Nat.le_trans (List.length_filterMap_le _ _) (List.length_filter_le _ _)
    have h2 : ((Pu L).map (fun f => f.1)).length = L.length := by simp [Pu]
    have := h.dk.len
    omega
  have hfind := wfind_any w h.wm h.dk (by omega) h.vw.syn (Nat.le_trans h.vw.low h.vw.le)
  have hlen := fun n => gtP_le (nm k.p n) L
  obtain ⟨ns, hns⟩ : ∃ ns, ns = nos k.p (Pu L) := ⟨_, rfl⟩
  have HNS : Hid (ns = nos k.p (Pu L)) := hns
  rw [← hns] at hok hsr hnl hfind ⊢
  clear hns
  obtain ⟨Z, hZ⟩ : ∃ Z, Z = ldP k.p (fr + tot L) none ns (Pu L) := ⟨_, rfl⟩
  have HZ : Hid (Z = ldP k.p (fr + tot L) none ns (Pu L)) := hZ
  rw [← hZ]
  clear hZ
  go_enter Tryz.func41, Tryz.ntmps41
  go_wp2_with fail
  refine hfind.mono ?_
  rintro e w1 ⟨u, rfl, own1, hb1⟩
  obtain ⟨q, cap, rfl⟩ := own_slice own1
  have hL1 := h.below hb1
  have hK1 := Ks.of_below (m := m) L k [] v0 hb1
  have hA1 : ∀ (_ : 0 < ns.length), ∃ g, q = some ⟨g, 0, none⟩ ∧ Ab w1 k.p g 0 ns := fun h0 => by
    obtain ⟨g, e1, _, e3⟩ := ab_of_own own1 h0
    exact ⟨g, e1, e3⟩
  have hcap : ns.length ≤ cap := by
    rcases own1.2 with ⟨_, h0⟩ | ⟨g', cap', cur, e, _, _, h1, _⟩
    · omega
    · cases e; exact h1
  clear own1
  go_wp2_with fail
  go_loopw [12] (fun s12 wr => ∃ (i : Nat) (F : List Wf) (v : Value), s12 = .int .i64 (i : Int) ∧ i ≤ ns.length ∧ Lo B wr m L fr N k F v ∧ Ks w wr m L L k [] F v0 v ∧ Hid (Pw F = (ns.take i).map (rcP k.p (Pu L))) ∧ Hid (Ld k.p (fr + tot L) ns (Pu L) i) ∧ (∀ (_ : 0 < ns.length), ∃ g, q = some ⟨g, 0, none⟩ ∧ Ab wr k.p g 0 ns)) (fun s12 _ => ns.length - (intOf s12).toNat)
  case atStart => exact ⟨0, [], v0, rfl, Nat.zero_le _, hL1, hK1, rfl, Ld.start _ _ _ _, hA1⟩
  case round =>
    obtain ⟨i, F, v, rfl, hi1, hLo, hK, HF, HLd, hA⟩ := hrel
    by_cases hl : i < ns.length
    · have hil : (i : Int) < (ns.length : Int) := by omega
      obtain ⟨g, rfl, hAb⟩ := hA (by omega)
      have hci : i < cap := by omega
      have hci2 : ¬ (cap - i = 0) := by omega
      obtain ⟨a0, a1, a2⟩ := hAb.at_ i hl
      rw [Nat.zero_add] at a0 a1 a2
      obtain ⟨hokn, hsm⟩ := hok ns[i] (List.getElem_mem hl)
      have hFl : F.length = i := by
        have := congrArg List.length HF.out
        simp only [Pw, List.length_map, List.length_take] at this
        omega
      have hnx : nxtF (Pw F) < 18446744073709551616 := by
        have := nxtF_le (p := k.p) (L := L) (ns := ns) (i := i) (fun n hn => (hok n hn).1)
        rw [← HF.out] at this
        omega
      obtain ⟨n, hn⟩ : ∃ n, n = ns[i] := ⟨_, rfl⟩
      have HN : Hid (n = ns[i]) := hn
      rw [← hn] at a0 a1 hokn hsm
      clear hn
      go_upto_region 5 with fail
      have hBw : Below wr.heap.size wr (wr.alloc (.cells #[.string (bstr (nm k.p n)), .int .u64 (n : Int), .int .i64 0] 97)) := (Below.refl _ _).alloc (Nat.le_refl _) _
      have hbk : (wr.alloc (.cells #[.string (bstr (nm k.p n)), .int .u64 (n : Int), .int .i64 0] 97)).heap[wr.heap.size]? = some (.cells #[.string (bstr (nm k.p n)), .int .u64 (n : Int), .int .i64 0] 97 (0, 0)) := heap_alloc_new wr _
      generalize wr.alloc (.cells #[.string (bstr (nm k.p n)), .int .u64 (n : Int), .int .i64 0] 97) = W at *
      have hLoW := hLo.below hBw
      have hKW := hK.below hBw
      have hAW := hAb.below hBw
      have hbl := (Array.getElem?_eq_some_iff.1 hbk).1
      obtain ⟨mis, hmis⟩ : ∃ b : Bool, b = decide (0 < i ∧ ¬ n = nxtF (Pw F)) := ⟨_, rfl⟩
      have HM : Hid (mis = decide (0 < i ∧ ¬ n = nxtF (Pw F))) := hmis
      clear hmis a0 a1 a2
      obtain ⟨b0, b1, b2⟩ := cells3 hbk
      go_cut [12, 25] from 12 to 48 (fun s12 s25 wx => s12 = .int .i64 (i : Int) ∧ s25 = .bool mis ∧ Below W.heap.size W wx)
      case first =>
        by_cases h0 : i = 0
        · obtain rfl : mis = false := by rw [HM.out]; simp [h0]
          have hi0 : decide (0 < i) = false := by simp [h0]
          go_quiet (fail)
          go_wp2
          go_meet
          case rel => exact ⟨rfl, rfl, below_drewN (Below.refl _ _) nq⟩
        · have hi0 : decide (0 < i) = true := by rw [decide_eq_true_eq]; omega
          have hNx := Next_any W.drew hLoW.wm.drew (by omega) hnx
          by_cases hq : n = nxtF (Pw F)
          · obtain rfl : mis = false := by rw [HM.out]; simp [hq]
            have hqe : ((n : Int) != (nxtF (Pw F) : Int)) = false := by rw [hq]; simp
            clear hq
            go_region_held3 (fun w' => w'.cell? ⟨wr.heap.size, 1, none⟩ = some (.int .u64 (n : Int))) (first | with_reducible exact b1 | with_reducible exact e1 | go_keep)
              ((go_at_call 28; refine hNx.mono ?_; rintro e w3 ⟨rfl, hb3⟩; have e1 : w3.cell? ⟨wr.heap.size, 1, none⟩ = some (.int .u64 (n : Int)) := (cells3 ((hb3.block _ hbl).trans hbk)).2.1))
            go_wp2
            go_meet
            case rel => exact ⟨rfl, rfl, (below_drewN (Below.refl _ _) 1).trans hb3⟩
          · obtain rfl : mis = true := by rw [HM.out]; simp [hq]; omega
            have hqe : ((n : Int) != (nxtF (Pw F) : Int)) = true := by rw [bne_iff_ne]; omega
            clear hq
            go_region_held3 (fun w' => w'.cell? ⟨wr.heap.size, 1, none⟩ = some (.int .u64 (n : Int))) (first | with_reducible exact b1 | with_reducible exact e1 | go_keep)
              ((go_at_call 28; refine hNx.mono ?_; rintro e w3 ⟨rfl, hb3⟩; have e1 : w3.cell? ⟨wr.heap.size, 1, none⟩ = some (.int .u64 (n : Int)) := (cells3 ((hb3.block _ hbl).trans hbk)).2.1))
            go_wp2
            go_meet
            case rel => exact ⟨rfl, rfl, (below_drewN (Below.refl _ _) 1).trans hb3⟩
      case rest =>
        obtain ⟨rfl, rfl, hbc⟩ := hcut
        have hLc := hLoW.below hbc
        have hKc := hKW.below hbc
        have hAc := hAW.below hbc
        have hbkc := (hbc.block _ hbl).trans hbk
        clear b0 b1 b2 hbk hbl hLoW hKW hAW hA hLo hK
        cases mis with
        | true =>
          have hm : 0 < i ∧ ¬ n = nxtF (Pw F) := of_decide_eq_true HM.out.symm
          have hz : Z = (rmAll k.p (ns.drop i) (Pu L), (ns.take i).map (rcP k.p (Pu L)), 0) := by
            rw [HZ.out, HLd.out.eq, List.drop_eq_getElem_cons hl, nxI_pw HF.out hm.1 hi1, ldP_off (fun e => hm.2 (HN.out.trans e.symm)), List.append_nil]
          have HZ2 : Hid _ := hz
          have hdl : (ns.drop i).length = ns.length - i := List.length_drop
          have hdi := discard_any (w := wc) (some ⟨g, i * 3, none⟩) (cap - i) (ns.drop i) hLc.wm hLc.dk (fun _ => ⟨g, i * 3, rfl, by have := hAc.drop i; rw [Nat.zero_add] at this; exact this⟩) (hsr.drop) (fun n hn => hok n (List.mem_of_mem_drop hn)) hp hfit (by omega)
          rw [hdl] at hdi
          have HD : Hid ((ns.drop i).length = ns.length - i) := hdl
          clear hz hdl hm
          go_wp2_with fail
          refine hdi.mono ?_
          rintro e w5 ⟨rfl, L5, fr5, S5, P5, R5, T5⟩
          go_wp2
          go_ret
          have hz := HZ2.out
          subst hz
          have hL5 := hLc.disk S5
          refine ⟨rfl, L5, fr5, F, v, ⟨hL5.dk.mono (by omega), hL5.wm, hL5.geD, hL5.geW, hL5.vw⟩, hKc.trans (Ks.of_disk F v S5), P5, R5, fun _ => HF.out⟩
        | false =>
          have hm : ¬ (0 < i ∧ ¬ n = nxtF (Pw F)) := of_decide_eq_false HM.out.symm
          have hnx2 : nxI k.p (Pu L) ns i = none ∨ nxI k.p (Pu L) ns i = some ns[i] := by
            by_cases h0 : i = 0
            · left; rw [h0]; rfl
            · right
              rw [nxI_pw HF.out (by omega) hi1, ← HN.out]
              congr 1
              by_cases e : n = nxtF (Pw F)
              · exact e.symm
              · exact absurd ⟨by omega, e⟩ hm
          have HNX : Hid _ := hnx2
          clear hm hnx2
          obtain ⟨b0, b1, b2⟩ := cells3 hbkc
          by_cases hw : totS (scn' (gtP (nm k.p n) (Pu L))) = (gtP (nm k.p n) (Pu L)).length
          · have htk := take_whole n wc hLc hsm hp (by omega) (Nat.le_trans (hlen n) hb) hw
            have HW : Hid _ := hw
            clear hw
            unfold agA at htk
            go_wp2_with fail
            refine htk.mono ?_
            rintro e w5 ⟨rfl, f, v5, hL5, hK5, hf5⟩
            have hA5 := hAc.log hLc hK5
            go_wp2
            go_roundw
            case rel =>
              refine ⟨i + 1, F ++ [f], v5, by simp, hl, hL5, hKc.trans hK5, ?_, HLd.out.step hl HNX.out (by rw [← HN.out]; exact HW.out), fun _ => ⟨g, rfl, hA5⟩⟩
              show Pw (F ++ [f]) = _
              rw [List.take_succ_eq_append_getElem hl, List.map_append, ← HF.out, ← HN.out]
              show (F ++ [f]).map pw = F.map pw ++ [rcP k.p (Pu L) n]
              rw [List.map_append, List.map_singleton, hf5]
              rfl
            case measure => simp [intOf]; omega
          · have hlt : totS (scn' (gtP (nm k.p n) (Pu L))) < (gtP (nm k.p n) (Pu L)).length := by
              have := scn'_tot (gtP (nm k.p n) (Pu L))
              omega
            by_cases hf : fr + tot L - totP (wtoP (sp k.p) (Pu L)) < ((gtP (nm k.p n) (Pu L)).take (totS (scn' (gtP (nm k.p n) (Pu L))))).length
            · have htk := take_err n wc hLc hsm hp (Nat.le_trans (hlen n) hb) hlt hfit hb (by unfold maxLen; omega) hf
              have hz : Z = (wtoP (sp k.p) (Pu L), (ns.take i).map (rcP k.p (Pu L)), 7) := by
                rw [HZ.out, HLd.out.eq, List.drop_eq_getElem_cons hl, ldP_err HNX.out (by rw [← HN.out]; exact hlt) (by rw [← HN.out]; exact hf), List.append_nil]
              have HZ2 : Hid _ := hz
              clear hw hlt hf hz
              unfold agA at htk
              go_wp2_with fail
              refine htk.mono ?_
              rintro e w5 ⟨rfl, L5, fr5, hL5, hK5, P5, R5⟩
              go_wp2
              go_ret
              have hz := HZ2.out
              subst hz
              refine ⟨rfl, L5, fr5, F, v, ⟨hL5.dk.mono (by omega), hL5.wm, hL5.geD, hL5.geW, hL5.vw⟩, hKc.trans hK5, P5, R5, fun e => by cases e⟩
            · have htk := take_cut n wc hLc hsm hp (Nat.le_trans (hlen n) hb) hlt hfit hb (by unfold maxLen; omega) (by omega) hf
              have hz : Z = (rmAll k.p (ns.drop (i + 1)) (wthP (nm k.p n, (gtP (nm k.p n) (Pu L)).take (totS (scn' (gtP (nm k.p n) (Pu L)))), ((gtP (nm k.p n) (Pu L)).take (totS (scn' (gtP (nm k.p n) (Pu L))))).length) (wtoP (sp k.p) (Pu L))), (ns.take i).map (rcP k.p (Pu L)) ++ [rcP k.p (Pu L) n], 0) := by
                rw [HZ.out, HLd.out.eq, List.drop_eq_getElem_cons hl, ldP_cut HNX.out (by rw [← HN.out]; exact hlt) (by rw [← HN.out]; exact hf), ← HN.out]
              have HZ2 : Hid _ := hz
              clear hw hlt hf hz
              unfold agA at htk
              go_wp2_with fail
              refine htk.mono ?_
              rintro e w5 ⟨rfl, L5, fr5, f, v5, hL5, hK5, hf5, P5, R5⟩
              have hA5 := hAc.log hLc hK5
              have hdl : (ns.drop (i + 1)).length = ns.length - (i + 1) := List.length_drop
              have hPm := wtoP_srt (s := sp k.p) hP
              have hex5 : ∀ n' ∈ ns.drop (i + 1), okNo n' ∧ (lkP (nm k.p n') (Pu L5)).isSome = true := fun n' hn' => by
                obtain ⟨o1, o2⟩ := hok n' (List.mem_of_mem_drop hn')
                refine ⟨o1, ?_⟩
                have hlt : ns[i] < n' := by
                  obtain ⟨j, hj, rfl⟩ := List.mem_iff_getElem.1 hn'
                  rw [List.getElem_drop]
                  exact List.pairwise_iff_getElem.1 hsr i (i + 1 + j) hl (by rw [List.length_drop] at hj; omega) (by omega)
                rw [P5, lkP_wth_other hPm (fun e => ?_), lkP_wto_other hP (fun e => sp_alien k.p n' o1 e.symm)]
                · exact o2
                · have := nm_inj k.p o1.2 hokn.2 e
                  have h2 := HN.out
                  omega
              have hdi : ∀ (q' : Option Addr) (cap' : Nat), (0 < (ns.drop (i + 1)).length → q' = some ⟨g, (i + 1) * 3, none⟩) → Calls Tryz.prog 76 #[.pointer (some ⟨k.g, 0, none⟩), .slice q' (ns.length - (i + 1)) cap'] w5 fun e w' => PB w5 w' e k.d m L5 fr5 (N + 4) (ns.length - (i + 1)) (rmAll k.p (ns.drop (i + 1)) (Pu L5)) 0 0 := fun q' cap' hq' => by
                have := discard_any (w := w5) q' cap' (ns.drop (i + 1)) hL5.wm hL5.dk (fun h0 => ⟨g, (i + 1) * 3, hq' h0, by have := hA5.drop (i + 1); rw [Nat.zero_add] at this; exact this⟩) (hsr.drop) hex5 hp (by omega) (by omega)
                rw [hdl] at this
                exact this
              have HDL : Hid ((ns.drop (i + 1)).length = ns.length - (i + 1)) := hdl
              have hle1 : (i : Int) + 1 ≤ (ns.length : Int) := by omega
              have hle2 : i + 1 ≤ cap := by omega
              clear hdl hex5 hPm hci2
              go_wp2_with fail
              all_goals
                refine (hdi _ _ ?_).mono ?_
                · intro h0
                  have := HDL.out
                  first
                    | rfl
                    | (exfalso; omega)
                rintro e w6 ⟨rfl, L6, fr6, S6, P6, R6, T6⟩
                go_wp2
                go_ret
                have hz := HZ2.out
                subst hz
                have hL6 := hL5.disk S6
                refine ⟨rfl, L6, fr6, F ++ [f], v5, ⟨hL6.dk.mono (by omega), hL6.wm, hL6.geD, hL6.geW, hL6.vw⟩, (hKc.trans hK5).trans (Ks.of_disk _ _ S6), by rw [P6, P5], by omega, fun _ => ?_⟩
                show (F ++ [f]).map pw = _
                rw [List.map_append, List.map_singleton, hf5]
                show Pw F ++ _ = _
                rw [HF.out]
                rfl
    · have hil : ¬ (i : Int) < (ns.length : Int) := by omega
      obtain rfl : i = ns.length := by omega
      go_wp2
      go_ret
      have hz : Z = (Pu L, ns.map (rcP k.p (Pu L)), 0) := HZ.out.trans HLd.out.last
      subst hz
      refine ⟨rfl, L, fr, F, v, ⟨hLo.dk.mono (by omega), hLo.wm, hLo.geD, hLo.geW, hLo.vw⟩, hK, rfl, rfl, fun _ => ?_⟩
      have := HF.out
      rw [List.take_length] at this
      exact this

end Go.Proofs.YtpldfakfgngaaaaGreatDoor

namespace Go.Proofs.YtpldfakfgngaaaaGreatDoor
open Go.RowKit
attribute [local go_sem] size_bstr toList_bstr append_bstr

/-- What becomes of the files when a log is opened. -/
def opP (p : List UInt8) (R : Nat) (P : List F3) : List F3 × List (Nat × List (List UInt8)) × Int := ldP p R none (nos p (wtoP (sp p) P)) (wtoP (sp p) P)
structure OpenPost (B : Nat) (w w' : World) (e : Ending) (d m : Nat) (L : List Fl) (fr N : Nat) (p : List UInt8) (most : Int) : Prop where
  go : ∃ L' fr', Stp w w' d m L L' fr' (2 * N + 10) ∧ Pu L' = (opP p (fr + tot L) (Pu L)).1 ∧ fr' + tot L' = fr + tot L ∧ Below B w w' ∧
    ((opP p (fr + tot L) (Pu L)).2.2 ≠ 0 → e = .returned (.tuple #[.pointer none, .int .i64 (opP p (fr + tot L) (Pu L)).2.2])) ∧
    ((opP p (fr + tot L) (Pu L)).2.2 = 0 → ∃ k F v, e = .returned (.tuple #[.pointer (some ⟨k.g, 0, none⟩), .int .i64 0]) ∧ k.d = d ∧ k.p = p ∧ k.most = most ∧ Lo B w' m L' fr' (2 * N + 10) k F v ∧ Pw F = (opP p (fr + tot L) (Pu L)).2.1 ∧ ∀ i, Fw k F v i → w.heap.size ≤ i)

set_option maxHeartbeats 1000000 in
set_option maxRecDepth 100000 in
theorem Open_any {B d m fr N : Nat} {L : List Fl} (p : List UInt8) (most : Int) (w : World) (hv : Vw B w) (hD : Dk w d m L fr N) (hge : ∀ i, Ft d m L i → B ≤ i) (hp : p.length ≤ 48) (hm : 1 ≤ most) (hfit : fr + tot L ≤ 9223372036854775807) (hb : tot L ≤ 35184372088832) (hN : N ≤ 800000) :
    Calls Tryz.prog 9 #[.pointer (some ⟨d, 0, none⟩), .string (bstr p), .int .i64 most] w fun e w' => OpenPost B w w' e d m L fr N p most := by
  have hsl : (sp p).length ≤ maxLen := by simp [sp]; unfold maxLen; omega
  have hrm := removeIf_any (sp p) w hD hsl hfit
  have hiN := isNone_any w hD
  have g1 : ¬ ((48 : Int) < (p.length : Int)) := by omega
  have g2 : ¬ (most < 1) := by omega
  obtain ⟨Z, hZ⟩ : ∃ Z, Z = opP p (fr + tot L) (Pu L) := ⟨_, rfl⟩
  have HZ : Hid (Z = opP p (fr + tot L) (Pu L)) := hZ
  clear hZ
  have esp : bstr p ++ (⟨#[116, 109, 112]⟩ : ByteArray) = bstr (sp p) := append_bstr p [116, 109, 112]
  go_enter Tryz.func9, Tryz.ntmps9
  go_wp2_with fail
  refine hiN.mono ?_
  rintro e w0 ⟨rfl, hw0⟩
  obtain rfl : w = w0 := hw0.symm
  clear hw0
  go_wp2_with fail
  refine hrm.mono ?_
  rintro e w1 ⟨rfl, L1, fr1, S1, P1, R1, T1⟩
  go_wp2_with fail
  refine (CClone_any p w1 (by omega)).mono ?_
  rintro e w2 ⟨rfl, hb2⟩
  go_wp2_with fail
  refine (writeAnew_any d (sp p) w2).mono ?_
  rintro e w3 ⟨rfl, hbx, hb3, hs3⟩
  have hB3 : Below w1.heap.size w1 w3 := hb2.trans (hb3.mono hb2.size)
  have S3 := S1.below hB3
  have HS3 : Hid (w3.heap.size = w2.heap.size + 2) := hs3
  clear hs3
  go_wp2_with fail
  have hz1 : w.heap.size ≤ w1.heap.size := S1.kp.size
  have hz2 : w1.heap.size ≤ w2.heap.size := hb2.size
  have hBW : Below w3.heap.size w3 (w3.alloc (.cells #[.pointer (some ⟨d, 0, none⟩), .string (bstr p), .int .i64 most, .func (.func 73) #[] #[.pointer (some ⟨w2.heap.size, 0, none⟩), .pointer (some ⟨w2.heap.size + 1, 0, none⟩)], .slice none 0 0] 84)) := (Below.refl _ _).alloc (Nat.le_refl _) _
  have hbk : (w3.alloc (.cells #[.pointer (some ⟨d, 0, none⟩), .string (bstr p), .int .i64 most, .func (.func 73) #[] #[.pointer (some ⟨w2.heap.size, 0, none⟩), .pointer (some ⟨w2.heap.size + 1, 0, none⟩)], .slice none 0 0] 84)).heap[w3.heap.size]? = some (.cells #[.pointer (some ⟨d, 0, none⟩), .string (bstr p), .int .i64 most, .func (.func 73) #[] #[.pointer (some ⟨w2.heap.size, 0, none⟩), .pointer (some ⟨w2.heap.size + 1, 0, none⟩)], .slice none 0 0] 84 (0, 0)) := heap_alloc_new w3 _
  generalize w3.alloc (.cells #[.pointer (some ⟨d, 0, none⟩), .string (bstr p), .int .i64 most, .func (.func 73) #[] #[.pointer (some ⟨w2.heap.size, 0, none⟩), .pointer (some ⟨w2.heap.size + 1, 0, none⟩)], .slice none 0 0] 84) = W at *
  have SW := S3.below hBW
  have hBe : Below B w W := SW.kp.below hv.le hge
  have hLo : Lo B W m L1 fr1 (N + 1) ⟨d, w3.heap.size, w2.heap.size, w2.heap.size + 1, p, most⟩ [] (.slice none 0 0) := by
    have h3 := HS3.out
    have hle := hv.le
    refine ⟨SW.dk, ⟨hbk, (hBW.block w2.heap.size (by omega)).trans hbx.ca, (hBW.block (w2.heap.size + 1) (by omega)).trans hbx.cb, Or.inl ⟨rfl, rfl⟩, fun f hf => by simp at hf, List.Pairwise.nil, List.Pairwise.nil, fun f hf => by simp at hf⟩, fun i hi => ?_, fun i hi => ?_, hv.below hBe⟩
    · rcases SW.ft i hi with a | a
      · exact hge i a
      · omega
    · rcases hi with e | e | e | e | ⟨f, hf, _⟩
      · exact Nat.le_trans (by omega : B ≤ w3.heap.size) (Nat.le_of_eq e.symm)
      · exact Nat.le_trans (by omega : B ≤ w2.heap.size) (Nat.le_of_eq e.symm)
      · exact Nat.le_trans (by omega : B ≤ w2.heap.size + 1) (Nat.le_of_eq e.symm)
      · cases e
      · simp at hf
  have hFw : ∀ i, Fw ⟨d, w3.heap.size, w2.heap.size, w2.heap.size + 1, p, most⟩ [] (.slice none 0 0) i → w.heap.size ≤ i := fun i hi => by
    have h3 := HS3.out
    rcases hi with e | e | e | e | ⟨f, hf, _⟩
    · exact Nat.le_trans (by omega : w.heap.size ≤ w3.heap.size) (Nat.le_of_eq e.symm)
    · exact Nat.le_trans (by omega : w.heap.size ≤ w2.heap.size) (Nat.le_of_eq e.symm)
    · exact Nat.le_trans (by omega : w.heap.size ≤ w2.heap.size + 1) (Nat.le_of_eq e.symm)
    · cases e
    · simp at hf
  have hnl : (nos p (Pu L1)).length ≤ N + 1 := by
    have h1 : (nos p (Pu L1)).length ≤ ((Pu L1).map (fun f => f.1)).length := Nat.le_trans (List.length_filterMap_le _ _) (List.length_filter_le _ _)
    have h2 : ((Pu L1).map (fun f => f.1)).length = L1.length := by simp [Pu]
    have := hLo.dk.len
    omega
  have hld := load_any W hLo hp (by omega) (by omega) (by omega)
  have hZe : ldP p (fr1 + tot L1) none (nos p (Pu L1)) (Pu L1) = Z := by rw [HZ.out, opP, P1, R1]
  simp only [hZe] at hld
  have hfin : ∀ (w' : World) (L' : List Fl) (fr' : Nat) (F : List Wf) (v' : Value), Lo B w' m L' fr' (N + 1 + 4 + (nos p (Pu L1)).length) ⟨d, w3.heap.size, w2.heap.size, w2.heap.size + 1, p, most⟩ F v' → Ks W w' m L1 L' ⟨d, w3.heap.size, w2.heap.size, w2.heap.size + 1, p, most⟩ [] F (.slice none 0 0) v' → Stp w w' d m L L' fr' (2 * N + 10) := by
    intro w' L' fr' F v' h1 h2
    refine ⟨h1.dk.mono (by omega), SW.kp.trans h2.kp (fun i hi => ?_), fun i hi => ?_⟩
    · rcases hi with hi | hi
      · exact SW.ft i hi
      · exact Or.inr (hFw i hi)
    · rcases h2.ft i hi with a | a
      · exact SW.ft i a
      · exact Or.inr (Nat.le_trans SW.kp.size a)
  have HFIN : Hid _ := hfin
  clear hZe hfin
  refine hld.mono ?_
  rintro e w5 ⟨rfl, L5, fr5, F, v5, hL5, hK5, P5, R5, E5⟩
  have hB5 : Below B w w5 := hBe.trans (hLo.frame hK5)
  have S5 := HFIN.out _ _ _ _ _ hL5 hK5
  by_cases h0 : Z.2.2 = 0
  · have E6 := E5 h0
    rw [h0]
    go_wp2
    go_ret2
    refine ⟨L5, fr5, S5, by rw [← HZ.out]; exact P5, by omega, hB5, fun h => absurd (by rw [← HZ.out]; exact h0) h, fun _ => ⟨_, F, v5, rfl, rfl, rfl, rfl, ⟨hL5.dk.mono (by omega), hL5.wm, hL5.geD, hL5.geW, hL5.vw⟩, by rw [← HZ.out]; exact E6, fun i hi => ?_⟩⟩
    rcases hK5.fw i hi with a | a
    · exact hFw i a
    · exact Nat.le_trans SW.kp.size a
  · have hne : (Z.2.2 != 0) = true := by rw [bne_iff_ne]; exact h0
    go_wp2
    go_ret2
    exact ⟨L5, fr5, S5, by rw [← HZ.out]; exact P5, by omega, hB5, fun _ => by rw [← HZ.out]; rfl, fun h => absurd (by rw [HZ.out]; exact h) h0⟩

end Go.Proofs.YtpldfakfgngaaaaGreatDoor

