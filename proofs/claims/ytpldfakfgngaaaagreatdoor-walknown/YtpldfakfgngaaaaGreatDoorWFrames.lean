/-
  Frames in a row: the contract of framesOf.
-/
import Derived.Test.YtpldfakfgngaaaaGreatDoorWDrop2
import Derived.Test.YtpldfakfgngaaaaGreatDoorCBld
namespace Go.Proofs.YtpldfakfgngaaaaGreatDoor
open Go.RowKit
attribute [local go_sem] size_bstr toList_bstr append_bstr

set_option maxHeartbeats 600000 in
set_option maxRecDepth 100000 in
theorem framesOf_any {B : Nat} (q : Option Addr) (cap : Nat) (ls : List (List UInt8)) (w : World) (hR : Rw w 9 (.slice q ls.length cap) (strV ls)) (hv : Vw B w) (hs : ∀ r ∈ ls, r.length ≤ 1048576) (ht : totS ls ≤ 1099511627776) :
    Calls Tryz.prog 91 #[.slice q ls.length cap] w fun e w' => e = .returned (.string (bstr (fr ls))) ∧ Below w.heap.size w w' := by
  have hnew := IsB.new w
  have hB1 : Below w.heap.size w (w.alloc (.cells #[.pointer none, .slice none 0 0] 155)) := (Below.refl _ _).alloc (Nat.le_refl _) _
  have hs1 : (w.alloc (.cells #[.pointer none, .slice none 0 0] 155)).heap.size = w.heap.size + 1 := by simp
  go_enter Tryz.func91, Tryz.ntmps91
  go_wp2_with fail
  generalize hw1 : w.alloc (.cells #[.pointer none, .slice none 0 0] 155) = w1 at *
  clear hw1
  obtain ⟨N, hN⟩ : ∃ N, w.heap.size = N := ⟨_, rfl⟩
  rw [hN] at hnew hB1 hs1 ⊢
  have HN : Hid (w.heap.size = N) := hN
  clear hN
  go_loopw [10] (fun s10 wr => ∃ i : Nat, s10 = .int .i64 (i : Int) ∧ i ≤ ls.length ∧ Hid (IsB N N (fr (ls.take i)) wr) ∧ N + 1 ≤ wr.heap.size ∧ Below N w wr) (fun s10 _ => ls.length - (intOf s10).toNat)
  case atStart => exact ⟨0, rfl, Nat.zero_le _, hnew, by omega, hB1⟩
  case round =>
    obtain ⟨i, rfl, hil, HI, hNs, hbel⟩ := hrel
    have hbw : Below w.heap.size w wr := by rw [HN.out]; exact hbel
    by_cases hlt : i < ls.length
    · have hil2 : (i : Int) < (ls.length : Int) := by omega
      have hRr : Rw wr 9 (.slice q ls.length cap) (strV ls) := hR.kept fun j hj => hbw.block j (hR.lt hj)
      obtain ⟨g, off, cap', e1, ci⟩ := hRr.cell (i := i) (by rw [strV_len]; exact hlt)
      rw [strV_len] at e1
      cases e1
      have hx : (strV ls)[i]'(by rw [strV_len]; exact hlt) = .string (bstr ls[i]) := by simp [strV]
      rw [hx] at ci
      have hsl := hs ls[i] (List.getElem_mem hlt)
      have htk : fr (ls.take (i + 1)) = fr (ls.take i) ++ frm ls[i] := by
        rw [List.take_succ_eq_append_getElem hlt, fr_append]
        simp [fr]
      have hfl := fr_length (ls.take (i + 1))
      have htl : totS (ls.take (i + 1)) ≤ totS ls := by
        conv => rhs; rw [← List.take_append_drop (i + 1) ls]
        rw [tot_append]
        omega
      have hlen := congrArg List.length htk
      rw [List.length_append] at hlen
      have htn := tot_len ls
      have hi3 : (i : Int) + 1 ≤ 9223372036854775807 := by omega
      have HTK : Hid _ := htk
      clear hx htk
      obtain ⟨l, hl⟩ : ∃ l, fr (ls.take i) = l := ⟨_, rfl⟩
      rw [hl] at HI hlen HTK
      clear hl
      obtain ⟨y, hy⟩ : ∃ y, ls[i] = y := ⟨_, rfl⟩
      rw [hy] at ci hsl hlen HTK
      clear hy
      go_wp2_with fail
      refine (Frame_ok y wr hsl (hv.on hbw).tabs).mono ?_
      rintro e w2 ⟨rfl, hb2⟩
      have hI2 : IsB N N l w2 := HI.out.step hb2
      have hz2 := hb2.size
      go_wp2_with fail
      refine (WriteString_any N N l (frm y) w2 hI2 (by omega) (by omega)).mono ?_
      rintro e w3 ⟨rfl, hI3, hb3⟩
      clear hI2
      go_wp2
      go_roundw
      case rel => exact ⟨i + 1, by simp, by omega, (by rw [HTK.out]; exact hI3 : IsB N N (fr (ls.take (i + 1))) w3), by have := hb3.size; omega, hbel.trans ((hb2.mono (by omega)).trans hb3)⟩
      case measure => simp [intOf]; omega
    · have hil2 : ¬ (i : Int) < (ls.length : Int) := by omega
      obtain rfl : i = ls.length := by omega
      rw [List.take_length] at HI
      go_wp2_with fail
      refine (String_any N N (fr ls) wr HI.out (by omega)).mono ?_
      rintro e w2 ⟨rfl, hb2⟩
      go_wp2
      go_ret
      exact ⟨rfl, by rw [HN.out]; exact hbel.trans hb2⟩

end Go.Proofs.YtpldfakfgngaaaaGreatDoor
