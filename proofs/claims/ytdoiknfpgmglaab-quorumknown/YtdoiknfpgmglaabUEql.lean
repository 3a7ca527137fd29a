/-
  Two rows of numbers compared.
-/
import Derived.Test.YtdoiknfpgmglaabUMem
namespace Go.Proofs.Ytdoiknfpgmglaab
open Go.RowKit Go.BigFrame


set_option maxHeartbeats 4000000 in
set_option maxRecDepth 100000 in
theorem Equal_any (q : Option Addr) (cap : Nat) (l : List Int) (q2 : Option Addr) (cap2 : Nat) (m : List Int) (w : World) (h : IArg w q l) (h2 : IArg w q2 m) (hl : l.length ≤ 9223372036854775807) :
    Calls Try.prog 13 #[.slice q l.length cap, .slice q2 m.length cap2] w fun e w' => e = .returned (.bool (decide (l = m))) ∧ Below w.heap.size w w' := by
  obtain ⟨ok, hok⟩ : ∃ ok, ok = decide (l = m) := ⟨_, rfl⟩
  rw [← hok]
  have HOK : Hid (ok = decide (l = m)) := hok
  clear hok
  go_enter Try.func13, Try.ntmps13
  by_cases hn : l.length = m.length
  case neg =>
    have h' : ((l.length : Int) == (m.length : Int)) = false := beq_eq_false_iff_ne.2 (by omega)
    have ho : ok = false := by
      rw [HOK.out]
      exact decide_eq_false fun e => hn (by rw [e])
    subst ho
    go_wp2
    go_ret
    exact ⟨rfl, Below.refl _ _⟩
  case pos =>
  have h' : ((l.length : Int) == (m.length : Int)) = true := beq_iff_eq.2 (by omega)
  go_wp2
  go_loopw [13] (fun s13 wr => ∃ (i : Nat), s13 = .int .i64 (i : Int) ∧ i ≤ l.length ∧ Hid (∀ j (hj : j < i) (a : j < l.length) (b : j < m.length), l[j] = m[j]) ∧ Below w.heap.size w wr) (fun s13 _ => l.length + 1 - (intOf s13).toNat)
  case atStart => exact ⟨0, rfl, by omega, (fun j hj => absurd hj (by omega) : ∀ j (_ : j < 0) (a : j < l.length) (b : j < m.length), l[j] = m[j]), Below.refl _ _⟩
  case round =>
    obtain ⟨i, rfl, hil, hs, hbr⟩ := hrel
    by_cases hlt : i < l.length
    · have hi1 : (i : Int) < (l.length : Int) := by omega
      have hi2 : (i : Int) < (m.length : Int) := by omega
      have hlt2 : i < m.length := by omega
      obtain ⟨b, off, rfl, hr⟩ := h (by omega)
      obtain ⟨b2, off2, rfl, hr2⟩ := h2 (by omega)
      have c0 := cell_below hbr (hr i hlt)
      have c1 := cell_below hbr (hr2 i hlt2)
      obtain ⟨x, hx⟩ : ∃ x, x = l[i] := ⟨_, rfl⟩
      obtain ⟨y, hy⟩ : ∃ y, y = m[i] := ⟨_, rfl⟩
      rw [← hx] at c0
      rw [← hy] at c1
      have HX : Hid (x = l[i]) := hx
      have HY : Hid (y = m[i]) := hy
      clear hx hy hr hr2
      by_cases hxy : x = y
      · have e1 : (x == y) = true := beq_iff_eq.2 hxy
        have HS : Hid (∀ j (hj : j < i + 1) (a : j < l.length) (b : j < m.length), l[j] = m[j]) := by
          show ∀ j (hj : j < i + 1) (a : j < l.length) (b : j < m.length), l[j] = m[j]
          intro j hj a b
          rcases Nat.lt_or_ge j i with hj | hj
          · exact hs.out j hj a b
          · obtain rfl : j = i := by omega
            rw [← HX.out, ← HY.out, hxy]
        clear hs hxy HX HY
        go_wp2
        go_region
        go_wp2
        go_roundw
        case rel => exact ⟨i + 1, by simp, by omega, HS.out, hbr.drew⟩
        case measure => simp [intOf]; omega
      · have e1 : (x == y) = false := beq_eq_false_iff_ne.2 hxy
        have ho : ok = false := by
          rw [HOK.out]
          refine decide_eq_false fun e => hxy ?_
          rw [HX.out, HY.out]
          simp only [e]
        subst ho
        clear hs HX HY hxy
        go_wp2
        go_region
        go_wp2
        go_ret
        exact ⟨rfl, hbr.drew⟩
    · obtain rfl : i = l.length := by omega
      have ho : ok = true := by
        rw [HOK.out]
        refine decide_eq_true (List.ext_getElem hn fun j a b => hs.out j a a b)
      subst ho
      clear hs
      go_wp2
      go_ret
      exact ⟨rfl, hbr⟩

end Go.Proofs.Ytdoiknfpgmglaab
