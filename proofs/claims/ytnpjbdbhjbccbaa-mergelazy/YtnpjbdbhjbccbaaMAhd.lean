/-
  The law MergeLazy: a row that counts tells; how many first cells were told.
-/
import Derived.Test.YtnpjbdbhjbccbaaMCnt
import Derived.Test.YtnpjbdbhjbccbaaMLaw
namespace Go.Proofs.Ytnpjbdbhjbccbaa
open Go.RowKit Go.BigFrame Go.Sort
attribute [local go_sem] size_bstr toList_bstr ls_def

theorem cnt_tlr {nb sb pb va la : Nat} {cs : List Cl} (hN : CntN nb sb pb va la cs) (hf : ∀ c ∈ cs, Fits c) : Tlr 52 #[.pointer (some ⟨nb, 0, none⟩), .pointer (some ⟨sb, 0, none⟩)] (CntF nb sb pb va la cs) cs (CntJ nb sb pb va la cs) where
  eg := enters_of Try.func52 (by kernel_rfl) rfl
  fits := hf
  lt _ _ h := h.lt
  kept _ _ _ h hk := h.kept hk
  step n w h := counted1_step hN n w h
/-- A cell is among those that were told. -/
def inB (told : List Cl) (c : Cl) : Bool := told.any (eqv c)
def aheadN (l told : List Cl) : Nat := (l.takeWhile (inB told)).length
theorem ahead_stop {l told : List Cl} {i : Nat} {c : Cl} (ha : ∀ x ∈ l.take i, inB told x = true) (hc : l[i]? = some c) (hi : inB told c = false) : aheadN l told = i := by
  obtain ⟨hl, rfl⟩ := List.getElem?_eq_some_iff.1 hc
  have e : l = l.take i ++ (l[i] :: l.drop (i + 1)) := by rw [List.getElem_cons_drop, List.take_append_drop]
  unfold aheadN
  rw [e, List.takeWhile_append_of_pos ha, List.takeWhile_cons_of_neg (by rw [hi]; simp), List.append_nil, List.length_take]
  omega
theorem ahead_end {l told : List Cl} (ha : ∀ x ∈ l, inB told x = true) : aheadN l told = l.length := by
  have := List.takeWhile_append_of_pos (p := inB told) (l₁ := l) (l₂ := []) ha
  rw [List.append_nil] at this
  unfold aheadN
  rw [this, List.takeWhile_nil, List.append_nil]
theorem tw_stop {α : Type} (p : α → Bool) : ∀ (l : List α) (k : Nat) (c : α), l[k]? = some c → (l.takeWhile p).length = k → p c = false
  | [], k, c, h, _ => by simp at h
  | a :: l, k, c, h, e => by
    cases hp : p a with
    | false =>
      rw [List.takeWhile_cons_of_neg (by rw [hp]; simp)] at e
      simp at e
      subst e
      simp at h
      rw [← h]; exact hp
    | true =>
      rw [List.takeWhile_cons_of_pos hp, List.length_cons] at e
      subst e
      exact tw_stop p l _ c (by simpa using h) rfl
/-- Asked for no more than what was told, and one. -/
theorem ahead_le {l told : List Cl} {m : Nat} (hm : m ≤ l.length + 1) (h : ∀ i c, i + 1 < m → l[i]? = some c → ∃ t ∈ told, ccl c t = 0) : m ≤ aheadN l told + 1 := by
  apply Classical.byContradiction
  intro hlt
  obtain ⟨c, hc⟩ : ∃ c, l[aheadN l told]? = some c := ⟨_, List.getElem?_eq_getElem (by omega)⟩
  have h1 := tw_stop (inB told) l _ c hc rfl
  obtain ⟨t, ht, e⟩ := h _ c (by omega) hc
  have h2 : inB told c = true := List.any_eq_true.2 ⟨t, ht, by unfold eqv; exact decide_eq_true e⟩
  rw [h1] at h2
  cases h2
theorem inB_snoc {told : List Cl} {m : Nat} {t c : Cl} (h : told[m]? = some t) : inB (told.take (m + 1)) c = (inB (told.take m) c || eqv c t) := by
  unfold inB
  rw [List.take_add_one, h, List.any_append]
  simp
theorem eqv_of (c t : Cl) : eqv c t = (c.row == t.row && c.col == t.col && c.ver == t.ver) := by
  unfold eqv
  rw [Bool.eq_iff_iff, decide_eq_true_iff, ccl_zero]
  simp [and_assoc]

set_option maxHeartbeats 4000000 in
set_option maxRecDepth 100000 in
theorem ahead_any (q q' : Option Addr) (b off cap b' off' cap' : Nat) (l told : List Cl) (w : World) (h1 : 0 < l.length → q = some ⟨b, off, none⟩ ∧ CRow w b off l) (h2 : 0 < told.length → q' = some ⟨b', off', none⟩ ∧ CRow w b' off' told) (hn : l.length ≤ 100000) (hn' : told.length ≤ 100000) :
    Calls Try.prog 28 #[.slice q l.length cap, .slice q' told.length cap'] w fun e w' => e = .returned (.int .i64 (aheadN l told : Int)) ∧ Below w.heap.size w w' := by
  go_enter Try.func28, Try.ntmps28
  go_wp2
  go_loopw [5] (fun s5 wr => ∃ i : Nat, s5 = .int .i64 (i : Int) ∧ i ≤ l.length ∧ (∀ x ∈ l.take i, inB told x = true) ∧ Below w.heap.size w wr) (fun s5 _ => l.length - (intOf s5).toNat)
  case atStart => exact ⟨0, rfl, by omega, by simp, Below.refl _ _⟩
  case round =>
    obtain ⟨i, rfl, hil, hin, hbel⟩ := hrel
    by_cases hlt : i < l.length
    · obtain ⟨rfl, r1⟩ := h1 (by omega)
      obtain ⟨c, hc⟩ : ∃ c, l[i]? = some c := ⟨_, List.getElem?_eq_getElem hlt⟩
      have a1 := r1.get hc
      have hiz : (i : Int) < (l.length : Int) := by omega
      have HC : Hid _ := hc
      have HI : Hid _ := hin
      clear hc hin
      go_wp2
      go_loopw [6, 7] (fun s6 s7 wq => ∃ m : Nat, s7 = .int .i64 (m : Int) ∧ m ≤ told.length ∧ s6 = .bool (inB (told.take m) c) ∧ Below w.heap.size w wq) (fun _ s7 _ => told.length - (intOf s7).toNat)
      case atStart => exact ⟨0, rfl, by omega, rfl, hbel⟩
      case round =>
        obtain ⟨m, rfl, hml, rfl, hbel2⟩ := hrel
        by_cases hmt : m < told.length
        · obtain ⟨rfl, r2⟩ := h2 (by omega)
          obtain ⟨t, ht⟩ : ∃ t, told[m]? = some t := ⟨_, List.getElem?_eq_getElem hmt⟩
          have a2 := r2.get ht
          have hmz : (m : Int) < (told.length : Int) := by omega
          obtain ⟨x0, x1, x2, x3, x4⟩ := a1.step hbel2 a1.lt
          obtain ⟨y0, y1, y2, y3, y4⟩ := a2.step hbel2 a2.lt
          have HS : Hid _ := inB_snoc (c := c) ht
          have HE : Hid _ := eqv_of c t
          have hb3 : Below w.heap.size w wr.drew := ⟨hbel2.os, hbel2.tape, hbel2.output, hbel2.size, hbel2.block⟩
          generalize inB (told.take m) c = d at *
          clear ht
          obtain ⟨r, k, v, z, x⟩ := c
          obtain ⟨r', k', v', z', x'⟩ := t
          simp only at x0 x1 x2 x3 x4 y0 y1 y2 y3 y4
          have HV : ∀ e, eqv ⟨r, k, v, z, x⟩ ⟨r', k', v', z', x'⟩ = e → ((false || eqv ⟨r, k, v, z, x⟩ ⟨r', k', v', z', x'⟩) = e) := fun e h => by rw [Bool.false_or]; exact h
          cases d with
          | true =>
            go_wp2_with fail
            go_quiet (fail)
            go_wp2
            go_roundw
            case rel => exact ⟨m + 1, by go_num, by omega, congrArg Value.bool (HS.out.trans (Bool.true_or _)).symm, ⟨hbel2.os, hbel2.tape, hbel2.output, hbel2.size, hbel2.block⟩⟩
            case measure => simp [intOf]; omega
          | false =>
            cases hr : (r == r') with
            | false =>
              have HQ : Hid (eqv ⟨r, k, v, z, x⟩ ⟨r', k', v', z', x'⟩ = false) := by show _ = _; rw [HE.out]; simp only [hr, Bool.false_and]
              go_wp2_with fail
              go_quiet (fail)
              go_wp2
              go_roundw
              case rel => exact ⟨m + 1, by go_num, by omega, congrArg Value.bool (HS.out.trans (HV _ HQ.out)).symm, ⟨hbel2.os, hbel2.tape, hbel2.output, hbel2.size, hbel2.block⟩⟩
              case measure => simp [intOf]; omega
            | true =>
              cases hk : (k == k') with
              | false =>
                have HQ : Hid (eqv ⟨r, k, v, z, x⟩ ⟨r', k', v', z', x'⟩ = false) := by show _ = _; rw [HE.out]; simp only [hr, hk, Bool.true_and, Bool.false_and]
                go_wp2_with fail
                go_quiet (fail)
                go_wp2
                go_roundw
                case rel => exact ⟨m + 1, by go_num, by omega, congrArg Value.bool (HS.out.trans (HV _ HQ.out)).symm, ⟨hbel2.os, hbel2.tape, hbel2.output, hbel2.size, hbel2.block⟩⟩
                case measure => simp [intOf]; omega
              | true =>
                have HQ : Hid (eqv ⟨r, k, v, z, x⟩ ⟨r', k', v', z', x'⟩ = (v == v')) := by show _ = _; rw [HE.out]; simp only [hr, hk, Bool.true_and]
                go_wp2_with fail
                go_quiet (fail)
                go_wp2
                go_roundw
                case rel => exact ⟨m + 1, by go_num, by omega, congrArg Value.bool (HS.out.trans (HV _ HQ.out)).symm, ⟨hbel2.os, hbel2.tape, hbel2.output, hbel2.size, hbel2.block⟩⟩
                case measure => simp [intOf]; omega
        · have hme : m = told.length := by omega
          have hmz : ¬ (m : Int) < (told.length : Int) := by omega
          have hI : inB (told.take m) c = inB told c := by rw [hme, List.take_length]
          rw [hI]
          have HM : Hid _ := hme
          cases hd : inB told c with
          | false =>
            have HST : Hid _ := ahead_stop HI.out HC.out hd
            clear hd hI hme
            go_wp2
            go_ret
            exact ⟨by rw [HST.out]; rfl, hbel2⟩
          | true =>
            have HST : Hid (∀ x ∈ l.take (i + 1), inB told x = true) := by
              show ∀ x ∈ l.take (i + 1), inB told x = true
              intro x hx
              rw [List.take_add_one, HC.out] at hx
              rcases List.mem_append.1 hx with hx | hx
              · exact HI.out x hx
              · simp at hx; rw [hx]; exact hd
            clear hd hI hme
            go_wp2
            go_roundw
            case rel => exact ⟨i + 1, by go_num, by omega, HST.out, hbel2⟩
            case measure => simp [intOf]; omega
    · have hie : i = l.length := by omega
      have hiz : ¬ (i : Int) < (l.length : Int) := by omega
      have HST : Hid (aheadN l told = i) := by
        show aheadN l told = i
        rw [hie]
        rw [hie, List.take_length] at hin
        exact ahead_end hin
      clear hie hin
      go_wp2
      go_ret
      exact ⟨by rw [HST.out]; rfl, hbel⟩
end Go.Proofs.Ytnpjbdbhjbccbaa
