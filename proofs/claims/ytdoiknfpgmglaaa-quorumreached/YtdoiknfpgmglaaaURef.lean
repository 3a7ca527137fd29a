/-
  The document's answers for quorum: Has, Most, May, Check, Same, Wins.
-/
import Derived.Test.YtdoiknfpgmglaaaUFn
import Derived.BigQuiet
import Derived.Deep.RegionHeld3
namespace Go.Proofs.Ytdoiknfpgmglaaa
open Go.RowKit Go.BigFrame

set_option maxHeartbeats 4000000 in
set_option maxRecDepth 100000 in
theorem RHas_any (q : Option Addr) (cap : Nat) (l : List Int) (x : Int) (w : World) (h : IArg w q l) (hl : l.length ≤ 9223372036854775807) :
    Calls Try.prog 13 #[.slice q l.length cap, .int .i64 x] w fun e w' => e = .returned (.bool (decide (x ∈ l))) ∧ w' = w := by
  obtain ⟨ok, hok⟩ : ∃ ok, ok = decide (x ∈ l) := ⟨_, rfl⟩
  rw [← hok]
  have HOK : Hid _ := hok
  clear hok
  go_enter Try.func13, Try.ntmps13
  go_wp2
  go_loopw [5] (fun s5 wr => ∃ i : Nat, s5 = .int .i64 (i : Int) ∧ i ≤ l.length ∧ Hid (x ∉ l.take i) ∧ wr = w) (fun s5 _ => l.length - (intOf s5).toNat)
  case atStart => exact ⟨0, rfl, Nat.zero_le _, (by simp : x ∉ l.take 0), rfl⟩
  case round =>
    obtain ⟨i, rfl, hil, hs, rfl⟩ := hrel
    by_cases hlt : i < l.length
    · have hi1 : (i : Int) < (l.length : Int) := by omega
      obtain ⟨b, off, rfl, hr⟩ := h (by omega)
      have c0 := hr i hlt
      have HT : Hid (l.take (i + 1) = l.take i ++ [l[i]]) := List.take_succ_eq_append_getElem hlt
      have HM : Hid (l[i] ∈ l) := List.getElem_mem hlt
      obtain ⟨y, hy⟩ : ∃ y, y = l[i] := ⟨_, rfl⟩
      rw [← hy] at c0 HT HM
      clear hy hr
      by_cases e : y = x
      · have e1 : (y == x) = true := beq_iff_eq.2 e
        have ho : ok = true := by rw [HOK.out, ← e]; exact decide_eq_true HM.out
        subst ho
        clear e
        go_wp2
        go_ret
        exact ⟨rfl, rfl⟩
      · have e1 : (y == x) = false := beq_eq_false_iff_ne.2 e
        have HS : Hid (x ∉ l.take (i + 1)) := by
          show _ ∉ _
          rw [HT.out]
          simp only [List.mem_append, List.mem_singleton, not_or]
          exact ⟨hs.out, fun k => e k.symm⟩
        clear e hs
        go_wp2
        go_roundw
        case rel => exact ⟨i + 1, by go_num, by omega, HS, trivial⟩
        case measure => simp [intOf]; omega
    · obtain rfl : i = l.length := by omega
      have hs1 := hs.out
      rw [List.take_length] at hs1
      have ho : ok = false := by rw [HOK.out]; exact decide_eq_false hs1
      subst ho
      clear hs hs1
      go_wp2
      go_ret
      exact ⟨rfl, rfl⟩

set_option maxHeartbeats 1000000 in
theorem RMost_any (q : Option Addr) (cap : Nat) (l : List Int) (w : World) (hl : l.length ≤ 9223372036854775807) :
    Calls Try.prog 15 #[.slice q l.length cap] w fun e w' => e = .returned (.int .i64 (most l : Int)) ∧ w' = w := by
  have HM : Hid _ := most_eq l
  go_enter Try.func15, Try.ntmps15
  go_wp2
  go_ret
  exact ⟨by rw [← HM.out]; rfl, rfl⟩

theorem bel_drewN {B : Nat} {w w' : World} (h : Below B w w') (n : Nat) : Below B w (w'.drewN n) := ⟨h.os, h.tape, h.output, h.size, h.block⟩
/-- What of a list has been looked at, may be. -/
def MayTo (l : List Int) (i : Nat) : Prop := ∀ j (_ : j < i) (h : j < l.length), (0 ≤ l[j] ∧ l[j] < 5) ∧ ∀ k (h2 : k < l.length), j = k + 1 → l[k] < l[j]
theorem MayTo.next {l : List Int} {i : Nat} (h : MayTo l i) (hi : i < l.length) (h1 : 0 ≤ l[i] ∧ l[i] < 5) (h2 : ∀ k (h2 : k < l.length), i = k + 1 → l[k] < l[i]) : MayTo l (i + 1) := fun j hj hl => by
  rcases Nat.lt_or_ge j i with e | e
  · exact h j e hl
  · obtain rfl : j = i := by omega
    exact ⟨h1, h2⟩
theorem MayTo.all {l : List Int} (h : MayTo l l.length) : chk l = decide (0 < l.length) := by
  by_cases h0 : 0 < l.length
  · rw [decide_eq_true h0]
    exact may_chk ⟨by rintro rfl; simp at h0, fun j hj => (h j hj hj).1, fun j hj => (h (j + 1) hj hj).2 j (by omega) rfl⟩
  · have : l = [] := by cases l with
      | nil => rfl
      | cons a l => simp at h0
    subst this
    rfl
theorem chk_bad1 {l : List Int} {i : Nat} (hi : i < l.length) (h : ¬ (0 ≤ l[i] ∧ l[i] < 5)) : chk l = false := by
  cases e : chk l with
  | false => rfl
  | true => exact absurd ((chk_may e).2.1 i hi) h
theorem chk_bad2 {l : List Int} {i : Nat} (hi : i + 1 < l.length) (h : ¬ l[i] < l[i + 1]) : chk l = false := by
  cases e : chk l with
  | false => rfl
  | true => exact absurd ((chk_may e).2.2 i hi) h

set_option maxHeartbeats 4000000 in
set_option maxRecDepth 100000 in
theorem RMay_any (q : Option Addr) (cap : Nat) (l : List Int) (w : World) (h : IArg w q l) (hl : l.length ≤ 9223372036854775807) :
    Calls Try.prog 30 #[.slice q l.length cap] w fun e w' => e = .returned (.bool (chk l)) ∧ Below w.heap.size w w' := by
  obtain ⟨ok, hok⟩ : ∃ ok, ok = chk l := ⟨_, rfl⟩
  rw [← hok]
  have HOK : Hid _ := hok
  clear hok
  go_enter Try.func30, Try.ntmps30
  go_wp2
  go_loopw [3] (fun s3 wr => ∃ i : Nat, s3 = .int .i64 (i : Int) ∧ i ≤ l.length ∧ Hid (MayTo l i) ∧ Below w.heap.size w wr) (fun s3 _ => l.length - (intOf s3).toNat)
  case atStart => exact ⟨0, rfl, Nat.zero_le _, (fun j hj => absurd hj (by omega) : MayTo l 0), Below.refl _ _⟩
  case round =>
    obtain ⟨i, rfl, hil, hs, hbr⟩ := hrel
    by_cases hlt : i < l.length
    · have hi1 : (i : Int) < (l.length : Int) := by omega
      have hIA := h.below hbr
      obtain ⟨b, off, rfl, hr⟩ := hIA (by omega)
      have c0 := hr i hlt
      have HN : Hid (∀ (h1 : 0 ≤ l[i] ∧ l[i] < 5) (h2 : ∀ k (h2 : k < l.length), i = k + 1 → l[k] < l[i]), MayTo l (i + 1)) := fun a b => hs.out.next hlt a b
      have HB1 : Hid (¬ (0 ≤ l[i] ∧ l[i] < 5) → chk l = false) := chk_bad1 hlt
      have HB2 : Hid (∀ k (hk : k < l.length), i = k + 1 → ¬ l[k] < l[i] → chk l = false) := by
        show ∀ k (hk : k < l.length), i = k + 1 → ¬ l[k] < l[i] → chk l = false
        rintro k hk rfl hn
        exact chk_bad2 (by omega) hn
      obtain ⟨x, hx⟩ : ∃ x, x = l[i] := ⟨_, rfl⟩
      rw [← hx] at c0 HB1 HB2 HN
      clear hx hs
      by_cases e0 : x < 0
      · have ho : ok = false := by rw [HOK.out]; exact HB1.out (by omega)
        subst ho
        have d0 : decide (x < 0) = true := decide_eq_true e0
        clear HB1 HN HB2 hr e0
        go_wp2
        go_quiet (fail)
        go_wp2
        go_ret
        exact ⟨rfl, bel_drewN hbr _⟩
      · have d0 : decide (x < 0) = false := decide_eq_false e0
        by_cases e5 : 5 ≤ x
        · have ho : ok = false := by rw [HOK.out]; exact HB1.out (by omega)
          subst ho
          have d5 : decide (5 ≤ x) = true := decide_eq_true e5
          clear HB1 HN HB2 hr e0 e5
          go_wp2
          go_quiet (fail)
          go_wp2
          go_ret
          exact ⟨rfl, bel_drewN hbr _⟩
        · have d5 : decide (5 ≤ x) = false := decide_eq_false e5
          by_cases hi0 : 0 < i
          · obtain ⟨k, hk⟩ : ∃ k, i = k + 1 := ⟨i - 1, by omega⟩
            have hkl : k < l.length := by omega
            have c1 := hr k hkl
            have hk1 : (i : Int) - 1 = (k : Int) := by omega
            have hk2 : (k : Int) < (l.length : Int) := by omega
            have hi1 : decide (0 < i) = true := decide_eq_true (by omega)
            have HK : Hid (i = k + 1) := hk
            obtain ⟨y, hy⟩ : ∃ y, y = l[k] := ⟨_, rfl⟩
            rw [← hy] at c1
            have HY : Hid (y = l[k]) := hy
            have HB3 : Hid (¬ y < x → chk l = false) := by
              show ¬ y < x → chk l = false
              intro hn
              exact HB2.out k hkl hk (by rw [← hy]; exact hn)
            clear hr hk hy HB2 hi0
            by_cases exy : x ≤ y
            · have ho : ok = false := by rw [HOK.out]; exact HB3.out (by omega)
              subst ho
              have d6 : decide (x ≤ y) = true := decide_eq_true exy
              clear HB1 HN e0 e5 exy
              go_wp2
              go_quiet (fail)
              go_wp2
              go_ret
              exact ⟨rfl, bel_drewN hbr _⟩
            · have d6 : decide (x ≤ y) = false := decide_eq_false exy
              have HNX : Hid (MayTo l (i + 1)) := HN.out (by omega) (fun k' hk' e => by
                have hi2 := HK.out
                obtain rfl : k' = k := by omega
                rw [← HY.out]
                omega)
              clear HB1 HN e0 e5 exy HB3
              go_wp2
              go_quiet (fail)
              go_wp2
              go_roundw
              case rel => exact ⟨i + 1, by go_num, by omega, HNX, bel_drewN hbr _⟩
              case measure => simp [intOf]; omega
          · have hi1 : decide (0 < i) = false := decide_eq_false (by omega)
            have HNX : Hid (MayTo l (i + 1)) := HN.out (by omega) (fun k' hk' e => by omega)
            clear HB1 HN e0 e5 HB2 hr hi0
            go_wp2
            go_quiet (fail)
            go_wp2
            go_roundw
            case rel => exact ⟨i + 1, by go_num, by omega, HNX, bel_drewN hbr _⟩
            case measure => simp [intOf]; omega
    · obtain rfl : i = l.length := by omega
      have HCH : Hid _ := hs.out.all
      clear hs
      go_wp2
      go_ret
      exact ⟨by rw [HOK.out, HCH.out]; rfl, hbr⟩

end Go.Proofs.Ytdoiknfpgmglaaa
