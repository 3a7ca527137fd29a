/-
  BloomMakes, walked.
-/
import Derived.Test.YtiingodillcleaaBRMk
namespace Go.Proofs.Ytiingodillcleaa
open Go.RowKit
attribute [local go_sem] size_bstr getElem_bstr toList_bstr

/-- What Make answers. -/
def mkS (ks : List (List UInt8)) (b : Int) : List UInt8 := if 1 ≤ b ∧ b ≤ 32 then mkF ks b.toNat else []
def mkE (b : Int) : Int := if 1 ≤ b ∧ b ≤ 32 then 0 else 2
theorem Make_both (q : Option Addr) (g off cap : Nat) (ks : List (List UInt8)) (b : Int) (w : World) (hq : SArg w q g off ks) (hn : ks.length ≤ 32768) (hkl : ∀ s ∈ ks, s.length ≤ 9223372036854775807) :
    Calls Try.prog 9 #[.slice q ks.length cap, .int .i64 b] w fun e w' => e = .returned (.tuple #[.string (bstr (mkS ks b)), .int .i64 (mkE b)]) ∧ Below w.heap.size w w' := by
  unfold mkS mkE
  by_cases h : 1 ≤ b ∧ b ≤ 32
  · obtain ⟨n, rfl⟩ : ∃ n : Nat, b = (n : Int) := ⟨b.toNat, by omega⟩
    rw [if_pos h, if_pos h, Int.toNat_natCast]
    exact Make_ok q g off cap ks n w hq (by omega) (by omega) hn hkl
  · rw [if_neg h, if_neg h]
    refine (Make_arg q ks.length cap b w (by omega)).mono ?_
    rintro e w' ⟨rfl, rfl⟩
    exact ⟨rfl, Below.refl _ _⟩
theorem RMake_both (q : Option Addr) (g off cap : Nat) (ks : List (List UInt8)) (b : Int) (w : World) (hq : SArg w q g off ks) (hn : ks.length ≤ 32768) (hkl : ∀ s ∈ ks, s.length ≤ 9223372036854775807) :
    Calls Try.prog 10 #[.slice q ks.length cap, .int .i64 b] w fun e w' => e = .returned (.tuple #[.string (bstr (mkS ks b)), .int .i64 (mkE b)]) ∧ Below w.heap.size w w' := by
  unfold mkS mkE
  by_cases h : 1 ≤ b ∧ b ≤ 32
  · obtain ⟨n, rfl⟩ : ∃ n : Nat, b = (n : Int) := ⟨b.toNat, by omega⟩
    rw [if_pos h, if_pos h, Int.toNat_natCast]
    exact RMake_ok q g off cap ks n w hq (by omega) (by omega) hn hkl
  · rw [if_neg h, if_neg h]
    refine (RMake_arg q ks.length cap b w (by omega)).mono ?_
    rintro e w' ⟨rfl, rfl⟩
    exact ⟨rfl, Below.refl _ _⟩

set_option maxHeartbeats 4000000 in
set_option maxRecDepth 100000 in
theorem Makes_any (q : Option Addr) (g off cap : Nat) (l : List (List UInt8)) (bt : Int) (w : World) (hq : SArg w q g off l) (hl : l.length ≤ 9223372036854775807) (hls : ∀ s ∈ l, s.length ≤ 9223372036854775807) :
    Calls Try.prog 3 #[.slice q l.length cap, .int .i64 bt] w fun e w' => e = .returned (.bool true) ∧ Below w.heap.size w w' := by
  have hcu := cut_any q g off cap l w hq hl hls
  have hk200 := cutK_length l
  have hsho : Hid (∀ s ∈ cutK l, s.length ≤ 9223372036854775807) := fun s hs => cutK_short hs
  go_enter Try.func3, Try.ntmps3
  go_wp2_with fail
  refine hcu.mono ?_
  rintro e w1 ⟨v, rfl, hown1, hbw1⟩
  obtain ⟨_, p1, cap1, g1, rfl, hc1, hs1⟩ := own_sarg hown1
  have hcu2 := cut_any q g off cap l w1 (hq.below hbw1) hl hls
  clear hcu hown1
  go_wp2_with fail
  refine hcu2.mono ?_
  rintro e w2 ⟨v, rfl, hown2, hbw2⟩
  obtain ⟨_, p2, cap2, g2, rfl, hc2, hs2⟩ := own_sarg hown2
  have hs12 := hs1.below hbw2
  have hbe2 := below2 hbw1 hbw2
  generalize cutK l = ks at *
  clear hcu2 hown2 hs1 hbw1 hbw2
  have hm1 := Make_both p1 g1 0 cap1 ks bt w2 hs12 (by omega) hsho.out
  go_wp2_with fail
  refine hm1.mono ?_
  rintro e w3 ⟨rfl, hb3⟩
  have hm2 := RMake_both p2 g2 0 cap2 ks bt w3 (hs2.below hb3) (by omega) hsho.out
  generalize mkS ks bt = FF at *
  generalize mkE bt = ee at *
  clear hm1
  go_wp2_with fail
  refine hm2.mono ?_
  rintro e w4 ⟨rfl, hb4⟩
  have hbe4 := below2 (below2 hbe2 hb3) hb4
  have hsa := (hs12.below hb3).below hb4
  have hsb := (hs2.below hb3).below hb4
  clear hm2 hs2 hs12 hb3 hb4 hbe2
  go_wp2_with fail
  go_loopw [11] (fun s11 wr => ∃ i : Nat, s11 = .int .i64 (i : Int) ∧ i ≤ ks.length ∧ Below w4.heap.size w4 wr) (fun s11 _ => ks.length - (intOf s11).toNat)
  case atStart => exact ⟨0, rfl, Nat.zero_le _, Below.refl _ _⟩
  case round =>
    obtain ⟨i, rfl, hil, hbel⟩ := hrel
    by_cases hlt : i < ks.length
    · have c1 : (i : Int) < (ks.length : Int) := by omega
      obtain ⟨rfl, hS1, _⟩ := (hsa.below hbel) (by omega)
      obtain ⟨rfl, hS2, _⟩ := (hsb.below hbel) (by omega)
      have cs1 := hS1 i hlt
      have cs2 := hS2 i hlt
      simp only [Nat.zero_add] at cs1 cs2
      generalize ks[i] = s at *
      clear hS1 hS2
      go_wp2_with fail
      go_region
      go_wp2
      go_roundw
      case rel => exact ⟨i + 1, by go_num, by omega, hbel.drew⟩
      case measure => simp [intOf]; omega
    · have c1 : ¬ (i : Int) < (ks.length : Int) := by omega
      have hwk := works9_any wr
      go_wp2_with fail
      refine hwk.mono ?_
      rintro e w9 ⟨rfl, hb9⟩
      go_wp2
      go_ret
      exact ⟨rfl, below2 (below2 hbe4 hbel) hb9⟩

end Go.Proofs.Ytiingodillcleaa
