/-
  The contract of wire's 'Hex', over this seat's translation.
-/
import Derived.Test.YtbkalfpgeclibaaAid
import Derived.Test.YtbkalfpgeclibaaHexFn
import Derived.Deep.RegionHeld3
import Derived.Deep.AppendLies
namespace Go.Proofs.Ytbkalfpgeclibaa
open Go.RowKit
attribute [local go_sem] size_bstr getElem_bstr toList_bstr

theorem run_at {P : Program} (t : TypeId) (l : List UInt8) (k : IntKind) (i : Nat) (w : World) (h : P.underlying t = some .string) (hi : i < l.length) :
    (Instr.index t (.string (bstr l)) (.int k (i : Int))).run P w = .ok (.int .u8 ((l[i]'hi).toNat : Int)) w := by
  rw [run_index_string w t (bstr l) k i h, dif_pos ⟨by omega, by rw [size_bstr]; omega⟩]
  rfl

theorem run_digit (n : Nat) (w : World) (h : n < 16) : (Instr.index 9 (.string ⟨#[48, 49, 50, 51, 52, 53, 54, 55, 56, 57, 97, 98, 99, 100, 101, 102]⟩) (.int .u8 (n : Int))).run Try.prog w = .ok (.int .u8 ((hx n).toNat : Int)) w := by
  have := run_at (P := Try.prog) 9 digits .u8 n w Try.underlying9 h
  have e : digits[n]'h = hx n := by
    have := digits_at n h
    rw [List.getElem?_eq_getElem (show n < digits.length from h)] at this
    exact Option.some.inj this
  rw [e] at this
  exact this

set_option maxHeartbeats 1000000 in
set_option maxRecDepth 100000 in
theorem Hex_any (l : List UInt8) (w : World) (hl : l.length ≤ 10000000000) :
    Calls Try.prog 14 #[.string (bstr l)] w fun e w' => e = .returned (.string (bstr (hexOf l))) ∧ Below w.heap.size w w' := by
  obtain ⟨i0, hi, hz0, hz1, hz2⟩ := info_parts Try.infoByte
  go_enter Try.func14, Try.ntmps14
  go_wp2_with (at_make; refine wpList_make_own _ rfl _ _ 26 rfl w.heap.size 5 i0 (.int .u8 0) 1 Try.underlying26 hi hz0 hz1 .i64 .i64 (2 * (l.length : Int)) (2 * l.length) rfl rfl (by omega) (by rw [hz2]; omega) (by unfold maxLen; omega) (Nat.le_refl _) ?_)
  intro w1 hown1 hgrow1
  have hb1 : Below w.heap.size w w1 := (Below.refl _ w).grown hgrow1 (Nat.le_refl _) (fun k hk => by cases hk)
  clear hgrow1
  go_wp2
  go_loopw [3, 11] (fun vo vi wr => ∃ k : Nat, vi = .int .i64 k ∧ k ≤ l.length ∧ wr.ownsRow w.heap.size 5 1 vo (2 * k) (Lib.byteCells (hexOf (l.take k))) ∧ Below w.heap.size w wr)
    (fun _ vi _ => l.length - (intOf vi).toNat)
  case atStart => exact ⟨0, rfl, by omega, hown1, hb1⟩
  case round =>
    obtain ⟨k, rfl, hk, hown, hbel⟩ := hrel
    clear hown1 hb1
    by_cases hlt : k < l.length
    · have hlt' : (k : Int) < (l.length : Int) := by omega
      have hk0 : (0 : Int) ≤ (k : Int) := by omega
      obtain ⟨b, hb⟩ : ∃ b : Nat, b = (l[k]'hlt).toNat := ⟨_, rfl⟩
      have hb256 : b < 256 := by rw [hb]; exact UInt8.toNat_lt _
      have hq0 : (0 : Int) ≤ (b : Int) / 16 := by omega
      have hq1 : (b : Int) / 16 < 16 := by omega
      have hr0 : (0 : Int) ≤ (b : Int) % 16 := by omega
      have hr1 : (b : Int) % 16 < 16 := by omega
      have hix : ∀ w : World, (Instr.index 9 (.string (bstr l)) (.int .i64 (k : Int))).run Try.prog w = .ok (.int .u8 (b : Int)) w := by
        intro w
        rw [hb]
        exact run_at 9 l .i64 k w Try.underlying9 hlt
      have hd1 : ∀ w : World, (Instr.index 9 (.string ⟨#[48, 49, 50, 51, 52, 53, 54, 55, 56, 57, 97, 98, 99, 100, 101, 102]⟩) (.int .u8 ((b : Int) / 16))).run Try.prog w = .ok (.int .u8 ((hx (b / 16)).toNat : Int)) w := by
        intro w
        exact run_digit (b / 16) w (by omega)
      have hd2 : ∀ w : World, (Instr.index 9 (.string ⟨#[48, 49, 50, 51, 52, 53, 54, 55, 56, 57, 97, 98, 99, 100, 101, 102]⟩) (.int .u8 ((b : Int) % 16))).run Try.prog w = .ok (.int .u8 ((hx (b % 16)).toNat : Int)) w := by
        intro w
        exact run_digit (b % 16) w (by omega)
      have hand : bits .and .u8 (b : Int) 15 = (b : Int) % 16 := bits_mask .u8 8 (by decide) wraps_u8 4 (by decide) (b : Int) (by omega) (by omega)
      have HB : Hid (b = (l[k]'hlt).toNat) := hb
      clear hb
      go_wp2_with fail
      go_region_held3 (fun _ => True) (trivial) ((refine step_append_lies _ (by rfl) _ _ _ (by rfl) w.heap.size 5 i0 _ 1 1 Try.underlying26 hi hz0 hz1 hz2 rfl (by omega) _ (2 * k) (Lib.byteCells (hexOf (l.take k))) (by rfl) ((hown.alloc _).drew) ⟨wr.heap.size, 0, none⟩ 2 2 [.int .u8 ((hx (b / 16)).toNat : Int), .int .u8 ((hx (b % 16)).toNat : Int)] (by rfl) (by rfl) (World.news_of_block (cs := #[.int .u8 ((hx (b / 16)).toNat : Int), .int .u8 ((hx (b % 16)).toNat : Int)]) (t := 5) (fr := (0, 0)) (heap_alloc_new wr _)) (by simp [Value.oneCell']) (by omega) (by unfold maxLen; omega) (by omega) (by have := hbel.size; simp; omega) (wr.heap.size + 1) (by simp) ?_; intro gg cap w2 hown2 hgrow2 hat2 hlt2))
      all_goals
        have hb2 : Below w.heap.size w w2 := (((hbel.alloc hbel.size _).drew).grown hgrow2 (by have := hbel.size; simp; omega) (fun k hk => (hown.lt k hk).1))
        have R : w2.ownsRow w.heap.size 5 1 (.slice (some ⟨gg, 0, none⟩) (2 * k + 2) cap) (2 * (k + 1)) (Lib.byteCells (hexOf (l.take (k + 1)))) := by
          rw [take_next hlt, ← HB.out, byteCells_append]
          exact hown2
        clear hown2 hgrow2 hown
        go_wp2
        go_roundw
        case rel => exact ⟨k + 1, by go_num, by omega, R, hb2⟩
        case measure => simp [intOf]; omega
    · have hkl : k = l.length := by omega
      subst hkl
      rw [List.take_length] at hown
      have hcv := run_convert_own (P := Try.prog) (src := 26) (dst := 9) hown Try.underlying26 Try.underlying5 Try.underlying9
      clear hown
      go_wp2
      go_ret
      exact ⟨rfl, hbel⟩

end Go.Proofs.Ytbkalfpgeclibaa
