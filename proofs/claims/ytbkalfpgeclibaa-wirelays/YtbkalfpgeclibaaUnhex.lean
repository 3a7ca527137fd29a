/-
  The contract of wire's 'Unhex', over this seat's translation.
-/
import Derived.Test.YtbkalfpgeclibaaHex
import Derived.Test.YtbkalfpgeclibaaShelf
import Derived.BigQuiet
namespace Go.Proofs.Ytbkalfpgeclibaa
open Go.RowKit
attribute [local go_sem] size_bstr getElem_bstr toList_bstr

/-- Where a byte stands among the digits; -1: nowhere. -/
def ib (c : Int) : Int := Lib.indexByte digits c.toNat.toUInt8

theorem ib_any (c : Int) (w : World) :
    Calls Try.prog 23 #[.string ⟨#[48, 49, 50, 51, 52, 53, 54, 55, 56, 57, 97, 98, 99, 100, 101, 102]⟩, .int .u8 c] w fun e w' => e = .returned (.int .i64 (ib c)) ∧ w' = w :=
  Try.strings_IndexByte ⟨#[48, 49, 50, 51, 52, 53, 54, 55, 56, 57, 97, 98, 99, 100, 101, 102]⟩ c w

theorem ib_eq (c : UInt8) : ib (c.toNat : Int) = if dg c < 16 then (dg c : Int) else -1 := by
  unfold ib
  rw [Int.toNat_natCast, show c.toNat.toUInt8 = c from by simp [Nat.toUInt8], indexByte_digits]

theorem dg_le (c : UInt8) : dg c ≤ 16 := by
  unfold dg
  split
  · omega
  · split <;> omega

theorem below_drewN {B : Nat} {a w : World} (h : Below B a w) (n : Nat) : Below B a (w.drewN n) := ⟨h.os, h.tape, h.output, h.size, h.block⟩
theorem ownsRow_drewN {w : World} {base e size n : Nat} {v : Value} {xs : List Value} (h : w.ownsRow base e size v n xs) (m : Nat) : (w.drewN m).ownsRow base e size v n xs := h
theorem wraps_i64' (n : Int) (h₀ : 0 ≤ n) (h₁ : n < 2 ^ 63) : IntKind.i64.wrap n = n := by
  have e : (2 : Int) ^ 63 = 9223372036854775808 := by decide
  rw [IntKind.wrap_i64]
  omega
theorem i64_or16 (x y : Nat) (hx : x < 16) (hy : y < 16) : bits .or .i64 ((x : Int) * 16) (y : Int) = (x : Int) * 16 + (y : Int) :=
  bits_join .i64 63 (by decide) wraps_i64' 4 ((x : Int) * 16) (y : Int) (by omega) (by omega) (by omega) (by omega) (by omega) (by omega)

/-- What is answered of an 'unhexOf'. -/
def unRet (o : Option (List UInt8)) : Value := .tuple #[.string (bstr (o.getD [])), .bool o.isSome]

set_option maxHeartbeats 1000000 in
set_option maxRecDepth 100000 in
theorem Unhex_any (l : List UInt8) (w : World) (hl : l.length ≤ 10000000000) :
    Calls Try.prog 7 #[.string (bstr l)] w fun e w' => e = .returned (unRet (unhexOf l)) ∧ Below w.heap.size w w' := by
  obtain ⟨i0, hi, hz0, hz1, hz2⟩ := info_parts Try.infoByte
  by_cases hev : l.length % 2 = 0
  · have hev1 : (((l.length : Int) % 2) != 0) = false := by rw [bne_eq_false_iff_eq]; omega
    go_enter Try.func7, Try.ntmps7
    go_wp2_with (at_make; refine wpList_make_own _ rfl _ _ 26 rfl w.heap.size 5 i0 (.int .u8 0) 1 Try.underlying26 hi hz0 hz1 .i64 .i64 ((l.length : Int) / 2) (l.length / 2) rfl rfl (by omega) (by rw [hz2]; omega) (by unfold maxLen; omega) (Nat.le_refl _) ?_)
    intro w1 hown1 hgrow1
    have hb1 : Below w.heap.size w w1 := (Below.refl _ w).grown hgrow1 (Nat.le_refl _) (fun k hk => by cases hk)
    clear hgrow1
    go_wp2
    go_loopw [4, 5] (fun vo vi wr => ∃ (k : Nat) (t : List UInt8), vi = .int .i64 (2 * (k : Int)) ∧ 2 * k ≤ l.length ∧ t.length = k ∧ wr.ownsRow w.heap.size 5 1 vo k (Lib.byteCells t) ∧ Below w.heap.size w wr ∧ Hid (unhexOf l = (unhexOf (l.drop (2 * k))).map (t ++ ·)))
      (fun _ vi _ => l.length - (intOf vi).toNat)
    case atStart => exact ⟨0, [], rfl, by omega, rfl, hown1, hb1, by show unhexOf l = _; simp⟩
    case round =>
      obtain ⟨k, t, rfl, hk, htl, hown, hbel, HU⟩ := hrel
      clear hown1 hb1
      by_cases hlt : 2 * k < l.length
      · have hlt2 : 2 * k + 1 < l.length := by omega
        have hnx := unhexOf_next hlt2
        have ea := ib_eq (l[2 * k])
        have ec := ib_eq (l[2 * k + 1])
        have da := dg_le (l[2 * k])
        have dc := dg_le (l[2 * k + 1])
        have hia : ∀ w : World, (Instr.index 9 (.string (bstr l)) (.int .i64 (2 * (k : Int)))).run Try.prog w = .ok (.int .u8 ((l[2 * k]).toNat : Int)) w := by
          intro w
          have := run_at 9 l .i64 (2 * k) w Try.underlying9 hlt
          simpa using this
        have hic : ∀ w : World, (Instr.index 9 (.string (bstr l)) (.int .i64 (2 * (k : Int) + 1))).run Try.prog w = .ok (.int .u8 ((l[2 * k + 1]).toNat : Int)) w := by
          intro w
          have := run_at 9 l .i64 (2 * k + 1) w Try.underlying9 hlt2
          simpa using this
        generalize l[2 * k] = a at *
        generalize l[2 * k + 1] = c at *
        have HX : Hid (unhexOf (l.drop (2 * k)) = if dg a < 16 ∧ dg c < 16 then (unhexOf (l.drop (2 * k + 2))).map fun t => (dg a * 16 + dg c).toUInt8 :: t else none) := hnx
        clear hnx
        have hk1 : (2 * (k : Int)) < (l.length : Int) := by omega
        generalize dg a = x at *
        generalize dg c = y at *
        by_cases hx : x < 16
        · rw [if_pos hx] at ea
          by_cases hy : y < 16
          · rw [if_pos hy] at ec
            have HN : Hid (unhexOf l = (unhexOf (l.drop (2 * (k + 1)))).map ((t ++ [(x * 16 + y).toUInt8]) ++ ·)) := by
              show unhexOf l = _
              rw [HU.out, HX.out, if_pos ⟨hx, hy⟩, Option.map_map]
              congr 1
              funext q
              simp
            have hor : bits .or .i64 ((x : Int) * 16) (y : Int) = (x : Int) * 16 + (y : Int) := i64_or16 x y hx hy
            clear HX HU da dc
            go_wp2_with fail
            go_quiet ((go_at_call 23; exact Calls.quiet_of_same (ib_any _ _)))
            go_wp2_with (at_builtin; refine wpList_append_own _ rfl _ _ 26 rfl w.heap.size 5 i0 (.int .u8 0) 1 1 Try.underlying26 hi hz0 hz1 hz2 rfl (by decide) _ k (Lib.byteCells t) rfl ?cown ⟨wr.heap.size, 0, none⟩ 1 1 [Value.int .u8 ((x : Int) * 16 + (y : Int))] rfl rfl ?c1 ?c2 ?c3 ?c4 ?c5 ?_)
            case cown => exact (ownsRow_drewN hown _).alloc _
            case c1 => exact World.news_of_block (cs := #[Value.int .u8 ((x : Int) * 16 + (y : Int))]) (t := 5) (fr := (0, 0)) (heap_alloc_new (wr.drewN nq) _)
            case c2 => intro u hu; simp at hu; subst hu; rfl
            case c3 => unfold maxLen; omega
            case c4 => omega
            case c5 => have := hbel.size; simp; omega
            intro v' w2 hown2 hgrow2 _
            have hb2 : Below w.heap.size w w2 := ((below_drewN hbel nq).alloc hbel.size _).grown hgrow2 (by have := hbel.size; simp; omega) (fun k hk => (hown.lt k hk).1)
            have R : w2.ownsRow w.heap.size 5 1 v' (k + 1) (Lib.byteCells (t ++ [(x * 16 + y).toUInt8])) := by
              rw [Lib.byteCells_snoc t (by omega), show ((x * 16 + y : Nat) : Int) = (x : Int) * 16 + (y : Int) from by omega]
              exact hown2
            clear hown2 hgrow2 hown
            go_wp2
            go_roundw
            case rel => exact ⟨k + 1, t ++ [(x * 16 + y).toUInt8], by go_num, by omega, by simp [htl], R, hb2, HN⟩
            case measure => simp [intOf]; omega
          · rw [if_neg hy] at ec
            have HN : Hid (unhexOf l = none) := by
              show unhexOf l = _
              rw [HU.out, HX.out, if_neg (by omega)]
              rfl
            clear HX HU da dc
            go_wp2_with fail
            go_quiet ((go_at_call 23; exact Calls.quiet_of_same (ib_any _ _)))
            go_wp2
            go_ret2
            exact ⟨by rw [HN.out]; rfl, below_drewN hbel _⟩
        · rw [if_neg hx] at ea
          have HN : Hid (unhexOf l = none) := by
            show unhexOf l = _
            rw [HU.out, HX.out, if_neg (by omega)]
            rfl
          clear HX HU da dc
          go_wp2_with fail
          go_quiet ((go_at_call 23; exact Calls.quiet_of_same (ib_any _ _)))
          go_wp2
          go_ret2
          exact ⟨by rw [HN.out]; rfl, below_drewN hbel _⟩
      · have hkl : l.length = 2 * k := by omega
        have HN : Hid (unhexOf l = some t) := by
          show unhexOf l = _
          rw [HU.out, List.drop_of_length_le (by omega)]
          simp [unhexOf]
        clear HU
        have hkl' : ¬ (2 * (k : Int)) < (l.length : Int) := by omega
        clear hkl
        have hcv := run_convert_own (P := Try.prog) (src := 26) (dst := 9) hown Try.underlying26 Try.underlying5 Try.underlying9
        clear hown
        go_wp2
        go_ret2
        exact ⟨by rw [HN.out]; rfl, hbel⟩
  · have hev1 : (((l.length : Int) % 2) != 0) = true := by rw [bne_iff_ne]; omega
    have HN : Hid (unhexOf l = none) := unhexOf_even l hev
    go_enter Try.func7, Try.ntmps7
    go_wp2
    go_ret2
    exact ⟨by rw [HN.out]; rfl, Below.refl _ _⟩

theorem Unhex_some (l t : List UInt8) (w : World) (hl : l.length ≤ 10000000000) (h : unhexOf l = some t) :
    Calls Try.prog 7 #[.string (bstr l)] w fun e w' => e = .returned (.tuple #[.string (bstr t), .bool true]) ∧ Below w.heap.size w w' :=
  (Unhex_any l w hl).mono fun e w' hh => ⟨by rw [hh.1, h]; rfl, hh.2⟩
theorem Unhex_none (l : List UInt8) (w : World) (hl : l.length ≤ 10000000000) (h : unhexOf l = none) :
    Calls Try.prog 7 #[.string (bstr l)] w fun e w' => e = .returned (.tuple #[.string (bstr []), .bool false]) ∧ Below w.heap.size w w' :=
  (Unhex_any l w hl).mono fun e w' hh => ⟨by rw [hh.1, h]; rfl, hh.2⟩

end Go.Proofs.Ytbkalfpgeclibaa
