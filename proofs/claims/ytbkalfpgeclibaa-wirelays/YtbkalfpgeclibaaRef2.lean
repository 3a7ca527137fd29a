/-
  The contracts of the document's digits (Hex, Unhex), over this seat's translation.
-/
import Derived.Test.YtbkalfpgeclibaaRef
namespace Go.Proofs.Ytbkalfpgeclibaa
open Go.RowKit
attribute [local go_sem] size_bstr getElem_bstr toList_bstr

set_option maxHeartbeats 1000000 in
set_option maxRecDepth 100000 in
theorem RHex_any (l : List UInt8) (w : World) (hl : l.length ≤ 10000000000) :
    Calls Try.prog 15 #[.string (bstr l)] w fun e w' => e = .returned (.string (bstr (hexOf l))) ∧ Below w.heap.size w w' := by
  obtain ⟨i0, hi, hz0, hz1, hz2⟩ := info_parts Try.infoByte
  go_enter Try.func15, Try.ntmps15
  go_wp2
  go_loopw [3, 4] (fun vo vi wr => ∃ k : Nat, vi = .int .i64 k ∧ k ≤ l.length ∧ wr.ownsRow w.heap.size 5 1 vo (2 * k) (Lib.byteCells (hexOf (l.take k))) ∧ Below w.heap.size w wr)
    (fun _ vi _ => l.length - (intOf vi).toNat)
  case atStart => exact ⟨0, rfl, by omega, World.ownsRow_nil _ _ _ _, Below.refl _ _⟩
  case round =>
    obtain ⟨k, rfl, hk, hown, hbel⟩ := hrel
    by_cases hlt : k < l.length
    · have hlt' : (k : Int) < (l.length : Int) := by omega
      have hk0 : (0 : Int) ≤ (k : Int) := by omega
      obtain ⟨b, hb⟩ : ∃ b : Nat, b = (l[k]'hlt).toNat := ⟨_, rfl⟩
      have hb256 : b < 256 := by rw [hb]; exact UInt8.toNat_lt _
      have hq0 : (0 : Int) ≤ (b : Int) / 16 := by omega
      have hq1 : (b : Int) / 16 < 16 := by omega
      have hr0 : (0 : Int) ≤ (b : Int) % 16 := by omega
      have hr1 : (b : Int) % 16 < 16 := by omega
      have hix : ∀ w : World, (Instr.index 9 (.string (bstr l)) (.int .i64 (k : Int))).run Try.prog w = .ok (.int .u8 (b : Int)) w := by
        intro w
        rw [hb]
        exact run_at 9 l .i64 k w Try.underlying9 hlt
      have hd1 : ∀ w : World, (Instr.index 9 (.string ⟨#[48, 49, 50, 51, 52, 53, 54, 55, 56, 57, 97, 98, 99, 100, 101, 102]⟩) (.int .u8 ((b : Int) / 16))).run Try.prog w = .ok (.int .u8 ((hx (b / 16)).toNat : Int)) w := by
        intro w
        exact run_digit (b / 16) w (by omega)
      have hd2 : ∀ w : World, (Instr.index 9 (.string ⟨#[48, 49, 50, 51, 52, 53, 54, 55, 56, 57, 97, 98, 99, 100, 101, 102]⟩) (.int .u8 ((b : Int) % 16))).run Try.prog w = .ok (.int .u8 ((hx (b % 16)).toNat : Int)) w := by
        intro w
        exact run_digit (b % 16) w (by omega)
      have htd : (b : Int).tdiv 16 = (b : Int) / 16 := Int.tdiv_eq_ediv_of_nonneg (by omega)
      have htm : (b : Int).tmod 16 = (b : Int) % 16 := Int.tmod_eq_emod_of_nonneg (by omega)
      have hwq : IntKind.u8.wrap ((b : Int) / 16) = (b : Int) / 16 := wraps_u8 _ (by omega) (by omega)
      have hand : bits .and .u8 (b : Int) 15 = (b : Int) % 16 := bits_mask .u8 8 (by decide) wraps_u8 4 (by decide) (b : Int) (by omega) (by omega)
      have HB : Hid (b = (l[k]'hlt).toNat) := hb
      clear hb
      go_wp2_with fail
      go_region_held3 (fun _ => True) (trivial) ((refine step_append_lies _ (by rfl) _ _ _ (by rfl) w.heap.size 5 i0 _ 1 1 Try.underlying26 hi hz0 hz1 hz2 rfl (by omega) _ (2 * k) (Lib.byteCells (hexOf (l.take k))) (by rfl) ((hown.alloc _).drew) ⟨wr.heap.size, 0, none⟩ 2 2 [.int .u8 ((hx (b / 16)).toNat : Int), .int .u8 ((hx (b % 16)).toNat : Int)] (by rfl) (by rfl) (World.news_of_block (cs := #[.int .u8 ((hx (b / 16)).toNat : Int), .int .u8 ((hx (b % 16)).toNat : Int)]) (t := 5) (fr := (0, 0)) (heap_alloc_new wr _)) (by simp [Value.oneCell']) (by omega) (by unfold maxLen; omega) (by omega) (by have := hbel.size; simp; omega) (wr.heap.size + 1) (by simp) ?_; intro gg cap w2 hown2 hgrow2 hat2 hlt2))
      all_goals
        have hb2 : Below w.heap.size w w2 := (((hbel.alloc hbel.size _).drew).grown hgrow2 (by have := hbel.size; simp; omega) (fun k hk => (hown.lt k hk).1))
        have R : w2.ownsRow w.heap.size 5 1 (.slice (some ⟨gg, 0, none⟩) (2 * k + 2) cap) (2 * (k + 1)) (Lib.byteCells (hexOf (l.take (k + 1)))) := by
          rw [take_next hlt, ← HB.out, byteCells_append]
          exact hown2
        clear hown2 hgrow2 hown
        go_wp2
        go_roundw
        case rel => exact ⟨k + 1, by go_num, by omega, R, hb2⟩
        case measure => simp [intOf]; omega
    · have hkl : k = l.length := by omega
      subst hkl
      rw [List.take_length] at hown
      have hcv := run_convert_own (P := Try.prog) (src := 26) (dst := 9) hown Try.underlying26 Try.underlying5 Try.underlying9
      clear hown
      go_wp2
      go_ret
      exact ⟨rfl, hbel⟩

set_option maxHeartbeats 1000000 in
set_option maxRecDepth 100000 in
theorem RUnhex_any (l : List UInt8) (w : World) (hl : l.length ≤ 10000000000) :
    Calls Try.prog 8 #[.string (bstr l)] w fun e w' => e = .returned (unRet (unhexOf l)) ∧ Below w.heap.size w w' := by
  obtain ⟨i0, hi, hz0, hz1, hz2⟩ := info_parts Try.infoByte
  by_cases hev : l.length % 2 = 0
  · have hev1 : (((l.length : Int) % 2) != 0) = false := by rw [bne_eq_false_iff_eq]; omega
    go_enter Try.func8, Try.ntmps8
    go_wp2
    go_loopw [4, 5] (fun vo vi wr => ∃ (k : Nat) (t : List UInt8), vi = .int .i64 (2 * (k : Int)) ∧ 2 * k ≤ l.length ∧ t.length = k ∧ wr.ownsRow w.heap.size 5 1 vo k (Lib.byteCells t) ∧ Below w.heap.size w wr ∧ Hid (unhexOf l = (unhexOf (l.drop (2 * k))).map (t ++ ·)))
      (fun _ vi _ => l.length - (intOf vi).toNat)
    case atStart => exact ⟨0, [], rfl, by omega, rfl, World.ownsRow_nil _ _ _ _, Below.refl _ _, by show unhexOf l = _; simp⟩
    case round =>
      obtain ⟨k, t, rfl, hk, htl, hown, hbel, HU⟩ := hrel
      by_cases hlt : 2 * k < l.length
      · have hlt2 : 2 * k + 1 < l.length := by omega
        have hnx := unhexOf_next hlt2
        have da := dg_le (l[2 * k])
        have dc := dg_le (l[2 * k + 1])
        have hia : ∀ w : World, (Instr.index 9 (.string (bstr l)) (.int .i64 (2 * (k : Int)))).run Try.prog w = .ok (.int .u8 ((l[2 * k]).toNat : Int)) w := by
          intro w
          have := run_at 9 l .i64 (2 * k) w Try.underlying9 hlt
          simpa using this
        have hic : ∀ w : World, (Instr.index 9 (.string (bstr l)) (.int .i64 (2 * (k : Int) + 1))).run Try.prog w = .ok (.int .u8 ((l[2 * k + 1]).toNat : Int)) w := by
          intro w
          have := run_at 9 l .i64 (2 * k + 1) w Try.underlying9 hlt2
          simpa using this
        generalize l[2 * k] = a at *
        generalize l[2 * k + 1] = c at *
        have HX : Hid (unhexOf (l.drop (2 * k)) = if dg a < 16 ∧ dg c < 16 then (unhexOf (l.drop (2 * k + 2))).map fun t => (dg a * 16 + dg c).toUInt8 :: t else none) := hnx
        clear hnx
        have hk1 : (2 * (k : Int)) < (l.length : Int) := by omega
        obtain ⟨x, ea⟩ : ∃ x, dg a = x := ⟨_, rfl⟩
        obtain ⟨y, ec⟩ : ∃ y, dg c = y := ⟨_, rfl⟩
        rw [ea, ec] at HX
        rw [ea] at da
        rw [ec] at dc
        by_cases hx : x < 16
        · by_cases hy : y < 16
          · have HN : Hid (unhexOf l = (unhexOf (l.drop (2 * (k + 1)))).map ((t ++ [(x * 16 + y).toUInt8]) ++ ·)) := by
              show unhexOf l = _
              rw [HU.out, HX.out, if_pos ⟨hx, hy⟩, Option.map_map]
              congr 1
              funext q
              simp
            clear HX HU da dc
            go_wp2_with fail
            go_quiet ((go_at_call 24; exact Calls.quiet_of_same (Rhalf_any _ _)))
            go_wp2_with (at_builtin; refine wpList_append_own _ rfl _ _ 26 rfl w.heap.size 5 i0 (.int .u8 0) 1 1 Try.underlying26 hi hz0 hz1 hz2 rfl (by decide) _ k (Lib.byteCells t) rfl ?cown ⟨wr.heap.size, 0, none⟩ 1 1 [Value.int .u8 ((x : Int) * 16 + (y : Int))] rfl rfl ?c1 ?c2 ?c3 ?c4 ?c5 ?_)
            case cown => exact (ownsRow_drewN hown _).alloc _
            case c1 => exact World.news_of_block (cs := #[Value.int .u8 ((x : Int) * 16 + (y : Int))]) (t := 5) (fr := (0, 0)) (heap_alloc_new (wr.drewN nq) _)
            case c2 => intro u hu; simp at hu; subst hu; rfl
            case c3 => unfold maxLen; omega
            case c4 => omega
            case c5 => have := hbel.size; simp; omega
            intro v' w2 hown2 hgrow2 _
            have hb2 : Below w.heap.size w w2 := ((below_drewN hbel nq).alloc hbel.size _).grown hgrow2 (by have := hbel.size; simp; omega) (fun k hk => (hown.lt k hk).1)
            have R : w2.ownsRow w.heap.size 5 1 v' (k + 1) (Lib.byteCells (t ++ [(x * 16 + y).toUInt8])) := by
              rw [Lib.byteCells_snoc t (by omega), show ((x * 16 + y : Nat) : Int) = (x : Int) * 16 + (y : Int) from by omega]
              exact hown2
            clear hown2 hgrow2 hown
            go_wp2
            go_roundw
            case rel => exact ⟨k + 1, t ++ [(x * 16 + y).toUInt8], by go_num, by omega, by simp [htl], R, hb2, HN⟩
            case measure => simp [intOf]; omega
          · have HN : Hid (unhexOf l = none) := by
              show unhexOf l = _
              rw [HU.out, HX.out, if_neg (by omega)]
              rfl
            clear HX HU da dc
            go_wp2_with fail
            go_quiet ((go_at_call 24; exact Calls.quiet_of_same (Rhalf_any _ _)))
            go_wp2
            go_ret2
            exact ⟨by rw [HN.out]; rfl, below_drewN hbel _⟩
        · have HN : Hid (unhexOf l = none) := by
            show unhexOf l = _
            rw [HU.out, HX.out, if_neg (by omega)]
            rfl
          clear HX HU da dc
          go_wp2_with fail
          go_quiet ((go_at_call 24; exact Calls.quiet_of_same (Rhalf_any _ _)))
          go_wp2
          go_ret2
          exact ⟨by rw [HN.out]; rfl, below_drewN hbel _⟩
      · have hkl : l.length = 2 * k := by omega
        have HN : Hid (unhexOf l = some t) := by
          show unhexOf l = _
          rw [HU.out, List.drop_of_length_le (by omega)]
          simp [unhexOf]
        clear HU
        have hkl' : ¬ (2 * (k : Int)) < (l.length : Int) := by omega
        clear hkl
        have hcv := run_convert_own (P := Try.prog) (src := 26) (dst := 9) hown Try.underlying26 Try.underlying5 Try.underlying9
        clear hown
        go_wp2
        go_ret2
        exact ⟨by rw [HN.out]; rfl, hbel⟩
  · have hev1 : (((l.length : Int) % 2) != 0) = true := by rw [bne_iff_ne]; omega
    have HN : Hid (unhexOf l = none) := unhexOf_even l hev
    go_enter Try.func8, Try.ntmps8
    go_wp2
    go_ret2
    exact ⟨by rw [HN.out]; rfl, Below.refl _ _⟩

end Go.Proofs.Ytbkalfpgeclibaa
