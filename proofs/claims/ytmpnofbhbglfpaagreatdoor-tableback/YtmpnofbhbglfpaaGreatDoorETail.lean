/-
  The contracts of block.tail and block.bodyEnd.
-/
import Derived.Test.YtmpnofbhbglfpaaGreatDoorGELay
import Derived.Laws.BitsAllLaws
namespace Go.Proofs.YtmpnofbhbglfpaaGreatDoor
open Go.RowKit Go.BigFrame Go.Sort
attribute [local go_sem] size_bstr getElem_bstr toList_bstr

/-- A row of numbers. -/
def nCells (ws : List Nat) : List Value := ws.map fun n => Value.int .i64 ((n : Nat) : Int)
def NRow (W : World) (b off : Nat) (ws : List Nat) : Prop := ∀ i (hi : i < ws.length), W.cell? ⟨b, off + i, none⟩ = some (.int .i64 ((ws[i] : Nat) : Int))
theorem NRow.step {W W' : World} {b off : Nat} {ws : List Nat} {B : Nat} (h : NRow W b off ws) (hb : RowKit.Below B W W') (hB : b < B) : NRow W' b off ws := fun i hi => by rw [(bcell hb).1 _ _ hB]; exact h i hi
theorem i64_or2 (a b : UInt8) : bits .or .i64 ((a.toNat : Int) * 256) (b.toNat : Int) = (rd2 a b : Int) := by
  have ha := a.toNat_lt
  have hb := b.toNat_lt
  have j : (a.toNat * 2 ^ 8) ||| b.toNat = a.toNat * 2 ^ 8 + b.toNat := by rw [← Nat.shiftLeft_eq, Nat.shiftLeft_add_eq_or_of_lt (by omega)]
  rw [show (a.toNat : Int) * 256 = ((a.toNat * 2 ^ 8 : Nat) : Int) by omega]
  show IntKind.i64.wrap ((BitVec.ofInt 64 ((a.toNat * 2 ^ 8 : Nat) : Int) ||| BitVec.ofInt 64 (b.toNat : Int)).toNat : Int) = _
  rw [BitVec.toNat_or, ofInt_u64 _ (by omega), ofInt_u64 _ (by omega), j]
  unfold rd2
  simp [IntKind.wrap, IntKind.bits, IntKind.signed]
  omega

theorem two_cells {p : Nat} (h : p < 65536) : [Value.int .u8 ((p : Int) / 256), Value.int .u8 ((p : Int) % 256)] = Lib.byteCells (be2 p) := by
  unfold be2 Lib.byteCells
  simp only [List.map_cons, List.map_nil]
  rw [show (p / 256 % 256).toUInt8.toNat = p / 256 % 256 by simp [Nat.toUInt8], show (p % 256).toUInt8.toNat = p % 256 by simp [Nat.toUInt8], show ((p / 256 % 256 : Nat) : Int) = (p : Int) / 256 by omega, show ((p % 256 : Nat) : Int) = (p : Int) % 256 by omega]
theorem two_news (wr : World) (u v : Value) (t : TypeId) : ∀ j x, [u, v][j]? = some x → (wr.alloc (.cells #[u, v] t)).cell? ((⟨wr.heap.size, 0, none⟩ : Addr).add j) = some x := by
  intro j x hj
  match j, hj with
  | 0, hj => simp at hj; subst hj; simp [Addr.add]
  | 1, hj => simp at hj; subst hj; simp [Addr.add]
theorem two_one (a b : Int) : ∀ u ∈ [Value.int .u8 a, Value.int .u8 b], u.oneCell' = true := by
  intro u hu
  simp at hu
  rcases hu with rfl | rfl <;> rfl
/-- What bodyEnd answers. -/
def endP (s : List UInt8) (b : Bool) (n : Int) : Prop := (b = true ↔ 2 ≤ s.length ∧ s.length ≤ 32768 ∧ tl2 s ≤ s.length) ∧ (b = true → n = (s.length : Int) - (tl2 s : Int))
def endQ (s : List UInt8) (e : Ending) : Prop := ∃ b : Bool, ∃ n : Int, e = .returned (.tuple #[.int .i64 n, .bool b]) ∧ endP s b n

set_option maxHeartbeats 1000000 in
set_option maxRecDepth 100000 in
theorem bodyEnd_any (s : List UInt8) (w : World) (hs : s.length ≤ 9223372036854775807) :
    Calls Tryz.prog 116 #[.string (bstr s)] w fun e w' => endQ s e ∧ RowKit.Below w.heap.size w w' := by
  have hts := fun W => tailSize_any 0 W (by omega)
  simp only [Nat.mul_zero, Nat.zero_add] at hts
  go_enter Tryz.func116, Tryz.ntmps116
  go_wp2_with fail
  refine (hts _).mono ?_
  rintro e w1 ⟨rfl, rfl⟩
  by_cases h2 : s.length < 2
  · go_wp2
    go_ret2
    exact ⟨⟨false, 0, rfl, ⟨(fun h => by cases h), (fun h => by omega)⟩, (fun h => by cases h)⟩, RowKit.Below.refl _ _⟩
  · by_cases h3 : 32768 < s.length
    · go_wp2
      go_ret2
      exact ⟨⟨false, 0, rfl, ⟨(fun h => by cases h), (fun h => by omega)⟩, (fun h => by cases h)⟩, RowKit.Below.refl _ _⟩
    · have ht := tl2_get (s := s) (by omega)
      have i1 : (s.length : Int) - 2 = ((s.length - 2 : Nat) : Int) := by omega
      have i2 : (s.length : Int) - 1 = ((s.length - 1 : Nat) : Int) := by omega
      have g1 : s.length - 2 < s.length := by omega
      have g2 : s.length - 1 < s.length := by omega
      have ho := i64_or2 (s[s.length - 2]'g1) (s[s.length - 1]'g2)
      have hrd : rd2 (s[s.length - 2]'g1) (s[s.length - 1]'g2) < 65536 := by
        have := (s[s.length - 2]'g1).toNat_lt
        have := (s[s.length - 1]'g2).toNat_lt
        unfold rd2
        omega
      have HT : Hid _ := ht
      have hts2 : ∀ W, Calls Tryz.prog 96 #[.int .i64 (rd2 (s[s.length - 2]'g1) (s[s.length - 1]'g2) : Int)] W fun e w' => e = .returned (.int .i64 ((2 * rd2 (s[s.length - 2]'g1) (s[s.length - 1]'g2) + 2 : Nat) : Int)) ∧ RowKit.Below W.heap.size W w' := by
        intro W
        refine (tailSize_any _ W (by omega)).mono ?_
        rintro e w' ⟨rfl, rfl⟩
        exact ⟨rfl, RowKit.Below.refl _ _⟩
      have b1 := (s[s.length - 2]'g1).toNat_lt
      have b2 := (s[s.length - 1]'g2).toNat_lt
      clear ht hts
      generalize hxa : s[s.length - 2]'g1 = xa at *
      generalize hxb : s[s.length - 1]'g2 = xb at *
      generalize rd2 xa xb = n at *
      go_wp2_with fail
      refine wp_region_quiet_below (by kernel_rfl) (by kernel_rfl) ?_
      repeat (go_big_quiet_step (first | (go_at_call 96; with_reducible exact Calls.regrown_of (hts2 _))))
      refine wpQuiet_nil ?_
      intro _ hw'
      obtain ⟨⟨dq, osq⟩, hw''⟩ := hw'
      subst hw''
      have hb2 := below_regrown w1 dq osq
      generalize grow (redrawn w1 dq) osq = w2 at *
      go_wp2
      go_ret2
      refine ⟨⟨decide (2 * (n : Int) + 2 ≤ (s.length : Int)), (s.length : Int) - (2 * (n : Int) + 2), rfl, ?_⟩, hb2⟩
      have := HT.out
      unfold endP
      rw [decide_eq_true_eq]
      exact ⟨⟨(fun _ => by omega), (fun _ => by omega)⟩, (fun _ => by omega)⟩

set_option maxHeartbeats 1000000 in
set_option maxRecDepth 100000 in
theorem tail_any (q : Option Addr) (b off cap : Nat) (ws : List Nat) (w : World) (hq : 0 < ws.length → q = some ⟨b, off, none⟩ ∧ NRow w b off ws ∧ b < w.heap.size) (hn : ws.length ≤ 20000) (hp : ∀ p ∈ ws, p ≤ 40000) :
    Calls Tryz.prog 97 #[.slice q ws.length cap] w fun e w' => e = .returned (.string (bstr (tailB ws))) ∧ RowKit.Below w.heap.size w w' := by
  have hts := fun W => tailSize_any ws.length W (by omega)
  obtain ⟨i0, hi, hz0, hz1, hz2⟩ := info_parts Tryz.infoByte
  go_enter Tryz.func97, Tryz.ntmps97
  go_wp2_with fail
  refine (hts _).mono ?_
  rintro e w1 ⟨rfl, rfl⟩
  clear hts
  go_wp2_with (at_make; refine wpList_make_own _ rfl _ _ 88 rfl w1.heap.size 5 i0 (.int .u8 0) 1 Tryz.underlying88 hi hz0 hz1 .i64 .i64 ((2 * ws.length + 2 : Nat) : Int) (2 * ws.length + 2) rfl rfl (by omega) (by rw [hz2]; omega) (by unfold maxLen; omega) (Nat.le_refl _) ?_; intro w2 hown2 hgrow2)
  have hb2 : RowKit.Below w1.heap.size w1 w2 := (RowKit.Below.refl _ w1).grown hgrow2 (Nat.le_refl _) (fun k hk => by cases hk)
  clear hgrow2
  go_loopw [3, 12] (fun s3 s12 wr => ∃ i : Nat, s12 = .int .i64 (i : Int) ∧ i ≤ ws.length ∧ Hid (wr.ownsRow w1.heap.size 5 1 s3 (2 * i) (Lib.byteCells ((ws.take i).flatMap be2))) ∧ RowKit.Below w1.heap.size w1 wr) (fun _ s12 _ => ws.length - (intOf s12).toNat)
  case atStart => exact ⟨0, rfl, by omega, by show World.ownsRow _ _ _ _ _ _ _; simpa [Lib.byteCells] using hown2, hb2⟩
  case round =>
    obtain ⟨i, rfl, hil, HO, hbel⟩ := hrel
    clear hown2 hb2
    by_cases hlt : i < ws.length
    · obtain ⟨rfl, hR, hbl⟩ := hq (by omega)
      have c0 := (hR.step hbel hbl) i hlt
      have hpl := hp _ (List.getElem_mem hlt)
      have HT : Hid ((ws.take (i + 1)).flatMap be2 = (ws.take i).flatMap be2 ++ be2 ws[i]) := by
        show _ = _
        rw [List.take_succ_eq_append_getElem hlt, List.flatMap_append]
        simp
      generalize ws[i] = p at *
      clear hR
      have hown1 := HO.out
      have hsz := hbel.size
      go_wp2_with (at_builtin; refine wpList_append_own _ rfl _ _ 88 rfl w1.heap.size 5 i0 (.int .u8 0) 1 1 Tryz.underlying88 hi hz0 hz1 hz2 rfl (by decide) _ _ _ rfl (hown1.alloc _) ⟨wr.heap.size, 0, none⟩ 2 2 [Value.int .u8 ((p : Int) / 256), Value.int .u8 ((p : Int) % 256)] rfl rfl (two_news _ _ _ _) (two_one _ _) (by unfold maxLen; omega) (by omega) (by simp; omega) ?_)
      intro v' w3 hown' hgrow _
      have hb3 : RowKit.Below w1.heap.size w1 w3 := (hbel.alloc hbel.size _).grown hgrow (by simp; omega) (fun k hk => (hown1.lt k hk).1)
      rw [two_cells (by omega), ← byteCells_append] at hown'
      clear hgrow hown1
      go_wp2
      go_roundw
      case rel => exact ⟨i + 1, by go_num, by omega, by rw [HT.out]; exact hown', hb3⟩
      case measure => simp [intOf]; omega
    · have hie : i = ws.length := by omega
      subst hie
      rw [List.take_length] at HO
      have hown1 := HO.out
      have hsz := hbel.size
      go_wp2_with (at_builtin; refine wpList_append_own _ rfl _ _ 88 rfl w1.heap.size 5 i0 (.int .u8 0) 1 1 Tryz.underlying88 hi hz0 hz1 hz2 rfl (by decide) _ _ _ rfl (hown1.alloc _) ⟨wr.heap.size, 0, none⟩ 2 2 [Value.int .u8 ((ws.length : Int) / 256), Value.int .u8 ((ws.length : Int) % 256)] rfl rfl (two_news _ _ _ _) (two_one _ _) (by unfold maxLen; omega) (by omega) (by simp; omega) ?_)
      intro v' w3 hown' hgrow _
      have hb3 : RowKit.Below w1.heap.size w1 w3 := (hbel.alloc hbel.size _).grown hgrow (by simp; omega) (fun k hk => (hown1.lt k hk).1)
      rw [two_cells (by omega), ← byteCells_append] at hown'
      have hcv := run_convert_own (P := Tryz.prog) (src := 88) (dst := 9) hown' Tryz.underlying88 Tryz.underlying5 Tryz.underlying9
      clear hgrow hown' hown1 HO
      go_wp2
      go_ret
      exact ⟨rfl, hb3⟩

end Go.Proofs.YtmpnofbhbglfpaaGreatDoor
