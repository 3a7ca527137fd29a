/-
  The contracts of the document's answers for seal (step, Sum, Frame, Open), over this seat's translation.
-/
import Derived.Test.YtmimmbcchbmnbaaDoorFst
namespace Go.Proofs.YtmimmbcchbmnbaaDoor
open Go.RowKit
attribute [local go_sem] size_bstr getElem_bstr toList_bstr append_bstr

/-- One bit: what the register becomes. -/
theorem out1_step (y z : BitVec 32) : out1 (y ^^^ z) = ((y >>> 1) ^^^ (if (y ^^^ z).getLsbD 0 then poly else 0#32)) ^^^ z >>> 1 := by
  unfold out1
  rw [BitVec.ushiftRight_xor_distrib]
  ac_rfl

set_option maxHeartbeats 1000000 in
set_option maxRecDepth 100000 in
theorem Rstep_any (x : BitVec 32) (b : UInt8) (w : World) :
    Calls Tryd.prog 21 #[.int .u32 (x.toNat : Int), .int .u8 (b.toNat : Int)] w fun e w' => e = .returned (.int .u32 ((crc1 x b).toNat : Int)) ∧ w' = w := by
  have hb := b.toNat_lt
  go_enter Tryd.func21, Tryd.ntmps21
  go_wp2
  go_loop [0, 5] (fun vx vi => ∃ (i : Nat) (y : BitVec 32), vi = .int .i64 i ∧ i ≤ 8 ∧ vx = .int .u32 (y.toNat : Int) ∧ Hid (outs (8 - i) (y ^^^ BitVec.ofNat 32 (b.toNat / 2 ^ i)) = crc1 x b)) (fun _ vi => 8 - (intOf vi).toNat)
  case atStart => exact ⟨0, x, rfl, by omega, rfl, by rw [Nat.pow_zero, Nat.div_one]; exact (rfl : outs 8 (x ^^^ BitVec.ofNat 32 b.toNat) = crc1 x b)⟩
  case round =>
    obtain ⟨i, y, rfl, hi, rfl, hy⟩ := hrel
    by_cases h8 : i < 8
    · obtain ⟨z, hz⟩ : ∃ z, z = BitVec.ofNat 32 (b.toNat / 2 ^ i) := ⟨_, rfl⟩
      have hlt : b.toNat / 2 ^ i < 4294967296 := Nat.lt_of_le_of_lt (Nat.div_le_self _ _) (by omega)
      have hzn : z.toNat = b.toNat / 2 ^ i := by rw [hz, BitVec.toNat_ofNat, Nat.mod_eq_of_lt hlt]
      have hzi : (b.toNat : Int) / (2 : Int) ^ i % (4294967296 : Int) = (z.toNat : Int) := by
        have e : (b.toNat : Int) / (2 : Int) ^ i = ((b.toNat / 2 ^ i : Nat) : Int) := by
          rw [Int.natCast_ediv, Int.natCast_pow]
          rfl
        rw [e, hzn]
        omega
      have hz1 : z >>> 1 = BitVec.ofNat 32 (b.toNat / 2 ^ (i + 1)) := by
        apply BitVec.eq_of_toNat_eq
        rw [BitVec.toNat_ushiftRight, hzn, BitVec.toNat_ofNat, Nat.shiftRight_eq_div_pow, Nat.pow_one, Nat.div_div_eq_div_mul, ← Nat.pow_succ, Nat.mod_eq_of_lt]
        exact Nat.lt_of_le_of_lt (Nat.div_le_self _ _) (by omega)
      obtain ⟨u, hu⟩ : ∃ u, u = y ^^^ z := ⟨_, rfl⟩
      obtain ⟨s1, hs1⟩ : ∃ s1, s1 = y >>> 1 := ⟨_, rfl⟩
      obtain ⟨v, hv⟩ : ∃ v, v = s1 ^^^ poly := ⟨_, rfl⟩
      have hx : bits .xor .u32 (y.toNat : Int) ((b.toNat : Int) / (2 : Int) ^ i % (4294967296 : Int)) = (u.toNat : Int) := by rw [hzi, u32_xor_bv, hu]
      have hy2 : outs (8 - (i + 1)) ((s1 ^^^ (if u.getLsbD 0 then poly else 0#32)) ^^^ BitVec.ofNat 32 (b.toNat / 2 ^ (i + 1))) = crc1 x b := by
        rw [hs1, hu, ← hz1, ← out1_step, ← hy.out, ← hz, show 8 - i = (8 - (i + 1)) + 1 from by omega]
        rfl
      have hbit : u.toNat % 2 = (u.getLsbD 0).toNat := by
        rw [← BitVec.testBit_toNat, Nat.testBit_zero]
        rcases Nat.mod_two_eq_zero_or_one u.toNat with h | h <;> rw [h] <;> rfl
      have hand0 : bits .and .u32 (u.toNat : Int) 1 = ((u.toNat % 2 : Nat) : Int) := by
        have := u32_and_nat u.toNat 1 u.isLt (by decide)
        rw [Nat.and_one_is_mod] at this
        exact this
      have hsh : (y.toNat : Int) / (2 : Int) = (s1.toNat : Int) := by
        rw [hs1, BitVec.toNat_ushiftRight, Nat.shiftRight_eq_div_pow]
        omega
      have hpoly : bits .xor .u32 (s1.toNat : Int) 3988292384 = (v.toNat : Int) := by
        rw [hv]
        exact u32_xor_bv s1 poly
      have HY : Hid _ := hy2
      have HV : Hid _ := hv
      have hs1lt := s1.isLt
      clear hy2 hz1 hzi hzn hlt hz hy hu hs1 hv
      cases hq : u.getLsbD 0
      · have hand : bits .and .u32 (u.toNat : Int) 1 = 0 := by rw [hand0, hbit, hq]; rfl
        have HQ : Hid _ := hq
        clear hand0 hbit hq
        go_wp2
        go_round
        case rel =>
          refine ⟨i + 1, s1, by go_num, by omega, rfl, ?_⟩
          have := HY.out
          rw [HQ.out] at this
          simp only [Bool.false_eq_true, if_false, BitVec.xor_zero] at this
          exact this
        case measure => simp [intOf]; omega
      · have hand : bits .and .u32 (u.toNat : Int) 1 = 1 := by rw [hand0, hbit, hq]; rfl
        have HQ : Hid _ := hq
        clear hand0 hbit hq
        go_wp2
        go_round
        case rel =>
          refine ⟨i + 1, v, by go_num, by omega, rfl, ?_⟩
          have := HY.out
          rw [HQ.out] at this
          simp only [if_true] at this
          rw [HV.out]
          exact this
        case measure => simp [intOf]; omega
    · have h88 : i = 8 := by omega
      subst h88
      have hb8 : b.toNat / 2 ^ 8 = 0 := Nat.div_eq_of_lt hb
      have hye : y = crc1 x b := by
        have := hy.out
        rw [hb8] at this
        simpa [outs] using this
      go_wp2
      go_ret
      exact ⟨rfl, rfl⟩

set_option maxHeartbeats 1000000 in
set_option maxRecDepth 100000 in
theorem RSum_any (l : List UInt8) (w : World) (hl : l.length ≤ 9223372036854775000) :
    Calls Tryd.prog 12 #[.string (bstr l)] w fun e w' => e = .returned (.int .u32 ((crc l).toNat : Int)) ∧ w' = w := by
  go_enter Tryd.func12, Tryd.ntmps12
  go_wp2
  go_loop [3, 4] (fun vx vi => ∃ i : Nat, vi = .int .i64 i ∧ i ≤ l.length ∧ vx = .int .u32 ((crcL 4294967295#32 (l.take i)).toNat : Int)) (fun _ vi => l.length - (intOf vi).toNat)
  case atStart => exact ⟨0, rfl, by omega, rfl⟩
  case round =>
    obtain ⟨i, rfl, hi, rfl⟩ := hrel
    by_cases h8 : i < l.length
    · have hadd : crc1 (crcL 4294967295#32 (l.take i)) l[i] = crcL 4294967295#32 (l.take (i + 1)) := by
        rw [List.take_succ_eq_append_getElem h8, crcL_append]
        rfl
      have HA : Hid _ := hadd
      clear hadd
      go_wp2_with fail
      refine (Rstep_any (crcL 4294967295#32 (l.take i)) l[i] _).mono ?_
      rintro e w1 ⟨rfl, rfl⟩
      go_wp2
      go_round
      case rel => exact ⟨i + 1, by go_num, by omega, by rw [HA.out]⟩
      case measure => simp [intOf]; omega
    · have hie : i = l.length := by omega
      subst hie
      go_wp2
      go_ret
      refine ⟨?_, rfl⟩
      unfold crc
      rw [← u32_not]
      rfl

set_option maxHeartbeats 400000 in
theorem RFrame_long (l : List UInt8) (w : World) (h : 1048576 < l.length) (hm : l.length ≤ 9223372036854775807) :
    Calls Tryd.prog 10 #[.string (bstr l)] w fun e w' => e = .returned (.tuple #[.string (bstr []), .int .i64 3]) ∧ Below w.heap.size w w' := by
  go_enter Tryd.func10, Tryd.ntmps10
  go_wp2
  go_ret2
  exact ⟨rfl, Below.refl _ _⟩

set_option maxHeartbeats 1000000 in
theorem RFrame_ok (l : List UInt8) (w : World) (h : l.length ≤ 1048576) :
    Calls Tryd.prog 10 #[.string (bstr l)] w fun e w' => e = .returned (.tuple #[.string (bstr (frm l)), .int .i64 0]) ∧ Below w.heap.size w w' := by
  have hcl := (crc (be4 l.length ++ l)).isLt
  have hfe : frm l = be4 l.length ++ (le4 (crc (be4 l.length ++ l)).toNat ++ l) := rfl
  have HFE : Hid _ := hfe
  clear hfe
  have hb4 := be4_length l.length
  have hl4 := le4_length (crc (be4 l.length ++ l)).toNat
  obtain ⟨x, hx⟩ : ∃ x, x = (crc (be4 l.length ++ l)).toNat := ⟨_, rfl⟩
  have hcv1 : ∀ W : World, (convert 39 9 (.slice (some ⟨W.heap.size, 0, none⟩) 4 4)).run Tryd.prog (W.alloc (.cells #[.int .u8 ((l.length : Int) / 16777216), .int .u8 ((l.length : Int) / 65536), .int .u8 ((l.length : Int) / 256 % 256), .int .u8 ((l.length : Int) % 256)] 5)) =
      .ok (.string (bstr (be4 l.length))) (W.alloc (.cells #[.int .u8 ((l.length : Int) / 16777216), .int .u8 ((l.length : Int) / 65536), .int .u8 ((l.length : Int) / 256 % 256), .int .u8 ((l.length : Int) % 256)] 5)) := by
    intro W
    have := run_convert_four W (l.length / 16777216 % 256) (l.length / 65536 % 256) (l.length / 256 % 256) (l.length % 256) (by omega) (by omega) (by omega) (by omega)
    rw [show ((l.length / 16777216 % 256 : Nat) : Int) = (l.length : Int) / 16777216 from by omega, show ((l.length / 65536 % 256 : Nat) : Int) = (l.length : Int) / 65536 from by omega] at this
    exact this
  have hcv2 : ∀ W : World, (convert 39 9 (.slice (some ⟨W.heap.size, 0, none⟩) 4 4)).run Tryd.prog (W.alloc (.cells #[.int .u8 ((x : Int) % 256), .int .u8 ((x : Int) / 256 % 256), .int .u8 ((x : Int) / 65536 % 256), .int .u8 ((x : Int) / 16777216)] 5)) =
      .ok (.string (bstr (le4 x))) (W.alloc (.cells #[.int .u8 ((x : Int) % 256), .int .u8 ((x : Int) / 256 % 256), .int .u8 ((x : Int) / 65536 % 256), .int .u8 ((x : Int) / 16777216)] 5)) := by
    intro W
    have := run_convert_four W (x % 256) (x / 256 % 256) (x / 65536 % 256) (x / 16777216 % 256) (by omega) (by omega) (by omega) (by omega)
    rw [show ((x / 16777216 % 256 : Nat) : Int) = (x : Int) / 16777216 from by omega] at this
    exact this
  rw [← hx] at hcl hl4
  have HX : Hid _ := hx
  clear hx
  go_enter Tryd.func10, Tryd.ntmps10
  go_wp2_with fail
  refine (RSum_any (be4 l.length ++ l) _ (by rw [List.length_append, hb4]; omega)).mono ?_
  rintro e w1 ⟨rfl, hw1⟩
  have hb1 : Below w.heap.size w w1 := by rw [hw1]; exact (Below.refl _ _).alloc (Nat.le_refl _) _
  clear hw1
  rw [← HX.out]
  go_wp2
  go_ret2
  refine ⟨?_, ?_⟩
  · rw [HFE.out, ← HX.out]
    rfl
  · exact hb1.alloc hb1.size _

set_option maxHeartbeats 400000 in
theorem ROpen_short (s : List UInt8) (w : World) (h : s.length < 8) :
    Calls Tryd.prog 15 #[.string (bstr s)] w fun e w' => e = .returned (.tuple #[.string (bstr []), .int .i64 0, .int .i64 4]) ∧ Below w.heap.size w w' := by
  go_enter Tryd.func15, Tryd.ntmps15
  go_wp2
  go_ret3
  exact ⟨rfl, Below.refl _ _⟩

theorem wraps_i64 (n : Int) (h0 : 0 ≤ n) (h1 : n < 2 ^ 40) : IntKind.i64.wrap n = n := by rw [IntKind.wrap_i64]; omega
theorem or64 (i : Nat) (x y : Int) (hx0 : 0 ≤ x) (hx : x % 2 ^ i = 0) (hx1 : x < 2 ^ 40) (hy0 : 0 ≤ y) (hy : y < 2 ^ i) (hy1 : y < 2 ^ 40) : bits .or .i64 x y = x + y :=
  bits_join .i64 40 (by decide) wraps_i64 i x y hx0 hx hx1 hy0 hy hy1
theorem join64 (a b c d : UInt8) : bits .or .i64 (bits .or .i64 (bits .or .i64 ((a.toNat : Int) * 16777216) ((b.toNat : Int) * 65536)) ((c.toNat : Int) * 256)) (d.toNat : Int) = (rd4 a b c d : Int) := by
  have ha := a.toNat_lt
  have hb := b.toNat_lt
  have hc := c.toNat_lt
  have hd := d.toNat_lt
  rw [or64 24 ((a.toNat : Int) * 16777216) ((b.toNat : Int) * 65536) (by omega) (by omega) (by omega) (by omega) (by omega) (by omega), or64 16 ((a.toNat : Int) * 16777216 + (b.toNat : Int) * 65536) ((c.toNat : Int) * 256) (by omega) (by omega) (by omega) (by omega) (by omega) (by omega), or64 8 ((a.toNat : Int) * 16777216 + (b.toNat : Int) * 65536 + (c.toNat : Int) * 256) (d.toNat : Int) (by omega) (by omega) (by omega) (by omega) (by omega) (by omega)]
  unfold rd4
  omega

set_option maxHeartbeats 2000000 in
set_option maxRecDepth 100000 in
theorem ROpen_long (a b c d e1 f g i : UInt8) (t : List UInt8) (w : World) (hm : t.length ≤ 9223372036854775000) (hbad : ¬ (rd4 a b c d ≤ 1048576 ∧ rd4 a b c d ≤ t.length)) :
    Calls Tryd.prog 15 #[.string (bstr (a :: b :: c :: d :: e1 :: f :: g :: i :: t))] w fun e w' => e = .returned (.tuple #[.string (bstr []), .int .i64 0, .int .i64 4]) ∧ Below w.heap.size w w' := by
  have hrd := rd4_lt a b c d
  have ha := a.toNat_lt
  have hb := b.toNat_lt
  have hc := c.toNat_lt
  have hd := d.toNat_lt
  have HJ : Hid _ := join64 a b c d
  have HBAD : Hid _ := hbad
  clear hbad
  go_enter Tryd.func15, Tryd.ntmps15
  go_wp2
  go_quiet (fail)
  rw [HJ.out]
  have hbad : ¬ (rd4 a b c d ≤ 1048576 ∧ rd4 a b c d ≤ t.length) := HBAD.out
  clear HJ HBAD
  have hsz : (a :: b :: c :: d :: e1 :: f :: g :: i :: t).length = t.length + 8 := rfl
  generalize rd4 a b c d = n at *
  by_cases hn : n ≤ 1048576
  · have hn2 : t.length < n := by omega
    clear hbad
    have hg : decide ((1048576 : Int) < (n : Int)) = false := decide_eq_false (by omega)
    go_wp2
    go_ret3
    exact ⟨rfl, below_drewN (Below.refl _ _) _⟩
  · clear hbad
    have hg : decide ((1048576 : Int) < (n : Int)) = true := decide_eq_true (by omega)
    go_wp2
    go_ret3
    exact ⟨rfl, below_drewN (Below.refl _ _) _⟩

set_option maxHeartbeats 2000000 in
set_option maxRecDepth 100000 in
theorem ROpen_in (a b c d e1 f g i : UInt8) (t : List UInt8) (w : World) (hm : t.length ≤ 9223372036854775000) (hn : rd4 a b c d ≤ 1048576) (hn2 : rd4 a b c d ≤ t.length) :
    Calls Tryd.prog 15 #[.string (bstr (a :: b :: c :: d :: e1 :: f :: g :: i :: t))] w fun e w' =>
      (frm (t.take (rd4 a b c d)) = (a :: b :: c :: d :: e1 :: f :: g :: i :: t).take (8 + rd4 a b c d) → e = .returned (.tuple #[.string (bstr (t.take (rd4 a b c d))), .int .i64 (8 + (rd4 a b c d : Int)), .int .i64 0])) ∧
      (¬ frm (t.take (rd4 a b c d)) = (a :: b :: c :: d :: e1 :: f :: g :: i :: t).take (8 + rd4 a b c d) → e = .returned (.tuple #[.string (bstr []), .int .i64 0, .int .i64 4])) ∧ Below w.heap.size w w' := by
  have ha := a.toNat_lt
  have hb := b.toNat_lt
  have hc := c.toNat_lt
  have hd := d.toNat_lt
  have HJ : Hid _ := join64 a b c d
  have hsz : (a :: b :: c :: d :: e1 :: f :: g :: i :: t).length = t.length + 8 := rfl
  have hp1 : ∀ W : World, (Instr.slice 9 (.string (bstr (a :: b :: c :: d :: e1 :: f :: g :: i :: t))) (some (.int .i64 8)) (some (.int .i64 (8 + (rd4 a b c d : Int)))) none).run Tryd.prog W = .ok (.string (bstr (t.take (rd4 a b c d)))) W := by
    intro W
    have := run_piece (P := Tryd.prog) 9 (a :: b :: c :: d :: e1 :: f :: g :: i :: t) 8 (8 + rd4 a b c d) (by omega) (by rw [hsz]; omega) W Tryd.underlying9
    rw [show (a :: b :: c :: d :: e1 :: f :: g :: i :: t).drop 8 = t from rfl, show 8 + rd4 a b c d - 8 = rd4 a b c d from by omega] at this
    exact this
  have hp2 : ∀ W : World, (Instr.slice 9 (.string (bstr (a :: b :: c :: d :: e1 :: f :: g :: i :: t))) none (some (.int .i64 (8 + (rd4 a b c d : Int)))) none).run Tryd.prog W = .ok (.string (bstr ((a :: b :: c :: d :: e1 :: f :: g :: i :: t).take (8 + rd4 a b c d)))) W :=
    fun W => run_head (P := Tryd.prog) 9 (a :: b :: c :: d :: e1 :: f :: g :: i :: t) (8 + rd4 a b c d) (by rw [hsz]; omega) W Tryd.underlying9
  have hul : (t.take (rd4 a b c d)).length ≤ 1048576 := by rw [List.length_take]; omega
  go_enter Tryd.func15, Tryd.ntmps15
  go_wp2
  go_quiet (fail)
  rw [HJ.out]
  clear HJ
  generalize hu : t.take (rd4 a b c d) = u at *
  generalize hne : rd4 a b c d = n at *
  generalize hs : a :: b :: c :: d :: e1 :: f :: g :: i :: t = s at *
  have hg : decide ((1048576 : Int) < (n : Int)) = false := decide_eq_false (by omega)
  go_wp2_with fail
  refine (RFrame_ok u _ hul).mono ?_
  rintro e w1 ⟨rfl, hb1⟩
  replace hb1 : Below w.heap.size w w1 := (below_drewN (Below.refl _ w) nq).trans hb1
  have HU : Hid _ := hu
  have HS : Hid _ := hs
  have HN : Hid _ := hne
  clear hu hs hne
  by_cases hd : frm u = s.take (8 + n)
  · have hyt : (frm u == s.take (8 + n)) = true := by rw [hd]; simp
    have HD : Hid _ := hd
    clear hd
    go_wp2
    go_ret3
    have q1 := HS.out
    have q2 := HU.out
    have q3 := HN.out
    have q4 := HD.out
    subst q1 q2 q3
    exact ⟨fun _ => rfl, fun h => absurd q4 h, hb1⟩
  · have hyf : (frm u == s.take (8 + n)) = false := by simp [hd]
    have HD : Hid _ := hd
    clear hd
    go_wp2
    go_ret3
    have q1 := HS.out
    have q2 := HU.out
    have q3 := HN.out
    have q4 := HD.out
    subst q1 q2 q3
    exact ⟨fun h => absurd h q4, fun _ => rfl, hb1⟩

theorem ROpen_none (s : List UInt8) (w : World) (hm : s.length ≤ 9223372036854775000) (h : opn s = none) :
    Calls Tryd.prog 15 #[.string (bstr s)] w fun e w' => e = .returned (.tuple #[.string (bstr []), .int .i64 0, .int .i64 4]) ∧ Below w.heap.size w w' := by
  by_cases hs : s.length < 8
  · exact ROpen_short s w hs
  · obtain ⟨a, b, c, d, e, f, g, i, t, rfl⟩ := ex8 (Nat.le_of_not_lt hs)
    have hsz : (a :: b :: c :: d :: e :: f :: g :: i :: t).length = t.length + 8 := rfl
    by_cases hin : rd4 a b c d ≤ 1048576 ∧ rd4 a b c d ≤ t.length
    · refine (ROpen_in a b c d e f g i t w (by omega) hin.1 hin.2).mono ?_
      rintro x w' ⟨_, h2, h3⟩
      refine ⟨h2 ?_, h3⟩
      intro hc
      have hul : (t.take (rd4 a b c d)).length ≤ 1048576 := by rw [List.length_take]; omega
      have := opn_frm hul ((a :: b :: c :: d :: e :: f :: g :: i :: t).drop (8 + rd4 a b c d))
      rw [hc, List.take_append_drop, h] at this
      exact absurd this (by simp)
    · exact ROpen_long a b c d e f g i t w (by omega) hin
theorem ROpen_some (s b : List UInt8) (w : World) (hm : s.length ≤ 9223372036854775000) (h : opn s = some b) :
    Calls Tryd.prog 15 #[.string (bstr s)] w fun e w' => e = .returned (.tuple #[.string (bstr b), .int .i64 (8 + (b.length : Int)), .int .i64 0]) ∧ Below w.heap.size w w' := by
  by_cases hs : s.length < 8
  · rw [opn_short hs] at h
    exact absurd h (by simp)
  · obtain ⟨a, b1, c, d, e, f, g, i, t, rfl⟩ := ex8 (Nat.le_of_not_lt hs)
    have hsz : (a :: b1 :: c :: d :: e :: f :: g :: i :: t).length = t.length + 8 := rfl
    have h0 := h
    rw [opn_eq] at h
    by_cases hh : rd4 a b1 c d ≤ 1048576 ∧ rd4 a b1 c d ≤ t.length ∧ le4 (crc ([a, b1, c, d] ++ t.take (rd4 a b1 c d))).toNat = [e, f, g, i]
    · rw [if_pos hh] at h
      obtain ⟨h1, h2, h3⟩ := hh
      have hb := Option.some.inj h
      have hl : b.length = rd4 a b1 c d := by rw [← hb, List.length_take]; omega
      obtain ⟨_, r, hr⟩ := opn_some h0
      refine (ROpen_in a b1 c d e f g i t w (by omega) h1 h2).mono ?_
      rintro x w' ⟨g1, _, g3⟩
      refine ⟨?_, g3⟩
      rw [g1 ?_, hl, hb]
      rw [hr, hb, List.take_append_of_le_length (by rw [frm_length]; omega), List.take_of_length_le (by rw [frm_length]; omega)]
    · rw [if_neg hh] at h
      exact absurd h (by simp)

end Go.Proofs.YtmimmbcchbmnbaaDoor
