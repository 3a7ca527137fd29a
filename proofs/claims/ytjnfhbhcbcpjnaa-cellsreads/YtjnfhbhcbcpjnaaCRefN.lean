/-
  The contracts of the document's answers for numbers and texts as bytes, and for lists of cells as bytes.
-/
import Derived.Test.YtjnfhbhcbcpjnaaCEnc
namespace Go.Proofs.Ytjnfhbhcbcpjnaa
open Go.RowKit Go.BigFrame Go.Sort
attribute [local go_sem] size_bstr getElem_bstr toList_bstr append_bstr

theorem val_str {a b : ByteArray} (h : a = b) : Value.string a = .string b := by rw [h]
/-- 'string([]byte{z})'. -/
theorem run_convert_one (W : World) (z : Nat) (hz : z < 256) :
    (convert 37 9 (.slice (some ⟨W.heap.size, 0, none⟩) 1 1)).run Try.prog (W.alloc (.cells #[.int .u8 (z : Int)] 5)) = .ok (.string (bstr [z.toUInt8])) (W.alloc (.cells #[.int .u8 (z : Int)] 5)) := by
  have hown : (W.alloc (.cells #[.int .u8 (z : Int)] 5)).ownsRow W.heap.size 5 1 (.slice (some ⟨W.heap.size, 0, none⟩) 1 1) 1 (Lib.byteCells [z.toUInt8]) := by
    have h := World.ownsRow_lit (base := W.heap.size) (e := 5) (size := 1) W #[.int .u8 (z : Int)] 1 (Nat.le_refl _) (by decide) (by simp)
    have e : Lib.byteCells [z.toUInt8] = [.int .u8 (z : Int)] := by simp [Lib.byteCells, Nat.toUInt8]; omega
    rw [e]
    exact h
  exact run_convert_own hown Try.underlying37 Try.underlying5 Try.underlying9

set_option maxHeartbeats 1000000 in
set_option maxRecDepth 100000 in
theorem RNumber_any (x : Nat) (w : World) (hx : x < 18446744073709551616) :
    Calls Try.prog 67 #[.int .u64 x] w fun e w' => e = .returned (.string (bstr (Lib.uvarint x))) ∧ RowKit.Below w.heap.size w w' := by
  have hlen := Lib.uvarint_length64 hx
  have hE : (⟨#[]⟩ : ByteArray) = bstr [] := rfl
  go_enter Try.func67, Try.ntmps67
  go_wp2
  go_loopw [0, 3] (fun vx vs wr => ∃ (y : Nat) (pre : List UInt8), vx = .int .u64 y ∧ y ≤ x ∧ Lib.uvarint x = pre ++ Lib.uvarint y ∧ vs = .string (bstr pre) ∧ RowKit.Below w.heap.size w wr) (fun vx _ _ => (intOf vx).toNat)
  case atStart => exact ⟨x, [], rfl, Nat.le_refl _, rfl, rfl, RowKit.Below.refl _ _⟩
  case round =>
    obtain ⟨y, pre, rfl, hy, hsplit, rfl, hbel⟩ := hrel
    have HS : Hid (Lib.uvarint x = pre ++ Lib.uvarint y) := hsplit
    have hpl : pre.length ≤ 10 := by
      have h2 := congrArg List.length hsplit
      rw [List.length_append] at h2
      omega
    clear hsplit
    by_cases h128 : 128 ≤ y
    · obtain ⟨bb, hbb⟩ : ∃ bb, bb = (y % 128 + 128).toUInt8 := ⟨_, rfl⟩
      have hcv : ∀ W : World, (convert 37 9 (.slice (some ⟨W.heap.size, 0, none⟩) 1 1)).run Try.prog (W.alloc (.cells #[.int .u8 ((y : Int) % 128 + 128)] 5)) = .ok (.string (bstr [bb])) (W.alloc (.cells #[.int .u8 ((y : Int) % 128 + 128)] 5)) := by
        intro W
        have := run_convert_one W (y % 128 + 128) (by omega)
        rw [← hbb] at this
        rw [show ((y % 128 + 128 : Nat) : Int) = (y : Int) % 128 + 128 from by omega] at this
        exact this
      have HB : Hid (bb = (y % 128 + 128).toUInt8) := hbb
      clear hbb
      go_wp2
      go_roundw
      case rel => exact ⟨y / 128, pre ++ [bb], by go_num, by omega, by rw [HS.out, Lib.uvarint_big h128, HB.out]; simp, rfl, hbel.alloc hbel.size _⟩
      case measure => simp [intOf]; omega
    · have hcv : ∀ W : World, (convert 37 9 (.slice (some ⟨W.heap.size, 0, none⟩) 1 1)).run Try.prog (W.alloc (.cells #[.int .u8 (y : Int)] 5)) = .ok (.string (bstr [y.toUInt8])) (W.alloc (.cells #[.int .u8 (y : Int)] 5)) := fun W => run_convert_one W y (by omega)
      go_wp2
      go_ret
      exact ⟨ret_str (by rw [HS.out, Lib.uvarint_small (by omega)]), hbel.alloc hbel.size _⟩

set_option maxHeartbeats 400000 in
theorem RText_any (l : List UInt8) (w : World) (hl : l.length ≤ 10000000000) :
    Calls Try.prog 68 #[.string (bstr l)] w fun e w' => e = .returned (.string (bstr (Lib.uvarint l.length ++ l))) ∧ RowKit.Below w.heap.size w w' := by
  have hlen := Lib.uvarint_length64 (x := l.length) (by omega)
  go_enter Try.func68, Try.ntmps68
  go_wp2_with fail
  refine (RNumber_any l.length _ (by omega)).mono ?_
  rintro e w1 ⟨rfl, hb⟩
  go_wp2
  go_ret
  exact ⟨rfl, hb⟩


set_option maxHeartbeats 400000 in
theorem RPutText_any (b l : List UInt8) (w : World) (hb : b.length ≤ 100000000000) (hl : l.length ≤ 10000000000) :
    Calls Try.prog 50 #[.string (bstr b), .string (bstr l)] w fun e w' => e = .returned (.string (bstr (b ++ txt l))) ∧ RowKit.Below w.heap.size w w' := by
  have hlen := txt_len hl
  have hc : ∀ W, Calls Try.prog 68 #[.string (bstr l)] W fun e w' => e = .returned (.string (bstr (txt l))) ∧ RowKit.Below W.heap.size W w' := fun W => RText_any l W hl
  generalize txt l = t at *
  go_enter Try.func50, Try.ntmps50
  go_wp2_with fail
  refine (hc _).mono ?_
  rintro e w1 ⟨rfl, hb1⟩
  go_wp2
  go_ret
  exact ⟨rfl, hb1⟩

set_option maxHeartbeats 400000 in
theorem RPutNumber_any (b : List UInt8) (x : Nat) (w : World) (hb : b.length ≤ 100000000000) (hx : x < 18446744073709551616) :
    Calls Try.prog 49 #[.string (bstr b), .int .u64 x] w fun e w' => e = .returned (.string (bstr (b ++ Lib.uvarint x))) ∧ RowKit.Below w.heap.size w w' := by
  have hlen := Lib.uvarint_length64 hx
  have hc := fun W => RNumber_any x W hx
  generalize Lib.uvarint x = t at *
  go_enter Try.func49, Try.ntmps49
  go_wp2_with fail
  refine (hc _).mono ?_
  rintro e w1 ⟨rfl, hb1⟩
  go_wp2
  go_ret
  exact ⟨rfl, hb1⟩

set_option maxHeartbeats 4000000 in
set_option maxRecDepth 100000 in
theorem bytes_any (q : Option Addr) (b off cap : Nat) (cs : List Cl) (w : World) (hq : 0 < cs.length → q = some ⟨b, off, none⟩ ∧ CRow w b off cs ∧ b < w.heap.size) (hn : cs.length ≤ 1048576) (hok : cs.all okC = true) :
    Calls Try.prog 26 #[.slice q cs.length cap] w fun e w' => e = .returned (.string (bstr (encL cs))) ∧ RowKit.Below w.heap.size w w' := by
  have hpn : ∀ W, Calls Try.prog 49 #[.string ⟨#[]⟩, .int .u64 (cs.length : Int)] W fun e w' => e = .returned (.string (bstr (Lib.uvarint cs.length))) ∧ RowKit.Below W.heap.size W w' := fun W => RPutNumber_any [] cs.length W (by simp) (by omega)
  have hul := Lib.uvarint_length64 (x := cs.length) (by omega)
  have HO : Hid _ := hok
  clear hok
  go_enter Try.func26, Try.ntmps26
  go_wp2_with fail
  refine (hpn _).mono ?_
  rintro e w1 ⟨rfl, hb1⟩
  clear hpn
  go_wp2
  go_loopw [3, 4] (fun s3 s4 wr => ∃ (i : Nat) (L : List UInt8), s4 = .int .i64 (i : Int) ∧ i ≤ cs.length ∧ s3 = .string (bstr L) ∧ Hid (L = Lib.uvarint cs.length ++ bodyL (cs.take i)) ∧ L.length ≤ 10 + i * 66000 ∧ RowKit.Below w.heap.size w wr) (fun _ s4 _ => cs.length - (intOf s4).toNat)
  case atStart => exact ⟨0, _, rfl, by omega, rfl, by show _ = _; simp [bodyL], by omega, hb1⟩
  case round =>
    obtain ⟨i, L, rfl, hil, rfl, HL, hle, hbel⟩ := hrel
    clear hb1
    by_cases hlt : i < cs.length
    · obtain ⟨rfl, hR, hbl⟩ := hq (by omega)
      have hAt := (hR.step hbel hbl) i hlt
      have hok := all_get HO.out hlt
      have hll := layL_len hok
      obtain ⟨k1, k2, k3, k4, k5⟩ := okC_len hok
      have HL2 : Hid (Lib.uvarint cs.length ++ bodyL (cs.take (i + 1)) = L ++ layL cs[i]) := by show _ = _; rw [body_take hlt, HL.out, List.append_assoc]
      clear hok hR HL
      have hi0 : (0 : Int) ≤ (i : Int) := by omega
      have hiz : (i : Int) < (cs.length : Int) := by omega
      generalize cs[i] = c at *
      obtain ⟨r, k, v, z, x⟩ := c
      simp only at k1 k2 k3 k4 k5
      have p1 : ∀ W, Calls Try.prog 50 #[.string ⟨#[]⟩, .string (bstr r)] W fun e w' => e = .returned (.string (bstr (txt r))) ∧ RowKit.Below W.heap.size W w' := fun W => RPutText_any [] r W (by simp) (by omega)
      have p2 : ∀ W, Calls Try.prog 50 #[.string ⟨#[]⟩, .string (bstr k)] W fun e w' => e = .returned (.string (bstr (txt k))) ∧ RowKit.Below W.heap.size W w' := fun W => RPutText_any [] k W (by simp) (by omega)
      have p3 : ∀ W, Calls Try.prog 49 #[.string ⟨#[]⟩, .int .u64 v] W fun e w' => e = .returned (.string (bstr (Lib.uvarint v.toNat))) ∧ RowKit.Below W.heap.size W w' := by
        intro W
        have := RPutNumber_any [] v.toNat W (by simp) (by omega)
        rw [Int.toNat_of_nonneg (by omega)] at this
        exact this
      have p4 : ∀ W, Calls Try.prog 50 #[.string ⟨#[]⟩, .string (bstr x)] W fun e w' => e = .returned (.string (bstr (txt x))) ∧ RowKit.Below W.heap.size W w' := fun W => RPutText_any [] x W (by simp) (by omega)
      have t1 := txt_len (s := r) (by omega)
      have t2 := txt_len (s := k) (by omega)
      have t3 := Lib.uvarint_length64 (x := v.toNat) (by omega)
      have t4 := txt_len (s := x) (by omega)
      have HY : Hid (layL ⟨r, k, v, z, x⟩ = txt r ++ (txt k ++ (Lib.uvarint v.toNat ++ ((if z then [1] else [0]) ++ txt x)))) := rfl
      generalize layL ⟨r, k, v, z, x⟩ = Y at *
      generalize txt r = R at *
      generalize txt k = K at *
      generalize txt x = X at *
      generalize Lib.uvarint v.toNat = V at *
      obtain ⟨c0, c1, c2, c3, c4⟩ := id hAt
      simp only at c0 c1 c2 c3 c4
      have q0 := fun d os => cell_regrown c0 d os
      have q1 := fun d os => cell_regrown c1 d os
      have q2 := fun d os => cell_regrown c2 d os
      clear c0 c1 c2 c3 c4
      go_wp2_with fail
      refine wp_region_quiet_below (by kernel_rfl) (by kernel_rfl) ?_
      repeat (go_big_quiet_step (first
        | (go_at_call 50; with_reducible exact Calls.regrown_of (p1 _))
        | (go_at_call 50; with_reducible exact Calls.regrown_of (p2 _))
        | (go_at_call 49; with_reducible exact Calls.regrown_of (p3 _))))
      refine wpQuiet_nil ?_
      intro _ hw'
      obtain ⟨⟨dq, osq⟩, hw''⟩ := hw'
      subst hw''
      have hb2 := below_regrown wr dq osq
      have hAt2 := hAt.step hb2 (by have := hbel.size; omega)
      have hbe := below2 hbel hb2
      clear q0 q1 q2 hb2 hbel hAt p1 p2 p3
      generalize grow (redrawn wr dq) osq = W1 at *
      obtain ⟨c0, c1, c2, c3, c4⟩ := id hAt2
      simp only at c0 c1 c2 c3 c4
      obtain ⟨M, hM⟩ : ∃ M, L ++ (R ++ (K ++ V)) = M := ⟨_, rfl⟩
      have hMl : M.length ≤ 1000000000000 := by rw [← hM]; simp only [List.length_append]; omega
      rw [hM]
      have HM : Hid (M = L ++ (R ++ (K ++ V))) := hM.symm
      clear hM
      cases z with
      | true =>
        go_wp2_with fail
        refine (p4 _).mono ?_
        rintro e w2 ⟨rfl, hb2⟩
        replace hbe := below2 hbe hb2
        clear hb2 c0 c1 c2 c3 c4 hAt2 p4
        go_wp2
        go_roundw
        case rel => exact ⟨i + 1, M ++ [1] ++ X, by go_num, by omega, val_str (by show bstr M ++ bstr [1] ++ bstr X = _; rw [append_bstr, append_bstr]), by show _ = _; rw [HL2.out, HY.out, HM.out]; simp, by rw [show M ++ [1] ++ X = L ++ Y by rw [HY.out, HM.out]; simp]; rw [List.length_append]; omega, hbe⟩
        case measure => simp [intOf]; omega
      | false =>
        go_wp2_with fail
        refine (p4 _).mono ?_
        rintro e w2 ⟨rfl, hb2⟩
        replace hbe := below2 hbe hb2
        clear hb2 c0 c1 c2 c3 c4 hAt2 p4
        go_wp2
        go_roundw
        case rel => exact ⟨i + 1, M ++ [0] ++ X, by go_num, by omega, val_str (by show bstr M ++ bstr [0] ++ bstr X = _; rw [append_bstr, append_bstr]), by show _ = _; rw [HL2.out, HY.out, HM.out]; simp, by rw [show M ++ [0] ++ X = L ++ Y by rw [HY.out, HM.out]; simp]; rw [List.length_append]; omega, hbe⟩
        case measure => simp [intOf]; omega
    · have hie : i = cs.length := by omega
      subst hie
      rw [List.take_length] at HL
      go_wp2
      go_ret
      exact ⟨ret_str (by rw [HL.out]; rfl), hbel⟩

/-- How long the texts of cells are, and five bytes for each. -/
def sizeL (l : List Cl) : Nat := (l.map fun c => c.row.length + c.col.length + c.val.length + 5).sum
theorem size_take {l : List Cl} {i : Nat} (h : i < l.length) : sizeL (l.take (i + 1)) = sizeL (l.take i) + (l[i].row.length + l[i].col.length + l[i].val.length + 5) := by
  unfold sizeL
  rw [List.take_succ_eq_append_getElem h, List.map_append, List.sum_append]
  simp only [List.map_cons, List.map_nil, List.sum_cons, List.sum_nil, Nat.add_zero]
theorem size_lay (c : Cl) : c.row.length + c.col.length + c.val.length + 5 ≤ (layL c).length := by
  have h1 := Lib.uvarint_pos c.row.length
  have h2 := Lib.uvarint_pos c.col.length
  have h3 := Lib.uvarint_pos c.val.length
  have h4 := Lib.uvarint_pos c.ver.toNat
  unfold layL txt
  simp only [List.length_append]
  cases c.gone <;> simp <;> omega
theorem size_body : ∀ (l : List Cl), sizeL l ≤ (bodyL l).length
  | [] => by simp [sizeL, bodyL]
  | c :: l => by
    have ih := size_body l
    have h := size_lay c
    have e : bodyL (c :: l) = layL c ++ bodyL l := by simp [bodyL]
    have e2 : sizeL (c :: l) = c.row.length + c.col.length + c.val.length + 5 + sizeL l := by simp [sizeL]
    rw [e, e2, List.length_append]
    omega
theorem size_enc (l : List Cl) : sizeL l ≤ (encL l).length := by
  have := size_body l
  unfold encL
  rw [List.length_append]
  omega
theorem size_len (l : List Cl) : l.length * 5 ≤ sizeL l := by
  induction l with
  | nil => simp [sizeL]
  | cons c l ih =>
    have e2 : sizeL (c :: l) = c.row.length + c.col.length + c.val.length + 5 + sizeL l := by simp [sizeL]
    rw [e2, List.length_cons]
    omega
theorem size_mono (l : List Cl) (i : Nat) : sizeL (l.take i) ≤ sizeL l := by
  have : l = l.take i ++ l.drop i := (List.take_append_drop i l).symm
  conv => rhs; rw [this]
  unfold sizeL
  rw [List.map_append, List.sum_append]
  omega

set_option maxHeartbeats 4000000 in
set_option maxRecDepth 100000 in
theorem REncode_any (q : Option Addr) (b off cap : Nat) (cs : List Cl) (w : World) (hq : 0 < cs.length → q = some ⟨b, off, none⟩ ∧ CRow w b off cs ∧ b < w.heap.size) (hn : cs.length * 64 ≤ 140737488351232) :
    Calls Try.prog 10 #[.slice q cs.length cap] w fun e w' => e = .returned (.tuple #[.string (bstr (encB cs)), .int .i64 (encE cs)]) ∧ RowKit.Below w.heap.size w w' := by
  generalize heB : encB cs = eB
  generalize heE : encE cs = eE
  have HB : Hid (encB cs = eB) := heB
  have HE : Hid (encE cs = eE) := heE
  clear heB heE
  go_enter Try.func10, Try.ntmps10
  go_wp2
  go_loopw [5] (fun s5 wr => ∃ i : Nat, s5 = .int .i64 (i : Int) ∧ i ≤ cs.length ∧ Hid ((cs.take i).all okC = true) ∧ RowKit.Below w.heap.size w wr) (fun s5 _ => cs.length - (intOf s5).toNat)
  case atStart => exact ⟨0, rfl, by omega, by show _ = _; simp, RowKit.Below.refl _ _⟩
  case round =>
    obtain ⟨i, rfl, hil, HA, hbel⟩ := hrel
    by_cases hlt : i < cs.length
    · obtain ⟨rfl, hR, hbl⟩ := hq (by omega)
      have hAt := (hR.step hbel hbl) i hlt
      have hcon := RCell_any cs[i].row cs[i].col cs[i].ver cs[i].gone cs[i].val
      have hi0 : (0 : Int) ≤ (i : Int) := by omega
      have hiz : (i : Int) < (cs.length : Int) := by omega
      cases hm : okC cs[i] with
      | true =>
        have HM : Hid ((cs.take (i + 1)).all okC = true) := by show _ = _; rw [all_take hlt, HA.out, hm]; rfl
        rw [show mayC cs[i].row cs[i].col cs[i].ver cs[i].gone cs[i].val = true from hm, if_pos rfl] at hcon
        clear hm hR
        generalize cs[i] = c at *
        obtain ⟨r, k, v, z, x⟩ := c
        obtain ⟨c0, c1, c2, c3, c4⟩ := hAt
        simp only at c0 c1 c2 c3 c4 hcon
        go_wp2_with fail
        refine (hcon _).mono ?_
        rintro e w1 ⟨rfl, hb1⟩
        have hbe := below2 hbel hb1
        clear hb1 hcon c0 c1 c2 c3 c4
        go_wp2
        go_roundw
        case rel => exact ⟨i + 1, by go_num, by omega, HM, hbe⟩
        case measure => simp [intOf]; omega
      | false =>
        have hall := all_no hlt hm
        have e1 : eB = [] := by rw [← HB.out]; unfold encB; rw [if_neg (by rw [hall]; simp)]
        have e2 : eE = 2 := by rw [← HE.out]; unfold encE; rw [if_neg (by rw [hall]; simp)]
        have HX : Hid _ := And.intro e1 e2
        rw [show mayC cs[i].row cs[i].col cs[i].ver cs[i].gone cs[i].val = false from hm, if_neg (by simp)] at hcon
        clear hm hR hall e1 e2
        generalize cs[i] = c at *
        obtain ⟨r, k, v, z, x⟩ := c
        obtain ⟨c0, c1, c2, c3, c4⟩ := hAt
        simp only at c0 c1 c2 c3 c4 hcon
        go_wp2_with fail
        refine (hcon _).mono ?_
        rintro e w1 ⟨rfl, hb1⟩
        have hbe := below2 hbel hb1
        clear hb1 hcon c0 c1 c2 c3 c4
        go_wp2
        go_ret2
        exact ⟨by rw [HX.out.1, HX.out.2]; rfl, hbe⟩
    · have hie : i = cs.length := by omega
      subst hie
      rw [List.take_length] at HA
      go_wp2
      go_loopw [4, 6] (fun s4 s6 w' => ∃ i : Nat, s6 = .int .i64 (i : Int) ∧ i ≤ cs.length ∧ s4 = .int .i64 (sizeL (cs.take i) : Int) ∧ sizeL (cs.take i) ≤ 1048576 ∧ RowKit.Below w.heap.size w w') (fun _ s6 _ => cs.length - (intOf s6).toNat)
      case atStart => exact ⟨0, rfl, by omega, by simp [sizeL], by simp [sizeL], hbel⟩
      case round =>
        clear hbel
        obtain ⟨i, rfl, hil, rfl, hle, hbel⟩ := hrel
        by_cases hlt : i < cs.length
        · obtain ⟨rfl, hR, hbl⟩ := hq (by omega)
          have hAt := (hR.step hbel hbl) i hlt
          have hok := okC_len (all_get HA.out hlt)
          have hst := size_take hlt
          have hsm := size_mono cs (i + 1)
          have hse := size_enc cs
          have hi0 : (0 : Int) ≤ (i : Int) := by omega
          have hiz : (i : Int) < (cs.length : Int) := by omega
          rw [hst] at hsm
          have HST : Hid _ := hst
          clear hR hst
          generalize cs[i] = c at *
          obtain ⟨r, k, v, z, x⟩ := c
          obtain ⟨c0, c1, c2, c3, c4⟩ := hAt
          obtain ⟨k1, k2, k3, k4, k5⟩ := hok
          simp only at c0 c1 c2 c3 c4 k1 k2 k3 k4 k5 hsm
          generalize hS : sizeL (cs.take i) = S at *
          have HST2 : Hid (sizeL (cs.take (i + 1)) = S + (r.length + k.length + x.length + 5)) := HST.out
          clear HST hS
          by_cases hbig : S + (r.length + k.length + x.length + 5) ≤ 1048576
          · have hg : decide ((1048576 : Int) < (S : Int) + (r.length : Int) + (k.length : Int) + (x.length : Int) + 5) = false := by rw [decide_eq_false_iff_not]; omega
            go_wp2_with fail
            go_quiet (fail)
            have hbq := below_drewN hbel nq
            clear hbel c0 c1 c2 c3 c4
            generalize wr.drewN nq = wq at *
            go_wp2
            go_roundw
            case rel => exact ⟨i + 1, by go_num, by omega, by rw [HST2.out]; go_num, by rw [HST2.out]; exact hbig, hbq⟩
            case measure => simp [intOf]; omega
          · have hg : decide ((1048576 : Int) < (S : Int) + (r.length : Int) + (k.length : Int) + (x.length : Int) + 5) = true := by rw [decide_eq_true_eq]; omega
            have hlong : ¬ (encL cs).length ≤ 1048576 := by omega
            have e1 : eB = [] := by rw [← HB.out]; unfold encB; rw [if_pos HA.out, if_neg hlong]
            have e2 : eE = 3 := by rw [← HE.out]; unfold encE; rw [if_pos HA.out, if_neg hlong]
            have HX : Hid _ := And.intro e1 e2
            clear hlong e1 e2 hsm hse
            go_wp2_with fail
            go_quiet (fail)
            have hbq := below_drewN hbel nq
            clear hbel c0 c1 c2 c3 c4
            generalize wr.drewN nq = wq at *
            go_wp2
            go_ret2
            exact ⟨by rw [HX.out.1, HX.out.2]; rfl, hbq⟩
        · have hie : i = cs.length := by omega
          subst hie
          rw [List.take_length] at hle
          have hcl : cs.length ≤ 1048576 := by have := size_len cs; omega
          have hB := fun W hq => bytes_any q b off cap cs W hq hcl HA.out
          have hqs : ∀ W, RowKit.Below w.heap.size w W → (0 < cs.length → q = some ⟨b, off, none⟩ ∧ CRow W b off cs ∧ b < W.heap.size) := fun W hb h => ⟨(hq h).1, (hq h).2.1.step hb (hq h).2.2, Nat.lt_of_lt_of_le (hq h).2.2 hb.size⟩
          clear hq
          go_wp2_with fail
          refine (hB _ (hqs _ hbel)).mono ?_
          rintro e w1 ⟨rfl, hb1⟩
          have hbe := below2 hbel hb1
          clear hb1 hbel hB hqs
          by_cases hbig : (encL cs).length ≤ 1048576
          · have hg : decide ((1048576 : Int) < ((encL cs).length : Int)) = false := by rw [decide_eq_false_iff_not]; omega
            have e1 : eB = encL cs := by rw [← HB.out]; unfold encB; rw [if_pos HA.out, if_pos hbig]
            have e2 : eE = 0 := by rw [← HE.out]; unfold encE; rw [if_pos HA.out, if_pos hbig]
            have HX : Hid _ := e2
            rw [← e1] at hg ⊢
            clear e1 e2
            go_wp2
            go_ret2
            exact ⟨by rw [HX.out]; rfl, hbe⟩
          · have hg : decide ((1048576 : Int) < ((encL cs).length : Int)) = true := by rw [decide_eq_true_eq]; omega
            have e1 : eB = [] := by rw [← HB.out]; unfold encB; rw [if_pos HA.out, if_neg hbig]
            have e2 : eE = 3 := by rw [← HE.out]; unfold encE; rw [if_pos HA.out, if_neg hbig]
            have HX : Hid _ := And.intro e1 e2
            clear e1 e2
            go_wp2
            go_ret2
            exact ⟨by rw [HX.out.1, HX.out.2]; rfl, hbe⟩

end Go.Proofs.Ytjnfhbhcbcpjnaa
