/-
  The bytes of a list of cells, and the contract of cells.Encode.
-/
import Derived.Test.YtmekcfbopjgbeaaCFresh
import Derived.Test.YtmekcfbopjgbeaaCBld
import Derived.Test.YtmekcfbopjgbeaaPut
import Derived.Lib.QuietBelow
import Derived.BigQuiet
namespace Go.Proofs.Ytmekcfbopjgbeaa
open Go.RowKit Go.BigFrame Go.Sort
attribute [local go_sem] size_bstr toList_bstr ls_def

/-- A text as bytes; a cell; a list. -/
def txt (s : List UInt8) : List UInt8 := Lib.uvarint s.length ++ s
def layL (c : Cl) : List UInt8 := txt c.row ++ (txt c.col ++ (Lib.uvarint c.ver.toNat ++ ((if c.gone then [1] else [0]) ++ txt c.val)))
def bodyL (l : List Cl) : List UInt8 := l.flatMap layL
def encL (l : List Cl) : List UInt8 := Lib.uvarint l.length ++ bodyL l
/-- A cell may be. -/
def okC (c : Cl) : Bool := mayC c.row c.col c.ver c.gone c.val
theorem okC_len {c : Cl} (h : okC c = true) : c.row.length ≤ 32 ∧ c.col.length ≤ 16 ∧ 1 ≤ c.ver ∧ c.ver ≤ 1099511627776 ∧ c.val.length ≤ 65536 := by
  simp only [okC, mayC, storedB, Bool.and_eq_true, decide_eq_true_eq] at h
  omega

theorem putText (b s : List UInt8) (w : World) (hb : b.length ≤ 10000000000) (hs : s.length ≤ 10000000000) :
    Calls Try.prog 58 #[.string (bstr b), .string (bstr s)] w fun e w' => e = .returned (.string (bstr (b ++ txt s))) ∧ RowKit.Below w.heap.size w w' := by
  have := PutText_any (bstr b) (bstr s) w (by rw [size_bstr]; exact hb) (by rw [size_bstr]; exact hs)
  rw [append_text, data_bstr, data_bstr, size_bstr] at this
  exact this
theorem putNum (b : List UInt8) (x : Nat) (w : World) (hx : x < 18446744073709551616) (hb : b.length ≤ 10000000000) :
    Calls Try.prog 38 #[.string (bstr b), .int .u64 x] w fun e w' => e = .returned (.string (bstr (b ++ Lib.uvarint x))) ∧ RowKit.Below w.heap.size w w' := by
  have := PutNumber_any (bstr b) x w hx (by rw [size_bstr]; exact hb)
  rw [append_bstr] at this
  exact this
theorem putByte (b : List UInt8) (x : Nat) (w : World) (hx : x < 256) (hb : b.length ≤ 10000000000) :
    Calls Try.prog 59 #[.string (bstr b), .int .u8 x] w fun e w' => e = .returned (.string (bstr (b ++ [x.toUInt8]))) ∧ RowKit.Below w.heap.size w w' := by
  have := PutByte_any (bstr b) x w hx (by rw [size_bstr]; exact hb)
  rw [append_bstr] at this
  exact this
theorem txt_len {s : List UInt8} (h : s.length ≤ 10000000000) : (txt s).length ≤ s.length + 10 := by
  unfold txt
  rw [List.length_append]
  have := Lib.uvarint_length64 (x := s.length) (by omega)
  omega
theorem layL_len {c : Cl} (h : okC c = true) : (layL c).length ≤ 66000 := by
  obtain ⟨h1, h2, h3, h4, h5⟩ := okC_len h
  have t1 := txt_len (s := c.row) (by omega)
  have t2 := txt_len (s := c.col) (by omega)
  have t3 := txt_len (s := c.val) (by omega)
  have t4 := Lib.uvarint_length64 (x := c.ver.toNat) (by omega)
  unfold layL
  simp only [List.length_append]
  cases c.gone <;> simp <;> omega

set_option maxHeartbeats 2000000 in
set_option maxRecDepth 100000 in
theorem lay_any (c : Cl) (w : World) (hc : okC c = true) :
    Calls Try.prog 39 #[clV c] w fun e w' => e = .returned (.string (bstr (layL c))) ∧ RowKit.Below w.heap.size w w' := by
  obtain ⟨h1, h2, h3, h4, h5⟩ := okC_len hc
  clear hc
  obtain ⟨r, k, v, z, x⟩ := c
  simp only at h1 h2 h3 h4 h5
  have hB : RowKit.Below w.heap.size w (w.alloc (.cells #[.string (bstr r), .string (bstr k), .int .u64 v, .bool z, .string (bstr x)] 34)) := (RowKit.Below.refl _ _).alloc (Nat.le_refl _) _
  have hA := CellAt.new w 34 r k v z x
  have e1 := txt_len (s := r) (by omega)
  have e2 := txt_len (s := k) (by omega)
  have e3 := Lib.uvarint_length64 (x := v.toNat) (by omega)
  have l2 : (txt r ++ txt k).length ≤ 10000000000 := by rw [List.length_append]; omega
  have l3 : (txt r ++ txt k ++ Lib.uvarint v.toNat).length ≤ 10000000000 := by rw [List.length_append, List.length_append]; omega
  have l4 : ∀ {g : UInt8}, (txt r ++ txt k ++ Lib.uvarint v.toNat ++ [g]).length ≤ 10000000000 := by intro g; rw [List.length_append, List.length_append, List.length_append, List.length_singleton]; omega
  have p1 : ∀ W, Calls Try.prog 58 #[.string ⟨#[]⟩, .string (bstr r)] W fun e w' => e = .returned (.string (bstr (txt r))) ∧ RowKit.Below W.heap.size W w' := fun W => putText [] r W (by simp) (by omega)
  have p1b : ∀ W, Calls Try.prog 58 #[.string (bstr (txt r)), .string (bstr k)] W fun e w' => e = .returned (.string (bstr (txt r ++ txt k))) ∧ RowKit.Below W.heap.size W w' := fun W => putText (txt r) k W (by omega) (by omega)
  have p2 : ∀ W, Calls Try.prog 38 #[.string (bstr (txt r ++ txt k)), .int .u64 v] W fun e w' => e = .returned (.string (bstr (txt r ++ txt k ++ Lib.uvarint v.toNat))) ∧ RowKit.Below W.heap.size W w' := by
    intro W
    have := putNum (txt r ++ txt k) v.toNat W (by omega) l2
    rw [Int.toNat_of_nonneg (by omega)] at this
    exact this
  clear e1 e2 e3
  cases z with
  | true =>
    have p3 : ∀ W, Calls Try.prog 59 #[.string (bstr (txt r ++ txt k ++ Lib.uvarint v.toNat)), .int .u8 1] W fun e w' => e = .returned (.string (bstr (txt r ++ txt k ++ Lib.uvarint v.toNat ++ [1]))) ∧ RowKit.Below W.heap.size W w' := fun W => putByte _ 1 W (by omega) l3
    have p4 : ∀ W, Calls Try.prog 58 #[.string (bstr (txt r ++ txt k ++ Lib.uvarint v.toNat ++ [1])), .string (bstr x)] W fun e w' => e = .returned (.string (bstr (txt r ++ txt k ++ Lib.uvarint v.toNat ++ [1] ++ txt x))) ∧ RowKit.Below W.heap.size W w' := fun W => putText _ x W l4 (by omega)
    have HL : Hid (layL ⟨r, k, v, true, x⟩ = txt r ++ txt k ++ Lib.uvarint v.toNat ++ [1] ++ txt x) := by
      show _ = _
      unfold layL
      simp
    generalize layL ⟨r, k, v, true, x⟩ = L at *
    generalize txt r ++ txt k ++ Lib.uvarint v.toNat ++ [1] ++ txt x = L5 at *
    generalize txt r ++ txt k ++ Lib.uvarint v.toNat ++ [1] = L4 at *
    generalize txt r ++ txt k ++ Lib.uvarint v.toNat = L3 at *
    generalize txt r ++ txt k = L2 at *
    generalize txt r = L1 at *
    go_enter Try.func39, Try.ntmps39
    go_wp2_with fail
    generalize w.alloc (.cells #[.string (bstr r), .string (bstr k), .int .u64 v, .bool true, .string (bstr x)] 34) = W at *
    have q0 := fun d os => cell_regrown hA.c0 d os
    have q1 := fun d os => cell_regrown hA.c1 d os
    refine wp_region_quiet_below (by kernel_rfl) (by kernel_rfl) ?_
    repeat (go_big_quiet_step (first
      | (go_at_call 58; with_reducible exact Calls.regrown_of (p1 _))
      | (go_at_call 58; with_reducible exact Calls.regrown_of (p1b _))))
    refine wpQuiet_nil ?_
    intro _ hw'
    obtain ⟨⟨dq, osq⟩, hw''⟩ := hw'
    subst hw''
    have hb1 := below_regrown W dq osq
    replace hB := below2 hB hb1
    replace hA := hA.step hb1
    clear q0 q1 hb1
    generalize grow (redrawn W dq) osq = W1 at *
    obtain ⟨_, _, c2, _, _⟩ := id hA
    go_wp2_with fail
    refine (p2 _).mono ?_
    rintro e w2 ⟨rfl, hb2⟩
    replace hB := below2 hB hb2
    replace hA := hA.step hb2
    clear hb2 c2
    go_wp2_with fail
    refine (p3 _).mono ?_
    rintro e w3 ⟨rfl, hb3⟩
    replace hB := below2 hB hb3
    replace hA := hA.step hb3
    clear hb3
    obtain ⟨_, _, _, _, c4⟩ := id hA
    go_wp2_with fail
    refine (p4 _).mono ?_
    rintro e w4 ⟨rfl, hb4⟩
    replace hB := below2 hB hb4
    clear hb4 c4
    go_wp2
    go_ret
    exact ⟨by rw [HL.out]; rfl, hB⟩
  | false =>
    have p3 : ∀ W, Calls Try.prog 59 #[.string (bstr (txt r ++ txt k ++ Lib.uvarint v.toNat)), .int .u8 0] W fun e w' => e = .returned (.string (bstr (txt r ++ txt k ++ Lib.uvarint v.toNat ++ [0]))) ∧ RowKit.Below W.heap.size W w' := fun W => putByte _ 0 W (by omega) l3
    have p4 : ∀ W, Calls Try.prog 58 #[.string (bstr (txt r ++ txt k ++ Lib.uvarint v.toNat ++ [0])), .string (bstr x)] W fun e w' => e = .returned (.string (bstr (txt r ++ txt k ++ Lib.uvarint v.toNat ++ [0] ++ txt x))) ∧ RowKit.Below W.heap.size W w' := fun W => putText _ x W l4 (by omega)
    have HL : Hid (layL ⟨r, k, v, false, x⟩ = txt r ++ txt k ++ Lib.uvarint v.toNat ++ [0] ++ txt x) := by
      show _ = _
      unfold layL
      simp
    generalize layL ⟨r, k, v, false, x⟩ = L at *
    generalize txt r ++ txt k ++ Lib.uvarint v.toNat ++ [0] ++ txt x = L5 at *
    generalize txt r ++ txt k ++ Lib.uvarint v.toNat ++ [0] = L4 at *
    generalize txt r ++ txt k ++ Lib.uvarint v.toNat = L3 at *
    generalize txt r ++ txt k = L2 at *
    generalize txt r = L1 at *
    go_enter Try.func39, Try.ntmps39
    go_wp2_with fail
    generalize w.alloc (.cells #[.string (bstr r), .string (bstr k), .int .u64 v, .bool false, .string (bstr x)] 34) = W at *
    have q0 := fun d os => cell_regrown hA.c0 d os
    have q1 := fun d os => cell_regrown hA.c1 d os
    refine wp_region_quiet_below (by kernel_rfl) (by kernel_rfl) ?_
    repeat (go_big_quiet_step (first
      | (go_at_call 58; with_reducible exact Calls.regrown_of (p1 _))
      | (go_at_call 58; with_reducible exact Calls.regrown_of (p1b _))))
    refine wpQuiet_nil ?_
    intro _ hw'
    obtain ⟨⟨dq, osq⟩, hw''⟩ := hw'
    subst hw''
    have hb1 := below_regrown W dq osq
    replace hB := below2 hB hb1
    replace hA := hA.step hb1
    clear q0 q1 hb1
    generalize grow (redrawn W dq) osq = W1 at *
    obtain ⟨_, _, c2, _, _⟩ := id hA
    go_wp2_with fail
    refine (p2 _).mono ?_
    rintro e w2 ⟨rfl, hb2⟩
    replace hB := below2 hB hb2
    replace hA := hA.step hb2
    clear hb2 c2
    go_wp2_with fail
    refine (p3 _).mono ?_
    rintro e w3 ⟨rfl, hb3⟩
    replace hB := below2 hB hb3
    replace hA := hA.step hb3
    clear hb3
    obtain ⟨_, _, _, _, c4⟩ := id hA
    go_wp2_with fail
    refine (p4 _).mono ?_
    rintro e w4 ⟨rfl, hb4⟩
    replace hB := below2 hB hb4
    clear hb4 c4
    go_wp2
    go_ret
    exact ⟨by rw [HL.out]; rfl, hB⟩

/-- What Encode answers. -/
def encB (l : List Cl) : List UInt8 := if l.all okC = true then (if (encL l).length ≤ 1048576 then encL l else []) else []
def encE (l : List Cl) : Int := if l.all okC = true then (if (encL l).length ≤ 1048576 then 0 else 3) else 2
theorem all_take {l : List Cl} {i : Nat} (h : i < l.length) : (l.take (i + 1)).all okC = ((l.take i).all okC && okC l[i]) := by
  rw [List.take_succ_eq_append_getElem h, List.all_append]
  simp
theorem all_no {l : List Cl} {i : Nat} (h : i < l.length) (k : okC l[i] = false) : l.all okC = false := by
  rw [List.all_eq_false]
  exact ⟨l[i], List.getElem_mem h, by rw [k]; simp⟩
theorem all_get {l : List Cl} (h : l.all okC = true) {i : Nat} (hi : i < l.length) : okC l[i] = true := List.all_eq_true.1 h _ (List.getElem_mem hi)
theorem body_take {l : List Cl} {i : Nat} (h : i < l.length) : bodyL (l.take (i + 1)) = bodyL (l.take i) ++ layL l[i] := by
  unfold bodyL
  rw [List.take_succ_eq_append_getElem h, List.flatMap_append]
  simp
theorem body_mono (l : List Cl) (i : Nat) : (bodyL (l.take i)).length ≤ (bodyL l).length := by
  have : l = l.take i ++ l.drop i := (List.take_append_drop i l).symm
  conv => rhs; rw [this]
  unfold bodyL
  rw [List.flatMap_append, List.length_append]
  omega

set_option maxHeartbeats 4000000 in
set_option maxRecDepth 100000 in
theorem Encode_any (q : Option Addr) (b off cap : Nat) (cs : List Cl) (w : World) (hq : 0 < cs.length → q = some ⟨b, off, none⟩ ∧ CRow w b off cs ∧ b < w.heap.size) (hn : cs.length * 64 ≤ 140737488351232) :
    Calls Try.prog 20 #[.slice q cs.length cap] w fun e w' => e = .returned (.tuple #[.string (bstr (encB cs)), .int .i64 (encE cs)]) ∧ RowKit.Below w.heap.size w w' := by
  generalize heB : encB cs = eB
  generalize heE : encE cs = eE
  have HB : Hid (encB cs = eB) := heB
  have HE : Hid (encE cs = eE) := heE
  clear heB heE
  go_enter Try.func20, Try.ntmps20
  go_wp2
  go_loopw [11] (fun s11 wr => ∃ i : Nat, s11 = .int .i64 (i : Int) ∧ i ≤ cs.length ∧ Hid ((cs.take i).all okC = true) ∧ RowKit.Below w.heap.size w wr) (fun s11 _ => cs.length - (intOf s11).toNat)
  case atStart => exact ⟨0, rfl, by omega, by show _ = _; simp, RowKit.Below.refl _ _⟩
  case round =>
    obtain ⟨i, rfl, hil, HA, hbel⟩ := hrel
    by_cases hlt : i < cs.length
    · obtain ⟨rfl, hR, hbl⟩ := hq (by omega)
      have hAt := (hR.step hbel hbl) i hlt
      have hcon := Cell_any cs[i].row cs[i].col cs[i].ver cs[i].gone cs[i].val
      have hW1 : RowKit.Below wr.heap.size wr (wr.alloc (.cells #[.string (bstr cs[i].row), .string (bstr cs[i].col), .int .u64 cs[i].ver, .bool cs[i].gone, .string (bstr cs[i].val)] 34)) := (RowKit.Below.refl _ _).alloc (Nat.le_refl _) _
      cases hm : okC cs[i] with
      | true =>
        have HM : Hid ((cs.take (i + 1)).all okC = true) := by show _ = _; rw [all_take hlt, HA.out, hm]; rfl
        rw [show mayC cs[i].row cs[i].col cs[i].ver cs[i].gone cs[i].val = true from hm, if_pos rfl] at hcon
        clear hm hR
        generalize cs[i] = c at *
        obtain ⟨r, k, v, z, x⟩ := c
        obtain ⟨c0, c1, c2, c3, c4⟩ := hAt
        simp only at c0 c1 c2 c3 c4 hcon hW1
        go_wp2_with fail
        refine (hcon _).mono ?_
        rintro e w1 ⟨rfl, hb1⟩
        have hbe := below2 hbel (below2 hW1 hb1)
        clear hb1 hcon c0 c1 c2 c3 c4 hW1
        go_wp2
        go_roundw
        case rel => exact ⟨i + 1, by go_num, by omega, HM, hbe⟩
        case measure => simp [intOf]; omega
      | false =>
        have hall := all_no hlt hm
        have e1 : eB = [] := by rw [← HB.out]; unfold encB; rw [if_neg (by rw [hall]; simp)]
        have e2 : eE = 2 := by rw [← HE.out]; unfold encE; rw [if_neg (by rw [hall]; simp)]
        have HX : Hid _ := And.intro e1 e2
        rw [show mayC cs[i].row cs[i].col cs[i].ver cs[i].gone cs[i].val = false from hm, if_neg (by simp)] at hcon
        clear hm hR hall e1 e2
        generalize cs[i] = c at *
        obtain ⟨r, k, v, z, x⟩ := c
        obtain ⟨c0, c1, c2, c3, c4⟩ := hAt
        simp only at c0 c1 c2 c3 c4 hcon hW1
        go_wp2_with fail
        refine (hcon _).mono ?_
        rintro e w1 ⟨rfl, hb1⟩
        have hbe := below2 hbel (below2 hW1 hb1)
        clear hb1 hcon c0 c1 c2 c3 c4 hW1
        go_wp2
        go_ret2
        exact ⟨by rw [HX.out.1, HX.out.2]; rfl, hbe⟩
    · have hie : i = cs.length := by omega
      subst hie
      rw [List.take_length] at HA
      have hpn : ∀ W, Calls Try.prog 38 #[.string ⟨#[]⟩, .int .u64 (cs.length : Int)] W fun e w' => e = .returned (.string (bstr (Lib.uvarint cs.length))) ∧ RowKit.Below W.heap.size W w' := fun W => putNum [] cs.length W (by omega) (by simp)
      have hul := Lib.uvarint_length64 (x := cs.length) (by omega)
      have hnew := IsB.new wr
      have hB1 : RowKit.Below wr.heap.size wr (wr.alloc (.cells #[.pointer none, .slice none 0 0] 79)) := (RowKit.Below.refl _ _).alloc (Nat.le_refl _) _
      have hs1 : wr.heap.size + 1 ≤ (wr.alloc (.cells #[.pointer none, .slice none 0 0] 79)).heap.size := by simp
      have hwc : (IntKind.u64.wrap (cs.length : Int)) = (cs.length : Int) := by simp [IntKind.wrap, IntKind.bits, IntKind.signed]; omega
      go_wp2_with fail
      generalize hw1 : wr.alloc (.cells #[.pointer none, .slice none 0 0] 79) = w1 at *
      clear hw1
      refine (hpn _).mono ?_
      rintro e w2 ⟨rfl, hb2⟩
      have hI2 : IsB wr.heap.size wr.heap.size [] w2 := hnew.step hb2
      clear hpn
      go_wp2_with fail
      refine (WriteString_any wr.heap.size wr.heap.size [] (Lib.uvarint cs.length) w2 hI2 (by simp; omega) (by have := hb2.size; omega)).mono ?_
      rintro e w3 ⟨rfl, hI3, hb3⟩
      rw [List.nil_append] at hI3
      have hbw3 : RowKit.Below w.heap.size w w3 := below2 hbel ((below2 hB1 hb2).trans hb3)
      have hs3 : wr.heap.size + 1 ≤ w3.heap.size := by have := hb2.size; have := hb3.size; omega
      have hwN : w.heap.size ≤ wr.heap.size := hbel.size
      clear hI2 hnew hB1 hs1 hb2 hb3 hwc hbel
      obtain ⟨N, hN⟩ : ∃ N, wr.heap.size = N := ⟨_, rfl⟩
      rw [hN] at hI3 hs3 hwN
      go_wp2
      clear hN
      go_loopw [26] (fun s26 w' => ∃ i : Nat, s26 = .int .i64 (i : Int) ∧ i ≤ cs.length ∧ Hid (IsB N N (Lib.uvarint cs.length ++ bodyL (cs.take i)) w') ∧ (Lib.uvarint cs.length ++ bodyL (cs.take i)).length ≤ 1048576 ∧ N + 1 ≤ w'.heap.size ∧ RowKit.Below w.heap.size w w') (fun s26 _ => cs.length - (intOf s26).toNat)
      case atStart => exact ⟨0, rfl, by omega, by show IsB _ _ _ _; simpa [bodyL] using hI3, by simp [bodyL]; omega, hs3, hbw3⟩
      case round =>
        obtain ⟨i, rfl, hil, HI, hle, hNs, hbel⟩ := hrel
        by_cases hlt : i < cs.length
        · obtain ⟨rfl, hR, hbl⟩ := hq (by omega)
          have hAt := (hR.step hbel hbl) i hlt
          have hok := all_get HA.out hlt
          have hll := layL_len hok
          have hcon := fun W => lay_any cs[i] W hok
          have hbt := body_take hlt
          have hbm := body_mono cs (i + 1)
          have hW1 : RowKit.Below wr.heap.size wr (wr.alloc (.cells #[.string (bstr cs[i].row), .string (bstr cs[i].col), .int .u64 cs[i].ver, .bool cs[i].gone, .string (bstr cs[i].val)] 34)) := (RowKit.Below.refl _ _).alloc (Nat.le_refl _) _
          clear hok hR
          have hL : ∃ L, Lib.uvarint cs.length ++ bodyL (cs.take i) = L := ⟨_, rfl⟩
          obtain ⟨L, hL⟩ := hL
          have hL2 : Lib.uvarint cs.length ++ bodyL (cs.take (i + 1)) = L ++ layL cs[i] := by rw [hbt, ← hL, List.append_assoc]
          rw [hL] at HI hle
          have HL2 : Hid _ := hL2
          have HBM : Hid _ := hbm
          clear hbt hL hL2 hbm
          generalize hY : layL cs[i] = Y at *
          clear hY
          generalize cs[i] = c at *
          obtain ⟨r, k, v, z, x⟩ := c
          obtain ⟨c0, c1, c2, c3, c4⟩ := hAt
          simp only at c0 c1 c2 c3 c4 hcon hW1
          go_wp2_with fail
          refine (hcon _).mono ?_
          rintro e w1 ⟨rfl, hb1⟩
          have hb1' := below2 hW1 hb1
          have hI1 := HI.out.step hb1'
          have hbe1 := below2 hbel hb1'
          clear hb1 hcon c0 c1 c2 c3 c4 hW1
          go_wp2_with fail
          refine (WriteString_any N N L Y w1 hI1 (by omega) (by have := hb1'.size; omega)).mono ?_
          rintro e w2 ⟨rfl, hI2, hb2⟩
          have hbe2 : RowKit.Below w.heap.size w w2 := hbe1.trans (hb2.mono hwN)
          have hNs2 : N + 1 ≤ w2.heap.size := by have := hb1'.size; have := hb2.size; omega
          have HI2 : Hid _ := hI2
          clear hb2 hI1 hI2 hb1' hbe1
          go_wp2_with fail
          refine (Len_any N N _ w2 HI2.out).mono ?_
          rintro e w2' ⟨rfl, rfl⟩
          by_cases hbig : (L ++ Y).length ≤ 1048576
          · have hg : decide ((1048576 : Int) < ((L ++ Y).length : Int)) = false := by rw [decide_eq_false_iff_not]; omega
            generalize hLY : L ++ Y = LY at *
            go_wp2
            go_roundw
            case rel => exact ⟨i + 1, by go_num, by omega, by rw [HL2.out]; exact HI2, by rw [HL2.out]; exact hbig, hNs2, hbe2⟩
            case measure => simp [intOf]; omega
          · have hg : decide ((1048576 : Int) < ((L ++ Y).length : Int)) = true := by rw [decide_eq_true_eq]; omega
            have hlong : ¬ (encL cs).length ≤ 1048576 := by
              have h1 := HBM.out
              have h2 := congrArg List.length HL2.out
              rw [List.length_append] at h2
              unfold encL
              rw [List.length_append]
              omega
            have e1 : eB = [] := by rw [← HB.out]; unfold encB; rw [if_pos HA.out, if_neg hlong]
            have e2 : eE = 3 := by rw [← HE.out]; unfold encE; rw [if_pos HA.out, if_neg hlong]
            have HX : Hid _ := And.intro e1 e2
            clear hlong e1 e2
            generalize hLY : L ++ Y = LY at *
            go_wp2
            go_ret2
            exact ⟨by rw [HX.out.1, HX.out.2]; rfl, hbe2⟩
        · have hie : i = cs.length := by omega
          subst hie
          rw [List.take_length] at HI hle
          have hle' : (encL cs).length ≤ 1048576 := hle
          have e1 : eB = Lib.uvarint cs.length ++ bodyL cs := by rw [← HB.out]; unfold encB; rw [if_pos HA.out, if_pos hle']; rfl
          have e2 : eE = 0 := by rw [← HE.out]; unfold encE; rw [if_pos HA.out, if_pos hle']
          have HX : Hid _ := e2
          rw [← e1] at HI
          clear e1 e2
          go_wp2_with fail
          refine (String_any N N eB _ HI.out (by omega)).mono ?_
          rintro e w1 ⟨rfl, hb1⟩
          have hbe : RowKit.Below w.heap.size w w1 := hbel.trans (hb1.mono hwN)
          go_wp2
          go_ret2
          exact ⟨by rw [HX.out]; rfl, hbe⟩

end Go.Proofs.Ytmekcfbopjgbeaa
