/-
  session.Put.
  The document's EncodeResult, and its Put.
-/
import Derived.Test.YtckokfhoelajcaaGreatGJSe2
import Derived.Test.YtckokfhoelajcaaGreatJRf
namespace Go.Proofs.YtckokfhoelajcaaGreat
open Go.RowKit Go.BigFrame
attribute [local go_sem] size_bstr toList_bstr append_bstr

/-- A session's bytes; what Put answers. -/
def ssL (q : Nat) (r : Rz) : List UInt8 := Lib.uvarint q ++ layR r
def ptK (q : Nat) (r : Rz) : Nat := if 1 ≤ q ∧ q ≤ 1099511627776 then (if okR r = true then (if (ssL q r).length ≤ 65536 then 2 else 1) else 0) else 0
def ptL (q : Nat) (r : Rz) : List UInt8 := if ptK q r = 2 then ssL q r else []
def ptE (q : Nat) (r : Rz) : Int := if ptK q r = 0 then 2 else if ptK q r = 1 then 3 else 0

end Go.Proofs.YtckokfhoelajcaaGreat

namespace Go.Proofs.YtckokfhoelajcaaGreat
open Go.RowKit Go.BigFrame
attribute [local go_sem] size_bstr toList_bstr append_bstr

theorem rStored_any (s : List UInt8) (w : World) :
    Calls Tryz.prog 44 #[.string (bstr s)] w fun x w' => x = .returned (.bool (decide (s.length ≤ 32))) ∧ w' = w := by
  go_enter Tryz.func44, Tryz.ntmps44
  go_wp2
  go_ret
  rw [show decide ((s.length : Int) ≤ 32) = decide (s.length ≤ 32) from decide_eq_decide.2 (by omega)]
  exact ⟨rfl, rfl⟩

set_option maxHeartbeats 1000000 in
theorem rResult_any (r : Rz) (w : World) :
    Calls Tryz.prog 54 #[rzV r] w fun x w' => x = .returned (.bool (okR r)) ∧ Below w.heap.size w w' := by
  obtain ⟨e, f, ro, va, ve⟩ := r
  obtain ⟨bS, hS⟩ : ∃ b, b = decide (ro.length ≤ 32) := ⟨_, rfl⟩
  obtain ⟨ok, hok⟩ : ∃ ok, ok = okR ⟨e, f, ro, va, ve⟩ := ⟨_, rfl⟩
  have ho : ok = (decide (0 ≤ e) && decide (e ≤ 15) && bS && decide (va.length ≤ 65536) && decide (ve ≤ 1099511627776)) := by rw [hok, hS]; rfl
  rw [← hok]
  have HS : Hid _ := hS
  have HO : Hid _ := ho
  clear ho hS hok
  go_enter Tryz.func54, Tryz.ntmps54
  by_cases h0 : 0 ≤ e
  · by_cases h1 : e ≤ 15
    · go_wp2_with fail
      refine (rStored_any ro _).mono ?_
      rintro x w2 ⟨rfl, rfl⟩
      rw [← HS.out]
      cases bS with
      | false =>
        obtain rfl : ok = false := by rw [HO.out]; simp
        go_wp2
        go_ret
        exact ⟨rfl, (Below.refl _ _).alloc (Nat.le_refl _) _⟩
      | true =>
        by_cases h2 : va.length ≤ 65536
        · have h2i : (va.length : Int) ≤ 65536 := by omega
          by_cases h3 : ve ≤ 1099511627776
          · have h3i : (ve : Int) ≤ 1099511627776 := by omega
            obtain rfl : ok = true := by rw [HO.out]; simp [h0, h1, h2, h3]
            go_wp2
            go_ret
            exact ⟨rfl, (Below.refl _ _).alloc (Nat.le_refl _) _⟩
          · have h3i : 1099511627776 < (ve : Int) := by omega
            obtain rfl : ok = false := by rw [HO.out]; simp [h3]
            clear h3
            go_wp2
            go_ret
            exact ⟨congrArg (fun b => Ending.returned (.bool b)) (decide_eq_false (by omega)), (Below.refl _ _).alloc (Nat.le_refl _) _⟩
        · have h2i : 65536 < (va.length : Int) := by omega
          obtain rfl : ok = false := by rw [HO.out]; simp [h2]
          clear h2
          go_wp2
          go_ret
          exact ⟨rfl, (Below.refl _ _).alloc (Nat.le_refl _) _⟩
    · have h1i : 15 < e := by omega
      obtain rfl : ok = false := by rw [HO.out]; simp [h1]
      clear h1
      go_wp2
      go_ret
      exact ⟨rfl, (Below.refl _ _).alloc (Nat.le_refl _) _⟩
  · have h0i : e < 0 := by omega
    obtain rfl : ok = false := by rw [HO.out]; simp [h0]
    clear h0
    go_wp2
    go_ret
    exact ⟨rfl, (Below.refl _ _).alloc (Nat.le_refl _) _⟩

theorem Below.of_gr {w w1 w2 : World} {p : Nat} (h : Below w.heap.size w w1) (g : w1.grownBy w2 (some p)) (hp : w.heap.size ≤ p) : Below w.heap.size w w2 := bel_grow h g hp
theorem cell_gr {w w' : World} {p b o : Nat} {v : Value} (g : w.grownBy w' (some p)) (hb : b ≠ p) (h : w.cell? ⟨b, o, none⟩ = some v) : w'.cell? ⟨b, o, none⟩ = some v :=
  (World.cell?_of_block (a := ⟨b, o, none⟩) (g.block b (block_lt_of_cell h) (fun e => hb (by cases e; rfl)))).trans h

set_option maxHeartbeats 4000000 in
set_option maxRecDepth 100000 in
theorem rPut_any (p : Nat) (r : Rz) (w : World) (h : PtB w p []) (hok : okR r = true) :
    Calls Tryz.prog 55 #[.pointer (some ⟨p, 0, none⟩), rzV r] w fun e w' => e = .returned (.tuple #[]) ∧ PtB w' p (layR r) ∧ w.grownBy w' (some p) := by
  obtain ⟨h1, h2, h3, h4, h5⟩ := okR_iff.1 hok
  obtain ⟨e, f, ro, va, ve⟩ := r
  simp only at h1 h2 h3 h4 h5
  obtain ⟨n, rfl⟩ : ∃ n : Nat, e = (n : Int) := ⟨e.toNat, by omega⟩
  have hwn : IntKind.u64.wrap (n : Int) = (n : Int) := by rw [IntKind.wrap_u64]; omega
  have hu1 := Lib.uvarint_length64 (x := n) (by omega)
  have ht1 := txt_len (s := ro) (by omega)
  have ht2 := txt_len (s := va) (by omega)
  have hbo : (bol f).length = 1 := by cases f <;> rfl
  have hl : layR ⟨(n : Int), f, ro, va, ve⟩ = (((([] ++ Lib.uvarint n) ++ bol f) ++ txt ro) ++ txt va) ++ Lib.uvarint ve := by
    unfold layR
    simp [List.append_assoc]
  rw [hl]
  have L1 : Hid ((([] : List UInt8) ++ Lib.uvarint n).length ≤ 10000000) := by show _ ≤ _; simp; omega
  have L2 : Hid ((([] ++ Lib.uvarint n) ++ bol f).length ≤ 10000000) := by show _ ≤ _; simp; omega
  have L3 : Hid (((([] ++ Lib.uvarint n) ++ bol f) ++ txt ro).length ≤ 10000000) := by show _ ≤ _; simp; omega
  have L4 : Hid ((((([] ++ Lib.uvarint n) ++ bol f) ++ txt ro) ++ txt va).length ≤ 10000000) := by show _ ≤ _; simp; omega
  have hpl := h.lt
  obtain ⟨w1, hw1⟩ : ∃ w1, w1 = w.alloc (.cells #[.int .i64 (n : Int), .bool f, .string (bstr ro), .string (bstr va), .int .u64 (ve : Int)] 46) := ⟨_, rfl⟩
  have hb1 : Below w.heap.size w w1 := by rw [hw1]; exact bel_alloc (Below.refl _ _)
  have hz1 : RzB w1 w.heap.size ⟨(n : Int), f, ro, va, ve⟩ := by rw [hw1]; exact heap_alloc_new w _
  have hP1 : PtB w1 p [] := h.below hb1
  have hg1 : w.grownBy w1 (some p) := grown_of_below hb1
  have hne : w.heap.size ≠ p := by omega
  have HNE : Hid _ := hne
  have HW : Hid _ := hw1
  obtain ⟨c0, c1, c2, c3, c4⟩ := hz1.facts
  simp only at c0 c1 c2 c3 c4
  clear hw1 h hok hl hb1 hz1 hne hpl
  go_enter Tryz.func55, Tryz.ntmps55
  go_upto_region 1 with fail
  rw [← HW.out]
  clear HW
  go_wp2_with fail
  refine (rN_any p n [] w1 hP1 (by omega) (by simp)).mono ?_
  rintro e w2 ⟨rfl, hP2, g2⟩
  have hg2 := grown_trans hg1 g2
  replace c1 := cell_gr g2 HNE.out c1
  replace c2 := cell_gr g2 HNE.out c2
  replace c3 := cell_gr g2 HNE.out c3
  replace c4 := cell_gr g2 HNE.out c4
  clear c0 hP1 g2 hg1
  go_wp2_with fail
  refine (rB_any p f _ w2 hP2 L1.out).mono ?_
  rintro e w3 ⟨rfl, hP3, g3⟩
  have hg3 := grown_trans hg2 g3
  replace c2 := cell_gr g3 HNE.out c2
  replace c3 := cell_gr g3 HNE.out c3
  replace c4 := cell_gr g3 HNE.out c4
  clear c1 hP2 g3 hg2
  go_wp2_with fail
  refine (rT_any p ro _ w3 hP3 (by omega) L2.out).mono ?_
  rintro e w4 ⟨rfl, hP4, g4⟩
  have hg4 := grown_trans hg3 g4
  replace c3 := cell_gr g4 HNE.out c3
  replace c4 := cell_gr g4 HNE.out c4
  clear c2 hP3 g4 hg3
  go_wp2_with fail
  refine (rT_any p va _ w4 hP4 (by omega) L3.out).mono ?_
  rintro e w5 ⟨rfl, hP5, g5⟩
  have hg5 := grown_trans hg4 g5
  replace c4 := cell_gr g5 HNE.out c4
  clear c3 hP4 g5 hg4
  go_wp2_with fail
  refine (rN_any p ve _ w5 hP5 (by omega) L4.out).mono ?_
  rintro e w6 ⟨rfl, hP6, g6⟩
  have hg6 := grown_trans hg5 g6
  clear c4 hP5 g6 hg5
  go_wp2
  first | exact end0 Tryz.results55 rfl ⟨rfl, hP6, hg6⟩ | exact ret0 Tryz.results55 rfl ⟨rfl, hP6, hg6⟩

set_option maxHeartbeats 4000000 in
set_option maxRecDepth 100000 in
theorem rEncode_any (r : Rz) (w : World) :
    Calls Tryz.prog 23 #[rzV r] w fun e w' =>
      e = .returned (.tuple #[.string (bstr (if okR r then layR r else [])), .int .i64 (if okR r then 0 else 2)]) ∧ Below w.heap.size w w' := by
  have hr := rResult_any r
  have hpu := rPut_any
  obtain ⟨L, hL⟩ : ∃ L, L = layR r := ⟨_, rfl⟩
  obtain ⟨ok, hok⟩ : ∃ ok, ok = okR r := ⟨_, rfl⟩
  have hp2 : ∀ p w, ok = true → PtB w p [] → Calls Tryz.prog 55 #[.pointer (some ⟨p, 0, none⟩), rzV r] w fun e w' => e = .returned (.tuple #[]) ∧ PtB w' p L ∧ w.grownBy w' (some p) := by
    intro p w ho hP
    rw [hL]
    exact rPut_any p r w hP (by rw [← hok]; exact ho)
  rw [← hok] at hr ⊢
  rw [← hL]
  have HP2 : Hid _ := hp2
  clear hL hok hpu hp2
  obtain ⟨e, f, ro, va, ve⟩ := r
  obtain ⟨w1, hw1⟩ : ∃ w1, w1 = w.alloc (.cells #[.int .i64 e, .bool f, .string (bstr ro), .string (bstr va), .int .u64 (ve : Int)] 46) := ⟨_, rfl⟩
  have hb1 : Below w.heap.size w w1 := by rw [hw1]; exact bel_alloc (Below.refl _ _)
  have hz1 : RzB w1 w.heap.size ⟨e, f, ro, va, ve⟩ := by rw [hw1]; exact heap_alloc_new w _
  have HW : Hid _ := hw1
  obtain ⟨c0, c1, c2, c3, c4⟩ := hz1.facts
  simp only at c0 c1 c2 c3 c4
  clear hw1 hz1
  go_enter Tryz.func23, Tryz.ntmps23
  go_upto_region 1 with fail
  rw [← HW.out]
  clear HW
  go_wp2_with fail
  refine (hr w1).mono ?_
  rintro x w2 ⟨rfl, hb2⟩
  replace c0 := cell_below hb2 c0
  replace c1 := cell_below hb2 c1
  replace c2 := cell_below hb2 c2
  replace c3 := cell_below hb2 c3
  replace c4 := cell_below hb2 c4
  have hB2 := bel_call hb2 hb1
  clear hb1 hb2 hr
  cases ok with
  | false =>
    go_wp2
    go_ret2
    exact ⟨rfl, hB2⟩
  | true =>
    obtain ⟨w3, hw3⟩ : ∃ w3, w3 = w2.alloc (.cells #[.string ⟨#[]⟩] 88) := ⟨_, rfl⟩
    have hb3 : Below w2.heap.size w2 w3 := by rw [hw3]; exact bel_alloc (Below.refl _ _)
    have hP3 : PtB w3 w2.heap.size [] := by rw [hw3]; exact heap_alloc_new w2 _
    replace c0 := cell_below hb3 c0
    replace c1 := cell_below hb3 c1
    replace c2 := cell_below hb3 c2
    replace c3 := cell_below hb3 c3
    replace c4 := cell_below hb3 c4
    have hB3 := bel_call hb3 hB2
    have hs2 : w.heap.size ≤ w2.heap.size := hB2.size
    have HW : Hid _ := hw3
    have HS : Hid _ := hs2
    clear hw3 hb3 hB2 hs2
    go_upto_region 4 with fail
    rw [← HW.out]
    clear HW
    go_wp2_with fail
    refine (HP2.out w2.heap.size w3 trivial hP3).mono ?_
    rintro x w4 ⟨rfl, hP4, g4⟩
    have hB4 := bel_grow hB3 g4 HS.out
    have d0 := hP4.cell
    clear c0 c1 c2 c3 c4 hP3 g4 hB3
    go_wp2
    go_ret2
    exact ⟨rfl, hB4⟩

end Go.Proofs.YtckokfhoelajcaaGreat
