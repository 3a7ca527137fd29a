/-
  The contracts of seal.first and seal.Open.
-/
import Derived.Test.YtmimmbcchbmnbabDoorFrm
import Derived.BigQuiet
import Derived.Lib.QuietBelow
import Derived.Deep.RegionHeld3
namespace Go.Proofs.YtmimmbcchbmnbabDoor
open Go.RowKit Go.BigFrame
attribute [local go_sem] size_bstr getElem_bstr toList_bstr append_bstr

theorem run_piece {P : Program} (t : TypeId) (L : List UInt8) (i j : Nat) (hij : i ≤ j) (hj : j ≤ L.length) (w : World) (ht : P.underlying t = some .string) :
    (Instr.slice t (.string (bstr L)) (some (.int .i64 (i : Int))) (some (.int .i64 (j : Int))) none).run P w = .ok (.string (bstr ((L.drop i).take (j - i)))) w := by
  have h := run_slice_string (P := P) (w := w) t (bstr L) .i64 .i64 (i : Int) (j : Int) ht (by omega) (by omega) (by rw [size_bstr]; omega)
  rw [h]
  have e2 : (bstr L).extract ((i : Int).toNat) ((j : Int).toNat) = bstr ((L.drop i).take (j - i)) := by
    apply ByteArray.ext
    simp [bstr, List.extract_eq_take_drop]
  rw [e2]

set_option maxHeartbeats 400000 in
theorem first_short (s : List UInt8) (w : World) (h : s.length < 8) :
    Calls Tryd.prog 12 #[.string (bstr s)] w fun e w' => e = .returned (.tuple #[.string (bstr []), .int .i64 0]) ∧ Below w.heap.size w w' := by
  go_enter Tryd.func12, Tryd.ntmps12
  go_wp2
  go_ret2
  exact ⟨rfl, Below.refl _ _⟩

set_option maxHeartbeats 200000 in
theorem first_long (a b c d e1 f g i : UInt8) (t : List UInt8) (w : World) (hm : t.length ≤ 9223372036854775000) (hbad : ¬ (rd4 a b c d ≤ 1048576 ∧ rd4 a b c d ≤ t.length)) :
    Calls Tryd.prog 12 #[.string (bstr (a :: b :: c :: d :: e1 :: f :: g :: i :: t))] w fun e w' => e = .returned (.tuple #[.string (bstr []), .int .i64 0]) ∧ Below w.heap.size w w' := by
  have hrd := rd4_lt a b c d
  have hrc := readLength_any a b c d (e1 :: f :: g :: i :: t)
  have hsz : (a :: b :: c :: d :: e1 :: f :: g :: i :: t).length = t.length + 8 := rfl
  generalize rd4 a b c d = n at *
  generalize a :: b :: c :: d :: e1 :: f :: g :: i :: t = s at *
  go_enter Tryd.func12, Tryd.ntmps12
  go_wp2_with fail
  refine (hrc _).mono ?_
  rintro e w1 ⟨rfl, hb1⟩
  clear hrc
  by_cases hn : n ≤ 1048576
  · have hn2 : t.length < n := by omega
    clear hbad
    have hg : decide ((1048576 : Int) < (n : Int)) = false := decide_eq_false (by omega)
    go_wp2
    go_ret2
    exact ⟨rfl, hb1⟩
  · clear hbad
    have hg : decide ((1048576 : Int) < (n : Int)) = true := decide_eq_true (by omega)
    go_wp2
    go_ret2
    exact ⟨rfl, hb1⟩

theorem Sum_lit_drew (W : World) (n : Nat) (ps : List (List UInt8)) (cs : Array Value) (h : cs.toList = ps.map fun p => .string (bstr p)) (hn : ps.length = n) (ht : Tabs W) (hlen : n ≤ 1000000) (hl : ∀ p ∈ ps, p.length ≤ 9223372036854775807) :
    Calls Tryd.prog 9 #[.slice (some ⟨W.heap.size, 0, none⟩) n n] (W.alloc (.cells cs 9)).drew fun e w' => e = .returned (.int .u32 ((crc ps.flatten).toNat : Int)) ∧ Below W.heap.size W w' := by
  subst hn
  have hba : Below W.heap.size W (W.alloc (.cells cs 9)).drew := ((Below.refl _ _).alloc (Nat.le_refl _) _).drew
  have hs : StrsAt (W.alloc (.cells cs 9)).drew W.heap.size 0 ps := strsAt_lit W ps cs _ h
  refine (Sum_any W.heap.size 0 ps.length ps _ (ht.below hba) hs hlen hl).mono ?_
  rintro e w2 ⟨rfl, hb2⟩
  exact ⟨rfl, hba.trans (hb2.mono hba.size)⟩

set_option maxHeartbeats 2000000 in
set_option maxRecDepth 100000 in
theorem first_in (a b c d e1 f g i : UInt8) (t : List UInt8) (w : World) (hm : t.length ≤ 9223372036854775000) (ht : Tabs w) (hn : rd4 a b c d ≤ 1048576) (hn2 : rd4 a b c d ≤ t.length) :
    Calls Tryd.prog 12 #[.string (bstr (a :: b :: c :: d :: e1 :: f :: g :: i :: t))] w fun e w' =>
      (le4 (crc ([a, b, c, d] ++ t.take (rd4 a b c d))).toNat = [e1, f, g, i] → e = .returned (.tuple #[.string (bstr (t.take (rd4 a b c d))), .int .i64 (8 + (rd4 a b c d : Int))])) ∧
      (¬ le4 (crc ([a, b, c, d] ++ t.take (rd4 a b c d))).toNat = [e1, f, g, i] → e = .returned (.tuple #[.string (bstr []), .int .i64 0])) ∧ Below w.heap.size w w' := by
  have hrc := readLength_any a b c d (e1 :: f :: g :: i :: t)
  have hsz : (a :: b :: c :: d :: e1 :: f :: g :: i :: t).length = t.length + 8 := rfl
  have hp1 : ∀ W : World, (Instr.slice 9 (.string (bstr (a :: b :: c :: d :: e1 :: f :: g :: i :: t))) (some (.int .i64 8)) (some (.int .i64 (8 + (rd4 a b c d : Int)))) none).run Tryd.prog W = .ok (.string (bstr (t.take (rd4 a b c d)))) W := by
    intro W
    have := run_piece (P := Tryd.prog) 9 (a :: b :: c :: d :: e1 :: f :: g :: i :: t) 8 (8 + rd4 a b c d) (by omega) (by rw [hsz]; omega) W Tryd.underlying9
    rw [show (a :: b :: c :: d :: e1 :: f :: g :: i :: t).drop 8 = t from rfl, show 8 + rd4 a b c d - 8 = rd4 a b c d from by omega] at this
    exact this
  have hp2 : ∀ W : World, (Instr.slice 9 (.string (bstr (a :: b :: c :: d :: e1 :: f :: g :: i :: t))) none (some (.int .i64 4)) none).run Tryd.prog W = .ok (.string (bstr [a, b, c, d])) W :=
    fun W => run_head (P := Tryd.prog) 9 (a :: b :: c :: d :: e1 :: f :: g :: i :: t) 4 (by rw [hsz]; omega) W Tryd.underlying9
  have hp3 : ∀ W : World, (Instr.slice 9 (.string (bstr (a :: b :: c :: d :: e1 :: f :: g :: i :: t))) (some (.int .i64 4)) (some (.int .i64 8)) none).run Tryd.prog W = .ok (.string (bstr [e1, f, g, i])) W :=
    fun W => run_piece (P := Tryd.prog) 9 (a :: b :: c :: d :: e1 :: f :: g :: i :: t) 4 8 (by omega) (by rw [hsz]; omega) W Tryd.underlying9
  have hul : (t.take (rd4 a b c d)).length ≤ 9223372036854775807 := by rw [List.length_take]; omega
  generalize t.take (rd4 a b c d) = u at *
  generalize rd4 a b c d = n at *
  generalize a :: b :: c :: d :: e1 :: f :: g :: i :: t = s at *
  have hcl := (crc ([a, b, c, d] ++ u)).isLt
  have hq4 : [a, b, c, d].length ≤ 9223372036854775807 := by simp
  generalize [a, b, c, d] = q at *
  generalize [e1, f, g, i] = z at *
  have hg : decide ((1048576 : Int) < (n : Int)) = false := decide_eq_false (by omega)
  go_enter Tryd.func12, Tryd.ntmps12
  go_wp2_with fail
  refine (hrc _).mono ?_
  clear hrc
  rintro e w1 ⟨rfl, hb1⟩
  have ht1 := ht.below hb1
  go_wp2_with fail
  refine wp_region_noPanic ?_
  refine wp_region_any (by kernel_rfl) ?_
  change wpAny _ _ _ _ _ _ _ (World.drew _)
  refine wpAny_take (i := 0) (v := ?v1) rfl (by kernel_rfl) (by kernel_rfl) (by kernel_rfl) (fun _ _ _ h => h) (Or.inl ⟨by rfl, ?y1⟩) ?_
  case y1 => (intro w; go_simp; try with_reducible rfl)
  refine wpAny_take (i := 1) (v := ?v2) rfl (by kernel_rfl) (by kernel_rfl) (by kernel_rfl) (fun _ _ _ h => h) (Or.inl ⟨by rfl, ?y2⟩) ?_
  case y2 => (intro w; go_simp; try with_reducible rfl)
  refine wpAny_take (i := 2) (v := ?v3) rfl (by kernel_rfl) (by kernel_rfl) (by kernel_rfl) (fun _ _ _ h => h) (Or.inl ⟨by rfl, ?y3⟩) ?_
  case y3 => (intro w; go_simp; try with_reducible rfl)
  refine wpAny_take (i := 6) (v := ?v4) rfl (by kernel_rfl) (by kernel_rfl) (by kernel_rfl) (fun _ _ _ h => h) (Or.inl ⟨by rfl, ?y4⟩) ?_
  case y4 => (intro w; go_simp; try with_reducible rfl)
  refine wpAny_take (i := 7) (v := ?v5) rfl (by kernel_rfl) (by kernel_rfl) (by kernel_rfl) (fun _ _ _ h => h) (Or.inl ⟨by rfl, ?y5⟩) ?_
  case y5 => (intro w; go_simp; try with_reducible rfl)
  refine wpAny_ready (rs := [3]) (by kernel_rfl) (by simp) ?_
  refine AllReady.cons rfl (fun K hK => ?_) AllReady.nil
  go_simp
  refine hK _ _ ?_
  clear hK K
  refine wpAny_ready (rs := [4]) (by kernel_rfl) (by simp) ?_
  refine AllReady.cons rfl (fun K hK => ?_) AllReady.nil
  go_simp
  refine (Sum_lit_drew w1 2 [q, u] #[.string (bstr q), .string (bstr u)] rfl rfl ht1 (by decide) (all2 hq4 hul)).mono ?_
  rintro e w2 ⟨rfl, hb2⟩
  rw [show [q, u].flatten = q ++ u from by simp]
  refine hK _ _ ?_
  clear hK K
  refine wpAny_ready (rs := [5]) (by kernel_rfl) (by simp) ?_
  refine AllReady.cons rfl (fun K hK => ?_) AllReady.nil
  go_simp
  refine (laySum_any (crc (q ++ u)).toNat _ hcl).mono ?_
  rintro e w3 ⟨rfl, hb3⟩
  have hbe : Below w.heap.size w w3 := hb1.trans ((hb2.trans (hb3.mono hb2.size)).mono hb1.size)
  generalize hy : le4 (crc (q ++ u)).toNat = y
  have HY : Hid (le4 (crc (q ++ u)).toNat = y) := hy
  clear hy
  refine hK _ _ ?_
  clear hK K
  refine wpAny_ready (rs := [8]) (by kernel_rfl) (by simp) ?_
  refine AllReady.cons rfl (fun K hK => ?_) AllReady.nil
  go_simp
  refine hK _ _ ?_
  clear hK K
  refine wpAny_done (by kernel_rfl) ?_ _
  refine NoPanic.normal ?_
  by_cases hd : y = z
  · have hyt : (y == z) = true := by rw [hd]; simp
    rw [hyt, Bool.not_true]
    go_wp2
    go_ret2
    exact ⟨fun _ => rfl, fun h => absurd (HY.out.trans hd) h, hbe⟩
  · have hyf : (y == z) = false := by simp [hd]
    rw [hyf, Bool.not_false]
    go_wp2
    go_ret2
    exact ⟨fun h => absurd (HY.out.symm.trans h) hd, fun _ => rfl, hbe⟩


/-- seal.first, whatever it is handed. -/
theorem first_none (s : List UInt8) (w : World) (hm : s.length ≤ 9223372036854775000) (ht : Tabs w) (h : opn s = none) :
    Calls Tryd.prog 12 #[.string (bstr s)] w fun e w' => e = .returned (.tuple #[.string (bstr []), .int .i64 0]) ∧ Below w.heap.size w w' := by
  by_cases hs : s.length < 8
  · exact first_short s w hs
  · obtain ⟨a, b, c, d, e, f, g, i, t, rfl⟩ := ex8 (Nat.le_of_not_lt hs)
    simp only [List.length_cons] at hm
    by_cases hin : rd4 a b c d ≤ 1048576 ∧ rd4 a b c d ≤ t.length
    · refine (first_in a b c d e f g i t w (by omega) ht hin.1 hin.2).mono ?_
      rintro x w' ⟨_, h2, h3⟩
      refine ⟨h2 ?_, h3⟩
      intro hc
      rw [opn_eq, if_pos ⟨hin.1, hin.2, hc⟩] at h
      exact absurd h (by simp)
    · exact first_long a b c d e f g i t w (by omega) hin
theorem first_some (s b : List UInt8) (w : World) (hm : s.length ≤ 9223372036854775000) (ht : Tabs w) (h : opn s = some b) :
    Calls Tryd.prog 12 #[.string (bstr s)] w fun e w' => e = .returned (.tuple #[.string (bstr b), .int .i64 (8 + (b.length : Int))]) ∧ Below w.heap.size w w' := by
  by_cases hs : s.length < 8
  · rw [opn_short hs] at h
    exact absurd h (by simp)
  · obtain ⟨a, b1, c, d, e, f, g, i, t, rfl⟩ := ex8 (Nat.le_of_not_lt hs)
    simp only [List.length_cons] at hm
    rw [opn_eq] at h
    by_cases hh : rd4 a b1 c d ≤ 1048576 ∧ rd4 a b1 c d ≤ t.length ∧ le4 (crc ([a, b1, c, d] ++ t.take (rd4 a b1 c d))).toNat = [e, f, g, i]
    · rw [if_pos hh] at h
      obtain ⟨h1, h2, h3⟩ := hh
      have hb := Option.some.inj h
      have hl : b.length = rd4 a b1 c d := by rw [← hb, List.length_take]; omega
      refine (first_in a b1 c d e f g i t w (by omega) ht h1 h2).mono ?_
      rintro x w' ⟨g1, _, g3⟩
      refine ⟨?_, g3⟩
      rw [g1 h3, hl, hb]
    · rw [if_neg hh] at h
      exact absurd h (by simp)

set_option maxHeartbeats 400000 in
theorem Clone_any (l : List UInt8) (w : World) (hl : l.length ≤ 10000000000) :
    Calls Tryd.prog 13 #[.string (bstr l)] w fun e w' => e = .returned (.string (bstr l)) ∧ Below w.heap.size w w' := by
  go_enter Tryd.func13, Tryd.ntmps13
  go_wp2_with fail
  refine (Tryd.stringslite_Clone (bstr l) _ (by rw [size_bstr]; omega)).mono ?_
  rintro e w1 ⟨rfl, hb⟩
  go_wp2
  go_ret
  exact ⟨rfl, hb⟩

set_option maxHeartbeats 400000 in
theorem Open_none (s : List UInt8) (w : World) (hm : s.length ≤ 9223372036854775000) (ht : Tabs w) (h : opn s = none) :
    Calls Tryd.prog 7 #[.string (bstr s)] w fun e w' => e = .returned (.tuple #[.string (bstr []), .int .i64 0, .int .i64 4]) ∧ Below w.heap.size w w' := by
  go_enter Tryd.func7, Tryd.ntmps7
  go_wp2_with fail
  refine (first_none s _ hm ht h).mono ?_
  rintro e w1 ⟨rfl, hb⟩
  go_wp2
  go_ret3
  exact ⟨rfl, hb⟩
set_option maxHeartbeats 400000 in
theorem Open_some (s b : List UInt8) (w : World) (hm : s.length ≤ 9223372036854775000) (ht : Tabs w) (h : opn s = some b) :
    Calls Tryd.prog 7 #[.string (bstr s)] w fun e w' => e = .returned (.tuple #[.string (bstr b), .int .i64 (8 + (b.length : Int)), .int .i64 0]) ∧ Below w.heap.size w w' := by
  have hbl := (opn_some h).1
  go_enter Tryd.func7, Tryd.ntmps7
  go_wp2_with fail
  refine (first_some s b _ hm ht h).mono ?_
  rintro e w1 ⟨rfl, hb⟩
  go_wp2_with fail
  refine (Clone_any b _ (by omega)).mono ?_
  rintro e w2 ⟨rfl, hb2⟩
  go_wp2
  go_ret3
  exact ⟨rfl, hb.trans (hb2.mono hb.size)⟩

end Go.Proofs.YtmimmbcchbmnbabDoor
