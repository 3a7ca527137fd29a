/-
  The document's answers for dice: New, Left, Next, Lay.
-/
import Derived.Test.YtgcgoijkgjfbmaaDLay
namespace Go.Proofs.Ytgcgoijkgjfbmaa
open Go.RowKit Go.BigFrame

/-- Block g are the document's dice, of which the bytes l are left; they and their bytes lie in the blocks from B to C. -/
def Rc (w : World) (B C g : Nat) (l : List UInt8) : Prop :=
  B ≤ g ∧ g < C ∧ C ≤ w.heap.size ∧ ∃ q cap b off, w.heap[g]? = some (.cells #[.slice q l.length cap] 40 (0, 0)) ∧ l.length ≤ cap ∧ cap ≤ maxLen ∧ (0 < l.length → q = some ⟨b, off, none⟩ ∧ B ≤ b ∧ b < C ∧ b ≠ g ∧ BRow w b off l)
theorem Rc.kept {w w' : World} {B C g k : Nat} {l : List UInt8} (h : Rc w B C g l) (hg : w.grownBy w' (some k)) (hk : k < B ∨ C ≤ k) : Rc w' B C g l := by
  obtain ⟨h1, h2, h3, q, cap, b, off, h4, h5, h6, h7⟩ := h
  refine ⟨h1, h2, Nat.le_trans h3 hg.size, q, cap, b, off, (hg.block g (by omega) (by simp; omega)).trans h4, h5, h6, fun h0 => ?_⟩
  obtain ⟨a1, a2, a3, a4, a5⟩ := h7 h0
  exact ⟨a1, a2, a3, a4, a5.block (hg.block b (by omega) (by simp; omega))⟩
theorem Rc.below {w w' : World} {B C D g : Nat} {l : List UInt8} (h : Rc w B C g l) (hb : Below D w w') (hC : C ≤ D) : Rc w' B C g l := by
  obtain ⟨h1, h2, h3, q, cap, b, off, h4, h5, h6, h7⟩ := h
  refine ⟨h1, h2, Nat.le_trans h3 hb.size, q, cap, b, off, (hb.block g (by omega)).trans h4, h5, h6, fun h0 => ?_⟩
  obtain ⟨a1, a2, a3, a4, a5⟩ := h7 h0
  exact ⟨a1, a2, a3, a4, a5.block (hb.block b (by omega))⟩

set_option maxHeartbeats 1000000 in
theorem RLeft_any (g B C : Nat) (l : List UInt8) (w : World) (h : Rc w B C g l) :
    Calls Try.prog 14 #[.pointer (some ⟨g, 0, none⟩)] w fun e w' => e = .returned (.int .i64 (l.length : Int)) ∧ w' = w := by
  obtain ⟨h1, h2, h3, q, cap, b, off, h4, h5, h6, h7⟩ := h
  have c0 : w.cell? ⟨g, 0, none⟩ = some (.slice q l.length cap) := (cells_block h4).1 0
  clear h4 h7
  go_enter Try.func14, Try.ntmps14
  go_wp2
  go_ret
  exact ⟨rfl, rfl⟩

set_option maxHeartbeats 2000000 in
set_option maxRecDepth 100000 in
theorem RNew_any (q : Option Addr) (cap : Nat) (l : List UInt8) (w : World) (h : BArg w q l) (hl : l.length ≤ 1000) :
    Calls Try.prog 9 #[.slice q l.length cap] w fun e w' => ∃ g, e = .returned (.pointer (some ⟨g, 0, none⟩)) ∧ Rc w' w.heap.size w'.heap.size g l ∧ Below w.heap.size w w' := by
  obtain ⟨i0, hi, hz0, hz1, hz2⟩ := info_parts Try.infoByte
  have hown0 : w.ownsRow w.heap.size 5 1 (.slice none 0 0) 0 [] := ⟨rfl, .inl ⟨rfl, rfl⟩⟩
  cases q with
  | none =>
    have h0 : l = [] := by
      by_cases h0 : 0 < l.length
      · obtain ⟨b, off, hq, _⟩ := h h0
        cases hq
      · exact List.eq_nil_of_length_eq_zero (by omega)
    subst h0
    go_enter Try.func9, Try.ntmps9
    go_wp2
    go_ret
    exact ⟨_, rfl, ⟨Nat.le_refl _, by simp, Nat.le_refl _, none, 0, 0, 0, heap_alloc_new w _, by simp, by decide, fun h => absurd h (by simp)⟩, (Below.refl _ _).alloc (Nat.le_refl _) _⟩
  | some a =>
    have hnews : ∀ j u, (Lib.byteCells l)[j]? = some u → w.cell? (a.add j) = some u := by
      intro j u hj
      have hjl : j < l.length := by
        have := (List.getElem?_eq_some_iff.1 hj).1
        rwa [Lib.byteCells_length] at this
      obtain ⟨b, off, hq, hR⟩ := h (by omega)
      cases hq
      rw [Addr.add_lit, hR j hjl, ← hj]
      simp [Lib.byteCells, hjl]
    go_enter Try.func9, Try.ntmps9
    go_wp2_with (at_builtin; refine wpList_append_own _ rfl _ _ 22 rfl w.heap.size 5 i0 (.int .u8 0) 1 1 Try.underlying22 hi hz0 hz1 hz2 rfl (by decide) _ _ _ rfl hown0 a l.length cap (Lib.byteCells l) rfl (by rw [Lib.byteCells_length, Nat.mul_one]) hnews (by intro u hu; obtain ⟨b, _, rfl⟩ := List.mem_map.1 hu; rfl) (by unfold maxLen; omega) (by omega) (Nat.le_refl _) ?_)
    intro v' w1 hown1 hgrow _
    have hb1 : Below w.heap.size w w1 := (Below.refl _ _).grown hgrow (Nat.le_refl _) (fun k hk => by cases hk)
    obtain ⟨q1, cap1, rfl, _, hc1, hc2, hq1, _⟩ := own_barg hown1
    clear hown1 hgrow
    go_wp2
    go_ret
    refine ⟨_, rfl, ⟨hb1.size, by simp, Nat.le_refl _, q1, cap1, ?_⟩, hb1.alloc hb1.size _⟩
    by_cases h0 : 0 < l.length
    · obtain ⟨b, hq, hB, hR⟩ := hq1 h0
      have hlt := hR.lt h0
      refine ⟨b, 0, heap_alloc_new w1 _, hc1, hc2, fun _ => ⟨hq, hB, by simp; omega, by omega, hR.block ?_⟩⟩
      exact ((Below.refl _ w1).alloc (Nat.le_refl _) _).block b hlt
    · exact ⟨0, 0, heap_alloc_new w1 _, hc1, hc2, fun h => absurd h h0⟩

set_option maxHeartbeats 2000000 in
set_option maxRecDepth 100000 in
theorem RLay_any (q : Option Addr) (cap : Nat) (l : List Int) (w : World) (h : IArg w q l) (hl : l.length ≤ 1000) :
    Calls Try.prog 17 #[.slice q l.length cap] w fun e w' => ∃ v, e = .returned v ∧ w'.ownsRow w.heap.size 5 1 v l.length (Lib.byteCells (l.map byt)) ∧ Below w.heap.size w w' := by
  obtain ⟨i0, hi, hz0, hz1, hz2⟩ := info_parts Try.infoByte
  go_enter Try.func17, Try.ntmps17
  go_wp2
  go_loopw [3, 4] (fun s3 s4 wr => ∃ i : Nat, s4 = .int .i64 (i : Int) ∧ i ≤ l.length ∧ wr.ownsRow w.heap.size 5 1 s3 i (Lib.byteCells ((l.take i).map byt)) ∧ Below w.heap.size w wr) (fun _ s4 _ => l.length - (intOf s4).toNat)
  case atStart => exact ⟨0, rfl, by omega, ⟨rfl, .inl ⟨rfl, rfl⟩⟩, Below.refl _ _⟩
  case round =>
    obtain ⟨i, rfl, hil, hown, hbel⟩ := hrel
    by_cases hlt : i < l.length
    · obtain ⟨b, off, rfl, hbl, hR⟩ := h (by omega)
      have c0 : wr.cell? ⟨b, off + i, none⟩ = some (.int .i64 l[i]) := (hR.block (hbel.block b hbl)) i hlt
      have hI : (i : Int) < (l.length : Int) := by omega
      have hbt := byt_toNat l[i]
      have t1 : -256 < l[i].tmod 256 := by have := Int.lt_tmod_of_pos l[i] (show (0 : Int) < 256 by omega); omega
      have t2 : l[i].tmod 256 < 256 := Int.tmod_lt_of_pos l[i] (by omega)
      have t3 : (l[i].tmod 256 + 256) % 256 = ((byt l[i]).toNat : Int) := by rw [hbt]; have := Int.tmod_add_mul_tdiv l[i] 256; omega
      have hwr : IntKind.i64.wrap (l[i].tmod 256 + 256) = l[i].tmod 256 + 256 := by rw [IntKind.wrap_i64]; omega
      have HX : Hid (byt l[i] = byt l[i]) := rfl
      clear hbt
      have hnx : (l.take (i + 1)).map byt = (l.take i).map byt ++ [byt l[i]] := by rw [List.take_succ_eq_append_getElem hlt, List.map_append]; rfl
      have HN : Hid _ := hnx
      clear hnx HX
      generalize byt l[i] = y at *
      generalize l[i] = x at *
      obtain ⟨t, ht⟩ : ∃ t, x.tmod 256 = t := ⟨_, rfl⟩
      rw [ht] at t1 t2 t3 hwr
      go_wp2_with (at_builtin; refine wpList_append_own _ rfl _ _ 22 rfl w.heap.size 5 i0 (.int .u8 0) 1 1 Try.underlying22 hi hz0 hz1 hz2 rfl (by decide) _ _ _ rfl (hown.alloc _) ⟨wr.heap.size, 0, none⟩ 1 1 [.int .u8 (y.toNat : Int)] rfl rfl ?c1 ?c2 ?c3 ?c4 ?c5 ?_)
      case c1 =>
        intro j u hj
        match j, hj with
        | 0, hj => simp at hj; subst hj; simp [Addr.add]
      case c2 => intro u hu; simp at hu; subst hu; rfl
      case c3 => unfold maxLen; omega
      case c4 => omega
      case c5 => have := hbel.size; simp; omega
      intro v' w3 hown3 hgrow _
      have hbw3 : Below w.heap.size w w3 := (hbel.alloc hbel.size _).grown hgrow (by have := hbel.size; simp; omega) (fun k hk => (hown.lt k hk).1)
      have hown4 : w3.ownsRow w.heap.size 5 1 v' (i + 1) (Lib.byteCells ((l.take (i + 1)).map byt)) := by
        rw [HN.out, byteCells_append]
        rw [← List.map_take] at hown3
        exact hown3
      clear hown hown3 hgrow c0
      go_wp2
      go_roundw
      case rel => exact ⟨i + 1, by go_num, by omega, hown4, hbw3⟩
      case measure => simp [intOf]; omega
    · have hie : i = l.length := by omega
      subst hie
      rw [List.take_length] at hown
      go_wp2
      go_ret
      exact ⟨_, rfl, hown, hbel⟩

theorem wid_of {n : Int} : (n < 2 → wid n = 0) ∧ (2 ≤ n → n ≤ 256 → wid n = 1) ∧ (256 < n → wid n = 2) := by
  unfold wid
  refine ⟨fun h => ?_, fun h1 h2 => ?_, fun h => ?_⟩
  · rw [if_neg (by omega), if_neg (by omega)]
  · rw [if_neg (by omega), if_pos (by omega)]
  · rw [if_pos h]
theorem Rc.set {w : World} {B C g : Nat} {l : List UInt8} (h : Rc w B C g l) (q' : Option Addr) (n' cap' b' off' : Nat) (l' : List UInt8) (hn : n' = l'.length) (h1 : l'.length ≤ cap') (h2 : cap' ≤ maxLen) (h3 : 0 < l'.length → q' = some ⟨b', off', none⟩ ∧ B ≤ b' ∧ b' < C ∧ b' ≠ g ∧ BRow w b' off' l') :
    Rc (w.setCell ⟨g, 0, none⟩ (.slice q' n' cap')) B C g l' := by
  subst hn
  obtain ⟨d1, d2, d3, q, cap, b, off, d4, d5, d6, d7⟩ := h
  refine ⟨d1, d2, by simpa using d3, q', cap', b', off', block_set d4 0 _, h1, h2, fun h0 => ?_⟩
  obtain ⟨a1, a2, a3, a4, a5⟩ := h3 h0
  exact ⟨a1, a2, a3, a4, a5.block (Below.heap_setCell _ _ _ _ (fun e => a4 (by rw [e])))⟩

set_option maxHeartbeats 4000000 in
set_option maxRecDepth 100000 in
theorem RNext_any (g B C : Nat) (n : Int) (l : List UInt8) (w : World) (h : Rc w B C g l) :
    Calls Try.prog 12 #[.pointer (some ⟨g, 0, none⟩), .int .i64 n] w fun e w' => e = .returned (.int .i64 (nxV n l)) ∧ Rc w' B C g (nxR n l) ∧ w.grownBy w' (some g) := by
  have hset := h.set
  have hR := h
  obtain ⟨h1, h2, h3, q, cap, b, off, h4, h5, h6, h7⟩ := h
  have c0 : w.cell? ⟨g, 0, none⟩ = some (.slice q l.length cap) := (cells_block h4).1 0
  have f0 := (cells_block h4).2 0
  clear h4
  unfold nxV nxR
  by_cases hn2 : n < 2
  · rw [wid_of.1 hn2, if_neg (by omega), List.drop_zero, tk_zero]
    go_enter Try.func12, Try.ntmps12
    go_wp2
    go_ret
    exact ⟨by simp, hR, grown_refl _ _⟩
  · by_cases hn3 : n ≤ 256
    · rw [wid_of.2.1 (by omega) hn3]
      cases l with
      | nil =>
        rw [if_pos (by simp)]
        have c0' : w.cell? ⟨g, 0, none⟩ = some (.slice q 0 cap) := c0
        clear c0 hset
        go_enter Try.func12, Try.ntmps12
        go_wp2
        go_ret
        exact ⟨rfl, hR, grown_refl _ _⟩
      | cons x l =>
        obtain ⟨rfl, e2, e3, e4, e5⟩ := h7 (by simp)
        rw [if_neg (by simp), tk_one]
        obtain ⟨m, hm⟩ : ∃ m, m = l.length + 1 := ⟨_, rfl⟩
        have c0' : w.cell? ⟨g, 0, none⟩ = some (.slice (some ⟨b, off, none⟩) m cap) := by rw [hm]; exact c0
        have c1 : w.cell? ⟨b, off, none⟩ = some (.int .u8 (x.toNat : Int)) := e5 0 (by simp)
        have hx := x.toNat_lt
        have hmc : m ≤ cap := by rw [hm]; exact h5
        have HM : Hid _ := hm
        have hm0 : ((m : Int) == 0) = false := by simp; omega
        have hI1 : (1 : Int) ≤ (m : Int) := by omega
        have hI2 : (m : Int) ≤ (cap : Int) := by omega
        have hr1 : (x.toNat : Int).tmod n = (x.toNat : Int) % n := Int.tmod_eq_emod_of_nonneg (by omega)
        clear c0 h7 hm
        by_cases hcap : cap = 1
        · subst hcap
          have hs1 := hset (some ⟨b, off, none⟩) 0 0 b off l (by have := HM.out; omega) (by have := HM.out; omega) (by decide) (fun h0 => absurd h0 (by have := HM.out; omega))
          have HS : Hid _ := hs1
          clear hset hs1
          go_enter Try.func12, Try.ntmps12
          go_wp2
          go_ret
          exact ⟨rfl, HS.out, grown_setCell _ _ _ _⟩
        · have hs1 := hset (some ⟨b, off + 1, none⟩) (m - 1) (cap - 1) b (off + 1) l (by have := HM.out; omega) (by have := HM.out; omega) (by omega) (fun h0 => ⟨rfl, e2, e3, e4, e5.drop 1⟩)
          have HS : Hid _ := hs1
          clear hset hs1
          go_enter Try.func12, Try.ntmps12
          go_wp2
          go_ret
          exact ⟨rfl, HS.out, grown_setCell _ _ _ _⟩
    · rw [wid_of.2.2 (by omega)]
      have few : ∀ k : Nat, l.length = k → k < 2 → Calls Try.prog 12 #[.pointer (some ⟨g, 0, none⟩), .int .i64 n] w fun e w' => e = .returned (.int .i64 0) ∧ Rc w' B C g [] ∧ w.grownBy w' (some g) := by
        intro k hk hk2
        rw [hk] at c0
        have hs1 := hset none 0 0 0 0 [] rfl (by simp) (by decide) (fun h0 => absurd h0 (by simp))
        have HS : Hid _ := hs1
        have hkI : (k : Int) < 2 := by omega
        clear hset hs1 hk
        go_enter Try.func12, Try.ntmps12
        go_wp2
        go_ret
        exact ⟨rfl, HS.out, grown_setCell _ _ _ _⟩
      rcases l with _ | ⟨x, _ | ⟨y, l⟩⟩
      · exact few 0 rfl (by omega)
      · exact few 1 rfl (by omega)
      · clear few
        obtain ⟨rfl, e2, e3, e4, e5⟩ := h7 (by simp)
        rw [if_neg (by simp), tk_two]
        obtain ⟨m, hm⟩ : ∃ m, m = l.length + 2 := ⟨_, rfl⟩
        have c0' : w.cell? ⟨g, 0, none⟩ = some (.slice (some ⟨b, off, none⟩) m cap) := by rw [hm]; exact c0
        have c1 : w.cell? ⟨b, off, none⟩ = some (.int .u8 (x.toNat : Int)) := e5 0 (by simp)
        have c2 : w.cell? ⟨b, off + 1, none⟩ = some (.int .u8 (y.toNat : Int)) := e5 1 (by simp)
        have hx := x.toNat_lt
        have hy := y.toNat_lt
        have hmc : m ≤ cap := by rw [hm]; exact h5
        have HM : Hid _ := hm
        have hI1 : (2 : Int) ≤ (m : Int) := by omega
        have hI3 : (1 : Int) < (m : Int) := by omega
        have hI4 : ¬ (m : Int) < 2 := by omega
        have hI2 : (m : Int) ≤ (cap : Int) := by omega
        have hr1 : (256 * (x.toNat : Int) + (y.toNat : Int)).tmod n = ((x.toNat * 256 + y.toNat : Nat) : Int) % n := by
          rw [Int.tmod_eq_emod_of_nonneg (by omega)]
          congr 1
          omega
        have hr2 : 65536 < n → (256 * (x.toNat : Int) + (y.toNat : Int)) % 65536 = ((x.toNat * 256 + y.toNat : Nat) : Int) % n := by
          intro hn
          rw [Int.emod_eq_of_lt (by omega) (by omega), Int.emod_eq_of_lt (by omega) (by omega)]
          omega
        obtain ⟨r, hr⟩ : ∃ r, r = ((x.toNat * 256 + y.toNat : Nat) : Int) % n := ⟨_, rfl⟩
        rw [← hr] at hr1 hr2 ⊢
        clear c0 h7 hm hr
        have hfin : ∃ q' cap', (∀ W : World, (Instr.slice 22 (.slice (some ⟨b, off, none⟩) m cap) (some (.int .i64 2)) none none).run Try.prog W = .ok (.slice q' (m - 2) cap') W) ∧ Rc (w.setCell ⟨g, 0, none⟩ (.slice q' (m - 2) cap')) B C g l := by
          obtain ⟨i0, hi, hz0, hz1, hz2⟩ := info_parts Try.infoByte
          have hel : Try.prog.elem 22 = 5 := by kernel_rfl
          have hs : ∀ W, (sizeOf (Try.prog.elem 22)).run Try.prog W = .ok 1 W := fun W => by rw [hel]; simp [Go.sizeOf, typeInfo, hi, hz1]
          have hsl := fun W => run_slice_l (P := Try.prog) W 22 (some ⟨b, off, none⟩) m cap Try.underlying22 .i64 2 (by omega) (by omega)
          refine ⟨if cap = 2 then some ⟨b, off, none⟩ else some ⟨b, off + 2, none⟩, cap - 2, fun W => ?_, ?_⟩
          · rw [hsl W, hs W]
            rfl
          · refine hset _ (m - 2) (cap - 2) b (off + 2) l (by have := HM.out; omega) (by have := HM.out; omega) (by omega) (fun h0 => ⟨?_, e2, e3, e4, e5.drop 2⟩)
            rw [if_neg (by have := HM.out; omega)]
        obtain ⟨q', cap', hsl, hfin⟩ := hfin
        have HF : Hid _ := hfin
        clear hset hfin e5
        by_cases hbig : 65536 < n
        · have hr3 := hr2 hbig
          go_enter Try.func12, Try.ntmps12
          go_wp2
          go_quiet (fail)
          go_wp2
          go_ret
          exact ⟨by rw [hr3]; rfl, HF.out, have hg := grown_setCell w g 0 (.slice q' (m - 2) cap'); ⟨hg.os, hg.tape, hg.output, hg.size, hg.block⟩⟩
        · clear hr2
          go_enter Try.func12, Try.ntmps12
          go_wp2
          go_quiet (fail)
          go_wp2
          go_ret
          exact ⟨rfl, HF.out, have hg := grown_setCell w g 0 (.slice q' (m - 2) cap'); ⟨hg.os, hg.tape, hg.output, hg.size, hg.block⟩⟩

end Go.Proofs.Ytgcgoijkgjfbmaa
