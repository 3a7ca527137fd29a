/-
  quorum.Change.
-/
import Derived.Test.YtdoiknfpgmglaabUMt
import Derived.Deep.Cut
import Derived.Deep.CutBlock
import Derived.Deep.CutRange
namespace Go.Proofs.Ytdoiknfpgmglaab
open Go.RowKit Go.BigFrame

def clrB (m : Nat) (x : Int) : Nat := if 0 ≤ x ∧ x < 5 then m ^^^ (m &&& 2 ^ x.toNat) else m
theorem clrB_lt {m : Nat} {x : Int} (h : m < 32) : clrB m x < 32 := by
  unfold clrB
  split
  · refine Nat.xor_lt_two_pow (n := 5) h ?_
    exact Nat.lt_of_le_of_lt Nat.and_le_left h
  · exact h
theorem clrB_bit (m i : Nat) (x : Int) (hi : i < 5) : (clrB m x).testBit i = (m.testBit i && !decide ((i : Int) = x)) := by
  unfold clrB
  split
  · rename_i hx
    obtain ⟨k, rfl⟩ : ∃ k : Nat, x = (k : Int) := ⟨x.toNat, by omega⟩
    rw [Int.toNat_natCast, Nat.testBit_xor, Nat.testBit_and, Nat.testBit_two_pow]
    by_cases e : k = i
    · subst e; simp
    · have : ¬ (i : Int) = (k : Int) := by omega
      simp [e, this]
  · rename_i hx
    have : ¬ (i : Int) = x := by omega
    simp [this]
def clrA (m : Nat) (l : List Int) : Nat := l.foldl clrB m
theorem clrA_take (m : Nat) (l : List Int) (i : Nat) (h : i < l.length) : clrA m (l.take (i + 1)) = clrB (clrA m (l.take i)) l[i] := by
  unfold clrA
  rw [List.take_add_one, List.getElem?_eq_getElem h, List.foldl_append]
  rfl
theorem clrA_one (m : Nat) (x : Int) : clrA m (lst (mk 0 [x])) = clrB m x := by
  by_cases hx : 0 ≤ x ∧ x < 5
  · obtain ⟨k, rfl⟩ : ∃ k : Nat, x = (k : Int) := ⟨x.toNat, by omega⟩
    have h5 : k < 5 := by omega
    have : lst (mk 0 [(k : Int)]) = [(k : Int)] := by
      rcases (by omega : k = 0 ∨ k = 1 ∨ k = 2 ∨ k = 3 ∨ k = 4) with rfl | rfl | rfl | rfl | rfl <;> decide +kernel
    rw [this]
    rfl
  · have h1 : mk 0 [x] = 0 := by show setB 0 x = 0; exact setB_no hx
    have h2 : lst 0 = [] := by decide +kernel
    rw [h1, h2]
    show m = clrB m x
    unfold clrB
    rw [if_neg hx]
theorem NdB.clr {w : World} {b m i : Nat} (h : NdB w b m) (hi : i < 5) : NdB (w.setCell ⟨b, i, none⟩ (.bool false)) b (clrB m (i : Int)) :=
  h.put hi (by unfold bt; rw [clrB_bit _ _ _ hi]; simp) (fun j hj hne => by
    unfold bt
    rw [clrB_bit _ _ _ hj]
    have : ¬ (j : Int) = (i : Int) := by omega
    simp [this])
theorem cell_old {w : World} {a : Addr} {v : Value} {x : Obj} (h : w.cell? a = some v) : (w.alloc x).cell? a = some v := cell_below ((Below.refl _ _).alloc (Nat.le_refl _) _) h
theorem IArg.far {w : World} {b m o : Nat} {v : Value} {q : Option Addr} {l : List Int} (h : IArg w q l) (hN : NdB w b m) : IArg (w.setCell ⟨b, o, none⟩ v) q l := fun h0 => by
  obtain ⟨g, off, e, hr⟩ := h h0
  refine ⟨g, off, e, fun i hi => ?_⟩
  have h1 := hr i hi
  have hg : g ≠ b := by
    rintro rfl
    rw [(mcells hN).1] at h1
    unfold ndC at h1
    obtain ⟨hj, h2⟩ := Array.getElem?_eq_some_iff.1 h1
    generalize off + i = z at *
    simp at hj
    rcases (by omega : z = 0 ∨ z = 1 ∨ z = 2 ∨ z = 3 ∨ z = 4) with rfl | rfl | rfl | rfl | rfl <;> simp at h2
  rw [World.cell?_of_block (a := ⟨g, off + i, none⟩) (heap_set_other v hg)]
  exact h1
/-- What Change answers. -/
def chgN (l : List Int) (i o : Int) : Nat := clrB (setB (mk 0 l) i) o
def chgK (l : List Int) (i o : Int) : Bool := chk l && !(decide (i ≠ -1) && decide (o ≠ -1)) && !(decide (chgN l i o = mk 0 l) || decide (chgN l i o = 0))
def chgL (l : List Int) (i o : Int) : List Int := if chgK l i o = true then lst (chgN l i o) else []
def chgE (l : List Int) (i o : Int) : Int := if chgK l i o = true then 0 else 2
def ChgQ (l : List Int) (i o : Int) (e : Ending) (w' : World) : Prop := ∃ q c, e = .returned (.tuple #[.slice q (chgL l i o).length c, .int .i64 (chgE l i o)]) ∧ IArg w' q (chgL l i o)
theorem ChgQ.no {l : List Int} {i o : Int} {w : World} (h : chgK l i o = false) : ChgQ l i o (.returned (.tuple #[.slice none 0 0, .int .i64 2])) w := by
  have h1 : chgL l i o = [] := by unfold chgL; simp [h]
  have h2 : chgE l i o = 2 := by unfold chgE; simp [h]
  unfold ChgQ
  rw [h1, h2]
  exact ⟨none, 0, rfl, IArg.nil _ _⟩
theorem bt_eq2 : ∀ m < 32, ∀ n < 32, ((bt m 0 == bt n 0) && (bt m 1 == bt n 1) && (bt m 2 == bt n 2) && (bt m 3 == bt n 3) && (bt m 4 == bt n 4)) = decide (m = n) := by decide +kernel
theorem lst_rng (m i : Nat) (h : i < (lst m).length) : ∃ k : Nat, (lst m)[i] = (k : Int) ∧ k < 5 := by
  have h1 := List.getElem_mem h
  unfold lst at h1
  simp only [List.mem_map, List.mem_filter, List.mem_range] at h1
  obtain ⟨k, hk, e⟩ := h1
  exact ⟨k, e.symm, hk.1⟩

set_option maxHeartbeats 4000000 in
set_option maxRecDepth 100000 in
theorem Change_any (q : Option Addr) (cap : Nat) (l : List Int) (x y : Int) (w : World) (h : IArg w q l) (hl : l.length ≤ 9223372036854775807) :
    Calls Try.prog 4 #[.slice q l.length cap, .int .i64 x, .int .i64 y] w fun e w' => ChgQ l x y e w' ∧ Below w.heap.size w w' := by
  have hc := Check_any q cap l w h hl
  by_cases hk : chk l = true
  case neg =>
    have HR : Hid (chgK l x y = false) := by show _ = _; unfold chgK; simp [hk]
    rw [if_neg hk] at hc
    clear hk
    go_enter Try.func4, Try.ntmps4
    go_wp2_with fail
    refine hc.mono ?_
    rintro e w1 ⟨rfl, hb1⟩
    go_wp2
    go_ret2
    exact ⟨ChgQ.no HR.out, hb1⟩
  case pos =>
  rw [if_pos hk] at hc
  by_cases hxy : x ≠ -1 ∧ y ≠ -1
  case pos =>
    have HR : Hid (chgK l x y = false) := by show _ = _; unfold chgK; simp [hxy]
    have e1 : (x != -1) = true := by simpa using hxy.1
    have e2 : (y != -1) = true := by simpa using hxy.2
    clear hk hxy
    go_enter Try.func4, Try.ntmps4
    go_wp2_with fail
    refine hc.mono ?_
    rintro e w1 ⟨rfl, hb1⟩
    go_wp2
    go_ret2
    exact ⟨ChgQ.no HR.out, hb1⟩
  case neg =>
  have hg : (x != -1 && y != -1) = false := by
    by_cases e : x = -1
    · simp [e]
    · have e2 : y = -1 := by
        rcases Classical.em (y = -1) with e2 | e2
        · exact e2
        · exact absurd ⟨e, e2⟩ hxy
      simp [e2]
  have HR : Hid (chgK l x y = !(decide (chgN l x y = mk 0 l) || decide (chgN l x y = 0))) := by
    show _ = _
    unfold chgK
    have : (decide (x ≠ -1) && decide (y ≠ -1)) = false := by
      by_cases e : x = -1
      · simp [e]
      · have : y = -1 := by
          rcases Classical.em (y = -1) with e2 | e2
          · exact e2
          · exact absurd ⟨e, e2⟩ hxy
        simp [this]
    rw [this, hk]
    simp
  have hm : mk 0 l < 32 := mk_lt l (by decide)
  go_enter Try.func4, Try.ntmps4
  go_upto_region 1 with fail
  go_cut [22] from 12 to 21 (fun s22 wx => s22 = .bool false ∧ Below w.heap.size w wx)
  case first =>
    go_wp2_with fail
    refine hc.mono ?_
    rintro e w1 ⟨rfl, hb1⟩
    have hor : (x != -1) = false ∨ (x != -1) = true ∧ (y != -1) = false := by
      cases e : (x != -1)
      · exact .inl rfl
      · rw [e] at hg
        exact .inr ⟨rfl, by simpa using hg⟩
    clear hg hxy
    rcases hor with e1 | ⟨e1, e2⟩
    · go_wp2
      go_meet
      case rel => exact ⟨rfl, hb1⟩
    · go_wp2
      go_meet
      case rel => exact ⟨rfl, hb1⟩
  case rest =>
  obtain ⟨rfl, hb1⟩ := hcut
  have hn := nodes_any wc.heap.size 1 [(q, cap, l)] _ (lla_one wc q cap l (h.below hb1) hl 22) (by simp)
  have em : mkA 0 [(q, cap, l)] = mk 0 l := rfl
  rw [em] at hn
  clear em hc hk hxy
  have HN2 : Hid (chgN l x y = clrB (setB (mk 0 l) x) y) := rfl
  obtain ⟨m, hmm⟩ : ∃ m, m = mk 0 l := ⟨_, rfl⟩
  rw [← hmm] at hn hm HR HN2
  go_wp2_with fail
  refine hn.mono ?_
  rintro e w2 ⟨rfl, hb2⟩
  have hB2 : Below w.heap.size w w2 := below2 hb1 ((bel_alloc (Below.refl _ _) (Nat.le_refl _) _).trans (hb2.mono (by simp)))
  have hn2 := nodes_any (w2.heap.size + 1) 2 [(q, cap, l), (some ⟨w2.heap.size, 0, none⟩, 1, [x])] ((w2.alloc (.cells #[.int .i64 x] 3)).alloc (.cells #[.slice q l.length cap, .slice (some ⟨w2.heap.size, 0, none⟩) 1 1] 22)) (by
    have := lla_two (w2.alloc (.cells #[.int .i64 x] 3)) q (some ⟨w2.heap.size, 0, none⟩) cap 1 l [x] (h.below (bel_alloc hB2 (Nat.le_refl _) _)) (fun _ => ⟨_, 0, rfl, fun i hi => by
      obtain rfl : i = 0 := by simp at hi; omega
      exact (mcells (heap_alloc_new w2 _)).1 0⟩) hl (by simp) 22
    simpa using this) (by simp)
  have em : mkA 0 [(q, cap, l), (some ⟨w2.heap.size, 0, none⟩, 1, [x])] = setB (mk 0 l) x := rfl
  rw [em, ← hmm] at hn2
  clear em hn
  have HMM : Hid _ := hmm
  clear hmm
  have hm2 := setB_lt (x := x) hm
  go_wp2_with fail
  refine hn2.mono ?_
  rintro e w3 ⟨rfl, hb3⟩
  have hB3 : Below w.heap.size w w3 := by
    have h0 := bel_alloc (bel_alloc hB2 (Nat.le_refl _) (.cells #[.int .i64 x] 3)) (Nat.le_refl _) (.cells #[.slice q l.length cap, .slice (some ⟨w2.heap.size, 0, none⟩) 1 1] 22)
    exact below2 h0 hb3
  clear hn2 hb3 hb2
  unfold ndV
  obtain ⟨n1, hn1⟩ : ∃ n1, n1 = setB m x := ⟨_, rfl⟩
  rw [← hn1] at hm2 HN2 ⊢
  have HN1 : Hid _ := hn1
  clear hn1
  obtain ⟨a0, a1, a2, a3, a4, af⟩ := nd_newc w3
  obtain ⟨b0, b1, b2, b3, b4, bf⟩ := nd_newc (w3.alloc (.cells #[.bool false, .bool false, .bool false, .bool false, .bool false] 37))
  have k0 := cell_old (x := .cells #[.bool false, .bool false, .bool false, .bool false, .bool false] 37) a0
  have k1 := cell_old (x := .cells #[.bool false, .bool false, .bool false, .bool false, .bool false] 37) a1
  have k2 := cell_old (x := .cells #[.bool false, .bool false, .bool false, .bool false, .bool false] 37) a2
  have k3 := cell_old (x := .cells #[.bool false, .bool false, .bool false, .bool false, .bool false] 37) a3
  have k4 := cell_old (x := .cells #[.bool false, .bool false, .bool false, .bool false, .bool false] 37) a4
  have es : (w3.alloc (.cells #[.bool false, .bool false, .bool false, .bool false, .bool false] 37)).heap.size = w3.heap.size + 1 := by simp
  rw [es] at b0 b1 b2 b3 b4 bf
  go_wp2_with fail
  clear a0 a1 a2 a3 a4 af b0 b1 b2 b3 b4 bf k0 k1 k2 k3 k4 es
  obtain ⟨W, hW⟩ : ∃ W, W = (w3.alloc (.cells #[.bool (bt m 0), .bool (bt m 1), .bool (bt m 2), .bool (bt m 3), .bool (bt m 4)] 37)).alloc (.cells #[.bool (bt n1 0), .bool (bt n1 1), .bool (bt n1 2), .bool (bt n1 3), .bool (bt n1 4)] 37) := ⟨_, rfl⟩
  rw [← hW]
  have N8 : NdB W w3.heap.size m := by rw [hW]; exact (nd_alloc w3 m).alloc _
  have N9 : NdB W (w3.heap.size + 1) n1 := by
    rw [hW]
    have := nd_alloc (w3.alloc (.cells #[.bool (bt m 0), .bool (bt m 1), .bool (bt m 2), .bool (bt m 3), .bool (bt m 4)] 37)) n1
    simpa using this
  have hWs : W.heap.size = w3.heap.size + 1 + 1 := by rw [hW]; simp
  have hBW : Below w.heap.size w W := by rw [hW]; exact bel_alloc (bel_alloc hB3 (Nat.le_refl _) _) (Nat.le_refl _) _
  have h3s := hB3.size
  clear hW
  have hn3 := nodes_any (w3.heap.size + 1 + 1 + 1) 1 [(some ⟨w3.heap.size + 1 + 1, 0, none⟩, 1, [y])] ((W.alloc (.cells #[.int .i64 y] 3)).alloc (.cells #[.slice (some ⟨w3.heap.size + 1 + 1, 0, none⟩) 1 1] 22)) (by
    have := lla_one (W.alloc (.cells #[.int .i64 y] 3)) (some ⟨W.heap.size, 0, none⟩) 1 [y] (fun _ => ⟨_, 0, rfl, fun i hi => by
      obtain rfl : i = 0 := by simp at hi; omega
      exact (mcells (heap_alloc_new W _)).1 0⟩) (by simp) 22
    simpa [hWs] using this) (by simp)
  have em : mkA 0 [(some ⟨w3.heap.size + 1 + 1, 0, none⟩, 1, [y])] = mk 0 [y] := rfl
  rw [em] at hn3
  clear em
  refine hn3.mono ?_
  clear hn3
  rintro e w5 ⟨rfl, hb5⟩
  have hb5' : Below W.heap.size W w5 := (bel_alloc (bel_alloc (Below.refl W.heap.size W) (Nat.le_refl _) (.cells #[.int .i64 y] 3)) (Nat.le_refl _) (.cells #[.slice (some ⟨w3.heap.size + 1 + 1, 0, none⟩) 1 1] 22)).trans (hb5.mono (by simp; omega))
  have N85 := N8.below hb5'
  have N95 := N9.below hb5'
  have hB5 := below2 hBW hb5'
  have hs5 := hb5'.size
  clear hb5 hb5' N8 N9 hBW
  have HC1 : Hid (clrA n1 (lst (mk 0 [y])) = clrB n1 y) := clrA_one n1 y
  have HRG : Hid (∀ i (h : i < (lst (mk 0 [y])).length), ∃ k : Nat, (lst (mk 0 [y]))[i] = (k : Int) ∧ k < 5) := lst_rng _
  have hL5 : (lst (mk 0 [y])).length ≤ 5 := lstI_len _ 5
  generalize mk 0 [y] = m3 at *
  go_wp2_with fail
  refine (list_any m3 _).mono ?_
  rintro e w6 ⟨v, rfl, hown, hb6⟩
  obtain ⟨hnl, q6, cap6, rfl, hI6⟩ := own_iarg hown
  have N86 := N85.below hb6
  have N96 := N95.below hb6
  have hB6 := below2 hB5 hb6
  have hs6 := hb6.size
  clear hown hnl N85 N95 hB5 hb6
  generalize lst m3 = L at *
  generalize ndV m3 = V3 at *
  obtain ⟨P, hP⟩ : ∃ P, P = w3.heap.size := ⟨_, rfl⟩
  rw [← hP] at N86 N96 h3s hWs ⊢
  clear hB3 hB2 hP
  go_wp2_with fail
  go_loopw [37] (fun s37 wr => ∃ j : Nat, s37 = .int .i64 (j : Int) ∧ j ≤ L.length ∧ NdB wr (P + 1) (clrA n1 (L.take j)) ∧ NdB wr P m ∧ Below w.heap.size w wr ∧ IArg wr q6 L) (fun s37 _ => L.length - (intOf s37).toNat)
  case atStart => exact ⟨0, rfl, Nat.zero_le _, N96, N86, hB6, hI6⟩
  case round =>
    clear N96 N86 hB6 hI6
    obtain ⟨j, rfl, hjl, hA, hB, hbr, hI⟩ := hrel
    by_cases hlt : j < L.length
    · have hj1 : (j : Int) < (L.length : Int) := by omega
      have hI2 := fun k => hI.far (o := k) (v := .bool false) hA
      obtain ⟨b, off, rfl, hr⟩ := hI (by omega)
      have c0 := hr j hlt
      obtain ⟨k, hk, hk5⟩ := HRG.out j hlt
      have HT : Hid _ := clrA_take n1 L j hlt
      rw [hk] at HT c0
      have hI3 := hI2 k
      have hA3 := hA.clr hk5
      have hB3 := hB.other (b' := P + 1) (o := k) (v := .bool false) (by omega)
      have hb3 : Below w.heap.size w (wr.setCell ⟨P + 1, k, none⟩ (.bool false)) := bel_set hbr (by omega)
      have c2 := hA.at_ hk5
      have f2 := hA.frz k
      have hk6 : (k : Int) < 5 := by omega
      clear hI2 hr hk hA hB hI hbr
      go_wp2
      go_roundw
      case rel => exact ⟨j + 1, by go_num, by omega, by rw [HT.out]; exact hA3, hB3, hb3, hI3⟩
      case measure => simp [intOf]; omega
    · obtain rfl : j = L.length := by omega
      rw [List.take_length, HC1.out, ← HN2.out] at hA
      have hn2 : chgN l x y < 32 := by rw [HN2.out]; exact clrB_lt hm2
      clear hI HC1 HRG
      have HCL : Hid (chgL l x y = if chgK l x y = true then lst (chgN l x y) else []) := rfl
      have HCE : Hid (chgE l x y = if chgK l x y = true then 0 else 2) := rfl
      obtain ⟨n2, hn2e⟩ : ∃ n2, n2 = chgN l x y := ⟨_, rfl⟩
      rw [← hn2e] at hA hn2 HN2 HR HCL
      clear hn2e
      obtain ⟨a0, a1, a2, a3, a4⟩ := hA.c
      obtain ⟨b0, b1, b2, b3, b4⟩ := hB.c
      have q0 := fun w => nd_eql (bt n2 0) (bt n2 1) (bt n2 2) (bt n2 3) (bt n2 4) (bt m 0) (bt m 1) (bt m 2) (bt m 3) (bt m 4) w
      rw [bt_eq2 n2 hn2 m hm] at q0
      have q1 := fun w => nd_eql (bt n2 0) (bt n2 1) (bt n2 2) (bt n2 3) (bt n2 4) false false false false false w
      rw [bt_eq n2 hn2] at q1
      by_cases e1 : n2 = m
      · have d1 : decide (n2 = m) = true := decide_eq_true e1
        rw [d1] at q0 HR
        clear e1 d1 q1
        go_wp2
        go_ret2
        exact ⟨ChgQ.no (by rw [HR.out]; rfl), hbr⟩
      · have d1 : decide (n2 = m) = false := decide_eq_false e1
        rw [d1] at q0 HR
        clear e1 d1
        by_cases e2 : n2 = 0
        · have d1 : decide (n2 = 0) = true := decide_eq_true e2
          rw [d1] at q1 HR
          clear e2 d1
          go_wp2
          go_ret2
          exact ⟨ChgQ.no (by rw [HR.out]; rfl), hbr⟩
        · have d1 : decide (n2 = 0) = false := decide_eq_false e2
          rw [d1] at q1 HR
          have HK : Hid (chgK l x y = true) := by show _ = _; rw [HR.out]; rfl
          clear e2 d1
          go_wp2_with fail
          refine (list_any n2 _).mono ?_
          rintro e w9 ⟨v, rfl, hown, hb9⟩
          obtain ⟨hnl, q9, cap9, rfl, hI9⟩ := own_iarg hown
          have hB9 := below2 hbr hb9
          clear hown hnl q0 q1
          have HL : Hid (lst n2 = chgL l x y) := by show _ = _; rw [HCL.out, if_pos HK.out]
          rw [HL.out] at hI9 ⊢
          have HE : Hid (chgE l x y = 0) := by show _ = _; rw [HCE.out, if_pos HK.out]
          go_wp2
          go_ret2
          exact ⟨⟨_, _, by rw [HE.out]; rfl, hI9⟩, hB9⟩

end Go.Proofs.Ytdoiknfpgmglaab
