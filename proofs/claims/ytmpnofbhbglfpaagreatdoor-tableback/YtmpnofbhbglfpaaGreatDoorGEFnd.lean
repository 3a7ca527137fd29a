/-
  The contract of block.lastWhole: a whole cell that stands ahead of what is sought, or the first one.
  A place found in a list of cells in order.
  The contract of block.Find.
-/
import Derived.Test.YtmpnofbhbglfpaaGreatDoorGERd
namespace Go.Proofs.YtmpnofbhbglfpaaGreatDoor
open Go.RowKit Go.BigFrame Go.Sort
attribute [local go_sem] size_bstr toList_bstr ls_def

theorem bitLenAux_le : ∀ (f n : Nat), Lib.bitLenAux f n ≤ f
  | 0, _ => Nat.le_refl _
  | f + 1, n => by
    rw [Lib.bitLenAux]
    have := bitLenAux_le f (n / 2)
    split <;> omega

set_option maxHeartbeats 2000000 in
set_option maxRecDepth 100000 in
theorem lastWhole_any (q : Option Addr) (g cap : Nat) (L : List Cl) (t : Cl) (w : World) (hq : 0 < L.length → q = some ⟨g, 0, none⟩ ∧ CRow w g 0 L ∧ g < w.heap.size) (hn : L.length ≤ 40000) :
    Calls Tryz.prog 83 #[.slice q L.length cap, clV t] w fun e w' => ∃ a : Nat, e = .returned (.int .i64 (a : Int)) ∧ 8 * a ≤ L.length ∧ (a = 0 ∨ ∃ h : 8 * a < L.length, ccl L[8 * a] t < 0) ∧ RowKit.Below w.heap.size w w' := by
  obtain ⟨r, k, v, z, x⟩ := t
  have hB : RowKit.Below w.heap.size w (w.alloc (.cells #[.string (bstr r), .string (bstr k), .int .u64 v, .bool z, .string (bstr x)] 39)) := (RowKit.Below.refl _ _).alloc (Nat.le_refl _) _
  have hA := CellAt.new w 39 r k v z x
  obtain ⟨f0, hf0⟩ : ∃ f0, (L.length + 7) / 8 = f0 := ⟨_, rfl⟩
  have hf1 : ((L.length : Int) + 8 - 1) / 8 = (f0 : Int) := by omega
  have hbl := fun W => Tryz.bits_Len (f0 : Int) W (by omega) (by omega)
  go_enter Tryz.func83, Tryz.ntmps83
  go_wp2_with fail
  refine (hbl _).mono ?_
  rintro e w1 ⟨rfl, hw1⟩
  rw [Int.toNat_natCast]
  obtain ⟨K, hK⟩ : ∃ K, Lib.bitLen f0 = K := ⟨_, rfl⟩
  have hK0 : f0 = 0 → K = 0 := by
    rintro rfl
    rw [← hK]
    rfl
  have hK1 : K ≤ 64 := by
    rw [← hK]
    exact bitLenAux_le 64 f0
  rw [hK]
  subst hw1
  generalize w.alloc (.cells #[.string (bstr r), .string (bstr k), .int .u64 v, .bool z, .string (bstr x)] 39) = W at *
  clear hK hbl
  go_wp2
  have hbW := hB.size
  have hbl' : RowKit.Below W.heap.size W W := RowKit.Below.refl _ _
  go_loopw [5, 6, 16] (fun s5 s6 s16 wr => ∃ i a f : Nat, s16 = .int .i64 (i : Int) ∧ s5 = .int .i64 (a : Int) ∧ s6 = .int .i64 (f : Int) ∧ i ≤ K ∧ a + f ≤ f0 ∧ (0 < f0 → 0 < f) ∧ Hid (a = 0 ∨ ∃ h : 8 * a < L.length, ccl L[8 * a] ⟨r, k, v, z, x⟩ < 0) ∧ RowKit.Below W.heap.size W wr) (fun _ _ s16 _ => K - (intOf s16).toNat)
  case atStart => exact ⟨0, 0, f0, rfl, rfl, rfl, by omega, by omega, fun h => h, .inl rfl, hbl'⟩
  case round =>
    obtain ⟨i, a, f, rfl, rfl, rfl, hiK, haf, hfp, HI, hbel⟩ := hrel
    clear hbl'
    by_cases hlt : i < K
    · have hf0p : 0 < f0 := by
        by_cases h : f0 = 0
        · have := hK0 h; omega
        · omega
      have hfp' := hfp hf0p
      obtain ⟨h, hh⟩ : ∃ h, f / 2 = h := ⟨_, rfl⟩
      have hhi : (f : Int) / 2 = (h : Int) := by omega
      have hhf : h < f := by omega
      have hfh : (f : Int) - (h : Int) = ((f - h : Nat) : Int) := by omega
      obtain ⟨rfl, hR, hgl⟩ := hq (by omega)
      obtain ⟨j, hj⟩ : ∃ j, 8 * (a + h) = j := ⟨_, rfl⟩
      have hjl : j < L.length := by omega
      have hji : (8 : Int) * ((a : Int) + (h : Int)) = (j : Int) := by omega
      have hRW := (hR.step hB hgl).step hbel (Nat.lt_of_lt_of_le hgl hB.size)
      have hAt := hRW j hjl
      rw [Nat.zero_add] at hAt
      have hA' := hA.step hbel
      have hcm := Cmp_any L[j].row L[j].col L[j].ver L[j].gone L[j].val r k v z x
      clear hK0 hh hRW hR
      by_cases hd : ccl L[j] ⟨r, k, v, z, x⟩ < 0
      · have HI2 : Hid (a + h = 0 ∨ ∃ h' : 8 * (a + h) < L.length, ccl L[8 * (a + h)] ⟨r, k, v, z, x⟩ < 0) := by
          refine .inr ⟨by omega, ?_⟩
          simp only [hj]
          exact hd
        change cc L[j].row L[j].col L[j].ver r k v < 0 at hd
        generalize cc L[j].row L[j].col L[j].ver r k v = d at *
        generalize L[j] = p at *
        obtain ⟨r', k', v', z', x'⟩ := p
        obtain ⟨p0, p1, p2, p3, p4⟩ := hAt
        simp only at p0 p1 p2 p3 p4 hcm
        clear hj
        have n0 := fun d os => cell_regrown p0 d os
        have n1 := fun d os => cell_regrown p1 d os
        have n2 := fun d os => cell_regrown p2 d os
        have n3 := fun d os => cell_regrown p3 d os
        have n4 := fun d os => cell_regrown p4 d os
        have m0 := fun d os => cell_regrown hA'.c0 d os
        have m1 := fun d os => cell_regrown hA'.c1 d os
        have m2 := fun d os => cell_regrown hA'.c2 d os
        have m3 := fun d os => cell_regrown hA'.c3 d os
        have m4 := fun d os => cell_regrown hA'.c4 d os
        go_wp2_with fail
        refine wp_region_quiet_below (by kernel_rfl) (by kernel_rfl) ?_
        repeat (go_big_quiet_step (first
          | (go_at_call 48; with_reducible exact Calls.regrown_of (hcm _))))
        refine wpQuiet_nil ?_
        intro _ hw'
        obtain ⟨⟨dq, osq⟩, hw''⟩ := hw'
        subst hw''
        have hb1 := below_regrown wr dq osq
        have hbe := below2 hbel hb1
        clear n0 n1 n2 n3 n4 m0 m1 m2 m3 m4 p0 p1 p2 p3 p4 hcm hb1 hbel hA'
        generalize grow (redrawn wr dq) osq = W1 at *
        go_wp2
        go_roundw
        case rel => exact ⟨i + 1, a + h, f - h, by go_num, by go_num, by go_num, by omega, by omega, fun _ => by omega, HI2, hbe⟩
        case measure => simp [intOf]; omega
      · have hd' : 0 ≤ cc L[j].row L[j].col L[j].ver r k v := Int.not_lt.1 hd
        clear hd
        generalize cc L[j].row L[j].col L[j].ver r k v = d at *
        generalize L[j] = p at *
        obtain ⟨r', k', v', z', x'⟩ := p
        obtain ⟨p0, p1, p2, p3, p4⟩ := hAt
        simp only at p0 p1 p2 p3 p4 hcm
        clear hj
        have n0 := fun d os => cell_regrown p0 d os
        have n1 := fun d os => cell_regrown p1 d os
        have n2 := fun d os => cell_regrown p2 d os
        have n3 := fun d os => cell_regrown p3 d os
        have n4 := fun d os => cell_regrown p4 d os
        have m0 := fun d os => cell_regrown hA'.c0 d os
        have m1 := fun d os => cell_regrown hA'.c1 d os
        have m2 := fun d os => cell_regrown hA'.c2 d os
        have m3 := fun d os => cell_regrown hA'.c3 d os
        have m4 := fun d os => cell_regrown hA'.c4 d os
        go_wp2_with fail
        refine wp_region_quiet_below (by kernel_rfl) (by kernel_rfl) ?_
        repeat (go_big_quiet_step (first
          | (go_at_call 48; with_reducible exact Calls.regrown_of (hcm _))))
        refine wpQuiet_nil ?_
        intro _ hw'
        obtain ⟨⟨dq, osq⟩, hw''⟩ := hw'
        subst hw''
        have hb1 := below_regrown wr dq osq
        have hbe := below2 hbel hb1
        clear n0 n1 n2 n3 n4 m0 m1 m2 m3 m4 p0 p1 p2 p3 p4 hcm hb1 hbel hA'
        generalize grow (redrawn wr dq) osq = W1 at *
        go_wp2
        go_roundw
        case rel => exact ⟨i + 1, a, f - h, by go_num, rfl, by go_num, by omega, by omega, fun _ => by omega, HI, hbe⟩
        case measure => simp [intOf]; omega
    · have hie : i = K := by omega
      subst hie
      go_wp2
      go_ret
      exact ⟨a, rfl, by omega, HI.out, below2 hB hbel⟩

end Go.Proofs.YtmpnofbhbglfpaaGreatDoor

namespace Go.Proofs.YtmpnofbhbglfpaaGreatDoor
open Go.RowKit

/-- The first cell of a place. -/
def fnd (row col : List UInt8) : List Cl → Option Cl
  | [] => none
  | c :: l => if c.row = row ∧ c.col = col then some c else fnd row col l
theorem fnd_none {row col : List UInt8} : ∀ {l : List Cl}, (∀ c ∈ l, ¬ (c.row = row ∧ c.col = col)) → fnd row col l = none
  | [], _ => rfl
  | c :: l, h => by
    rw [fnd, if_neg (h c (by simp))]
    exact fnd_none fun d hd => h d (by simp [hd])
theorem fnd_at {row col : List UInt8} : ∀ {a : List Cl} {c : Cl} {b : List Cl}, (∀ d ∈ a, ¬ (d.row = row ∧ d.col = col)) → c.row = row ∧ c.col = col → fnd row col (a ++ c :: b) = some c
  | [], c, b, _, h => by rw [List.nil_append, fnd, if_pos h]
  | d :: a, c, b, h1, h => by
    rw [List.cons_append, fnd, if_neg (h1 d (by simp))]
    exact fnd_at (fun e he => h1 e (by simp [he])) h
/-- What is sought: no cell has its version. -/
abbrev sgt (row col : List UInt8) : Cl := ⟨row, col, 18446744073709551615, false, []⟩
theorem sgt_pl {row col : List UInt8} {c : Cl} (h : okC c = true) (hp : c.row = row ∧ c.col = col) : 0 < ccl c (sgt row col) := by
  have hv := okC_len h
  rw [ccl_plc (plc_iff.2 hp)]
  show 0 < Lib.compareInt (18446744073709551615) c.ver
  unfold Lib.compareInt
  split
  · omega
  · split <;> omega
/-- Nothing ahead of a place is of it. -/
theorem fnd_ahead {L : List Cl} {row col : List UInt8} {a : Nat} (g : Good L) (ha : a = 0 ∨ ∃ h : 8 * a < L.length, ccl L[8 * a] (sgt row col) < 0) : ∀ j (hj : j < L.length), j < 8 * a → ¬ 0 < ccl L[j] (sgt row col) := by
  intro j hj hja
  rcases ha with rfl | ⟨h, hc⟩
  · omega
  · have := List.pairwise_iff_getElem.1 g.asc j (8 * a) hj h hja
    have := ccl_lt_trans this hc
    omega
theorem fnd_no {L : List Cl} {row col : List UInt8} (g : Good L) (h : ∀ j (hj : j < L.length), ¬ 0 < ccl L[j] (sgt row col)) : fnd row col L = none := by
  refine fnd_none fun c hc hp => ?_
  obtain ⟨j, hj, rfl⟩ := List.mem_iff_getElem.1 hc
  exact h j hj (sgt_pl (all_get g.ok hj) hp)
theorem fnd_yes {L : List Cl} {row col : List UInt8} {i : Nat} (g : Good L) (hi : i < L.length) (h : ∀ j (hj : j < L.length), j < i → ¬ 0 < ccl L[j] (sgt row col)) (hp : L[i].row = row ∧ L[i].col = col) : fnd row col L = some L[i] := by
  have e : L = L.take i ++ L[i] :: L.drop (i + 1) := by rw [List.getElem_cons_drop, List.take_append_drop]
  conv => lhs; rw [e]
  refine fnd_at (fun d hd hdp => ?_) hp
  obtain ⟨j, hj, rfl⟩ := List.mem_iff_getElem.1 hd
  rw [List.length_take] at hj
  rw [List.getElem_take] at hdp
  exact h j (by omega) (by omega) (sgt_pl (all_get g.ok (by omega)) hdp)
theorem fnd_past {L : List Cl} {row col : List UInt8} {i : Nat} (g : Good L) (hi : i < L.length) (h : ∀ j (hj : j < L.length), j < i → ¬ 0 < ccl L[j] (sgt row col)) (hc : 0 < ccl L[i] (sgt row col)) (hp : ¬ (L[i].row = row ∧ L[i].col = col)) : fnd row col L = none := by
  refine fnd_none fun c hcm hcp => ?_
  obtain ⟨j, hj, rfl⟩ := List.mem_iff_getElem.1 hcm
  have hj0 := sgt_pl (all_get g.ok hj) hcp
  by_cases h1 : j < i
  · exact h j hj h1 hj0
  · by_cases h2 : j = i
    · subst h2
      exact hp hcp
    · have hlt := List.pairwise_iff_getElem.1 g.asc i j hi hj (by omega)
      have h3 : ccl (sgt row col) L[i] ≤ 0 := by have := ccl_neg.2 hc; omega
      have h4 : plc (sgt row col) L[j] = true := plc_iff.2 ⟨hcp.1.symm, hcp.2.symm⟩
      have h5 := plc_iff.1 (plc_between h3 (Int.le_of_lt hlt) h4)
      exact hp ⟨h5.1.symm, h5.2.symm⟩

end Go.Proofs.YtmpnofbhbglfpaaGreatDoor

namespace Go.Proofs.YtmpnofbhbglfpaaGreatDoor
open Go.RowKit Go.BigFrame Go.Sort
attribute [local go_sem] size_bstr toList_bstr ls_def

/-- No cell ahead of a place in the list is behind what is sought. -/
def Bef (L : List Cl) (row col : List UInt8) (n : Nat) : Prop := ∀ j (hj : j < L.length), j < n → ¬ 0 < ccl L[j] (sgt row col)
/-- 'l[n:]'. -/
theorem etail_run {P : Program} {t : TypeId} {q : Option Addr} {len cap n s : Nat} (ht : P.underlying t = some (.slice (P.elem t))) (hz : ∀ w, (Go.sizeOf (P.elem t)).run P w = .ok s w) (hn : n ≤ len) (w : World) :
    (Instr.slice t (.slice q len cap) (some (.int .i64 (n : Int))) none none).run P w = .ok (.slice (if cap = n then q else q.map (·.add (n * s))) (len - n) (cap - n)) w := by
  rw [run_slice_l w t q len cap ht .i64 (n : Int) (by omega) (by omega), hz]
  simp only [Result.andThen, Int.toNat_natCast, sliced]
/-- Three results of which the first lies in a cell. -/
theorem res_cell3 {fn : Func} {p u v : Tmp} {ty : TypeId} (h : fn.results = #[.cell p ty, .tmp u, .tmp v]) (tmps : Array Value) (P : Program) (w : World) :
    (results fn tmps).run P w = ((asAddr (tmps.getD p undef)).run P w).andThen fun a w₁ => ((loadVar ty a).run P w₁).andThen fun x w₂ => .ok (.tuple #[x, tmps.getD u undef, tmps.getD v undef]) w₂ := by
  simp only [results, h]
  simp [Sem.run_bind, Result.andThen]
/-- The value of a cell, or the zero cell. -/
def optC : Option Cl → Cl
  | some c => c
  | none => ⟨[], [], 0, false, []⟩
/-- What Find answers. -/
def FnQ (s row col : List UInt8) (e : Ending) : Prop :=
  (∃ L, Good L ∧ blkB L = s ∧ e = .returned (.tuple #[clV (optC (fnd row col L)), .bool (fnd row col L).isSome, .int .i64 0])) ∨
    (e = .returned (.tuple #[clV (optC none), .bool false, .int .i64 4]) ∧ ∀ L, Good L → blkB L ≠ s)

set_option maxHeartbeats 4000000 in
set_option maxRecDepth 100000 in
theorem Find_any (s row col : List UInt8) (w : World) (hs : s.length ≤ 9223372036854775807) :
    Calls Tryz.prog 38 #[.string (bstr s), .string (bstr row), .string (bstr col)] w fun e w' => FnQ s row col e ∧ RowKit.Below w.heap.size w w' := by
  go_enter Tryz.func38, Tryz.ntmps38
  go_wp2_with fail
  have hz := Rz.new w
  have hB0 : RowKit.Below w.heap.size w (w.alloc (.cells #[.string ⟨#[]⟩, .string ⟨#[]⟩, .int .u64 0, .bool false, .string ⟨#[]⟩] 39)) := (RowKit.Below.refl _ _).alloc (Nat.le_refl _) _
  generalize w.alloc (.cells #[.string ⟨#[]⟩, .string ⟨#[]⟩, .int .u64 0, .bool false, .string ⟨#[]⟩] 39) = w0 at *
  refine (Read_any s w0 hs).mono ?_
  rintro e w1 ⟨hQ, hb1⟩
  have hbw := below2 hB0 hb1
  have hbw1 := hbw.size
  replace hz := hz.step hb1
  rcases hQ with ⟨L, q, c, rfl, hG, hL, hown⟩ | ⟨rfl, hno⟩
  · have HG : Hid _ := hG
    have hlen : L.length ≤ 40000 := by
      have h1 := body_many L hG.ok
      have h2 := hG.len
      rw [blkB_len] at h2
      omega
    obtain ⟨g7, hg7⟩ : ∃ g7, 0 < L.length → q = some ⟨g7, 0, none⟩ ∧ CRow w1 g7 0 L ∧ g7 < w1.heap.size := by
      by_cases h0 : L = []
      · exact ⟨0, fun h => by rw [h0] at h; simp at h⟩
      · obtain ⟨g7, cap7, hv7, _, hg7, _, _, hCR, _⟩ := own_crow hown h0
        injection hv7 with hv7a _ _
        exact ⟨g7, fun _ => ⟨hv7a, hCR, hg7⟩⟩
    obtain ⟨hc1, hc2⟩ : L.length ≤ c ∧ c ≤ maxLen := by
      rcases hown.2 with ⟨hv, h0⟩ | ⟨g', cap, cur, hv, _, _, h1, h2, _⟩
      · injection hv with _ _ hv3
        unfold maxLen
        omega
      · injection hv with _ _ hv3
        subst hv3
        exact ⟨h1, h2⟩
    clear hG hb1 hB0 hown
    have hlw := fun W (hb : RowKit.Below w1.heap.size w1 W) => lastWhole_any q g7 c L (sgt row col) W (fun h => ⟨(hg7 h).1, (hg7 h).2.1.step hb (hg7 h).2.2, Nat.lt_of_lt_of_le (hg7 h).2.2 hb.size⟩) hlen
    have hN := CellAt.new w1 39 row col 18446744073709551615 false []
    have hB1 : RowKit.Below w1.heap.size w1 (w1.alloc (.cells #[.string (bstr row), .string (bstr col), .int .u64 18446744073709551615, .bool false, .string ⟨#[]⟩] 39)) := (RowKit.Below.refl _ _).alloc (Nat.le_refl _) _
    replace hN : CellAt (w1.alloc (.cells #[.string (bstr row), .string (bstr col), .int .u64 18446744073709551615, .bool false, .string ⟨#[]⟩] 39)) w1.heap.size row col 18446744073709551615 false [] := hN
    go_wp2_with fail
    generalize w1.alloc (.cells #[.string (bstr row), .string (bstr col), .int .u64 18446744073709551615, .bool false, .string ⟨#[]⟩] 39) = w2 at *
    refine (hlw w2 hB1).mono ?_
    rintro e w3 ⟨a, rfl, ha1, ha2, hb3⟩
    have HA : Hid _ := ha2
    have hb13 : RowKit.Below w1.heap.size w1 w3 := below2 hB1 hb3
    replace hN := hN.step hb3
    replace hz := hz.step hb13
    replace hbw := below2 hbw hb13
    replace hg7 : 0 < L.length → q = some ⟨g7, 0, none⟩ ∧ CRow w3 g7 0 L ∧ g7 < w3.heap.size := fun h => ⟨(hg7 h).1, (hg7 h).2.1.step hb13 (hg7 h).2.2, Nat.lt_of_lt_of_le (hg7 h).2.2 hb13.size⟩
    obtain ⟨nt, hnt⟩ : ∃ nt, w1.heap.size = nt := ⟨_, rfl⟩
    have hwn : w.heap.size ≤ nt := by rw [← hnt]; exact hbw1
    rw [hnt] at hN
    rw [hnt]
    clear hb3 hb13 hB1 hlw ha2 hnt
    obtain ⟨n8, hn8⟩ : ∃ n8, 8 * a = n8 := ⟨_, rfl⟩
    have h8i : (8 : Int) * (a : Int) = (n8 : Int) := by omega
    have hn8l : n8 ≤ L.length := by omega
    obtain ⟨m8, hm8⟩ : ∃ m8, L.length - n8 = m8 := ⟨_, rfl⟩
    obtain ⟨q', hq'⟩ : ∃ q', (if c = n8 then q else q.map (·.add (n8 * 5))) = q' := ⟨_, rfl⟩
    have hsl := fun W => etail_run (P := Tryz.prog) (t := 22) (q := q) (len := L.length) (cap := c) (n := n8) (s := 5) Tryz.underlying22 (fun W => Tryz.sizeOf39 W) hn8l W
    rw [hm8, hq'] at hsl
    have hq2 : 0 < m8 → q' = some ⟨g7, n8 * 5, none⟩ ∧ CRow w3 g7 (n8 * 5) (L.drop n8) ∧ g7 < w3.heap.size := by
      intro h
      obtain ⟨e1, e2, e3⟩ := hg7 (by omega)
      refine ⟨?_, ?_, e3⟩
      · rw [← hq', if_neg (by omega), e1, Option.map_some, Addr.add_lit, Nat.zero_add]
      · have := e2.drop n8
        rw [Nat.zero_add] at this
        exact this
    have hml : n8 + m8 = L.length := by omega
    have HST : Hid (Bef L row col (n8 + 0)) := by
      intro j hj hjn
      exact fnd_ahead HG.out HA.out j hj (by omega)
    have HML : Hid _ := hml
    have hm40 : m8 ≤ 40000 := by omega
    clear hm8 hq' hg7 hn8 HA hml
    go_wp2
    go_loopw [33] (fun s33 wr => ∃ i : Nat, s33 = .int .i64 (i : Int) ∧ i ≤ m8 ∧ Hid (Bef L row col (n8 + i)) ∧ RowKit.Below w3.heap.size w3 wr) (fun s33 _ => m8 - (intOf s33).toNat)
    case atStart => exact ⟨0, rfl, by omega, HST, RowKit.Below.refl _ _⟩
    case round =>
      obtain ⟨i, rfl, him, HI, hbel⟩ := hrel
      clear HST
      by_cases hlt : i < m8
      · obtain ⟨rfl, hR, hgl⟩ := hq2 (by omega)
        have hik : n8 + i < L.length := by have := HML.out; omega
        have hAt := (hR.step hbel hgl) i (by rw [List.length_drop]; omega)
        rw [List.getElem_drop] at hAt
        have hN' := hN.step hbel
        have hcm := Cmp_any L[n8 + i].row L[n8 + i].col L[n8 + i].ver L[n8 + i].gone L[n8 + i].val row col 18446744073709551615 false []
        have hW1 : RowKit.Below wr.heap.size wr (wr.alloc (.cells #[.string (bstr L[n8 + i].row), .string (bstr L[n8 + i].col), .int .u64 L[n8 + i].ver, .bool L[n8 + i].gone, .string (bstr L[n8 + i].val)] 39)) := (RowKit.Below.refl _ _).alloc (Nat.le_refl _) _
        have hC := CellAt.new wr 39 L[n8 + i].row L[n8 + i].col L[n8 + i].ver L[n8 + i].gone L[n8 + i].val
        by_cases hd : 0 < ccl L[n8 + i] (sgt row col)
        · by_cases hp : L[n8 + i].row = row ∧ L[n8 + i].col = col
          · have HF : Hid (fnd row col L = some L[n8 + i]) := fnd_yes HG.out hik HI.out hp
            change 0 < cc L[n8 + i].row L[n8 + i].col L[n8 + i].ver row col 18446744073709551615 at hd
            generalize cc L[n8 + i].row L[n8 + i].col L[n8 + i].ver row col 18446744073709551615 = d at *
            obtain ⟨hp1, hp2⟩ := hp
            have hpr : (L[n8 + i].row == row) = true := by rw [hp1]; simp
            have hpc : (L[n8 + i].col == col) = true := by rw [hp2]; simp
            clear hp1 hp2
            clear hR
            generalize L[n8 + i] = c' at *
            obtain ⟨r, k, v, z, x⟩ := c'
            obtain ⟨c0, c1, c2, c3, c4⟩ := hAt
            simp only at c0 c1 c2 c3 c4 hcm hW1 hC hpr hpc
            have hNW := hN'.step hW1
            obtain ⟨t0, t1, t2, t3, t4⟩ := hNW
            obtain ⟨d0, d1, d2, d3, d4⟩ := id hC
            go_upto_region 8 with fail
            generalize wr.alloc (.cells #[.string (bstr r), .string (bstr k), .int .u64 v, .bool z, .string (bstr x)] 39) = W1 at *
            go_wp2_with fail
            refine (hcm _).mono ?_
            rintro e WX ⟨rfl, hbX⟩
            replace hC := hC.step hbX
            have hbe3 := below2 hbel (below2 hW1 hbX)
            have hbeX := below2 hbw hbe3
            have hzX := hz.step hbe3
            clear hbX hW1 hcm c0 c1 c2 c3 c4 t0 t1 t2 t3 t4 d0 d1 d2 d3 d4 hN'
            obtain ⟨d0, d1, d2, d3, d4⟩ := id hC
            obtain ⟨z0, z1, z2, z3, z4, f0, f1, f2, f3, f4⟩ := hzX.facts
            go_wp2
            generalize hW : ((((WX.setCell ⟨w.heap.size, 0, none⟩ _).setCell ⟨w.heap.size, 1, none⟩ _).setCell ⟨w.heap.size, 2, none⟩ _).setCell ⟨w.heap.size, 3, none⟩ _).setCell ⟨w.heap.size, 4, none⟩ _ = W'
            obtain ⟨q0, q1, q2, q3, q4⟩ := set5_reads z0 z1 z2 z3 z4 hW
            refine bodyPost_ret (v := .tuple #[clV ⟨r, k, v, z, x⟩, .bool true, .int .i64 0]) (by rw [res_cell3 Tryz.results38]; simp [go_sem, q0, q1, q2, q3, q4]) rfl ⟨.inl ⟨L, HG.out, hL, by rw [HF.out]; rfl⟩, ?_⟩
            rw [← hW]
            exact below_set5 _ _ _ _ _ hbeX (Nat.le_refl _)
          · have HF : Hid (fnd row col L = none) := fnd_past HG.out hik HI.out hd hp
            change 0 < cc L[n8 + i].row L[n8 + i].col L[n8 + i].ver row col 18446744073709551615 at hd
            generalize cc L[n8 + i].row L[n8 + i].col L[n8 + i].ver row col 18446744073709551615 = d at *
            by_cases hp1 : L[n8 + i].row = row
            · have hpr : (L[n8 + i].row == row) = true := by rw [hp1]; simp
              have hpc : (L[n8 + i].col == col) = false := by rw [beq_eq_false_iff_ne]; exact fun h => hp ⟨hp1, h⟩
              clear hp1 hp
              clear hR
              generalize L[n8 + i] = c' at *
              obtain ⟨r, k, v, z, x⟩ := c'
              obtain ⟨c0, c1, c2, c3, c4⟩ := hAt
              simp only at c0 c1 c2 c3 c4 hcm hW1 hC hpr
              have hNW := hN'.step hW1
              obtain ⟨t0, t1, t2, t3, t4⟩ := hNW
              obtain ⟨d0, d1, d2, d3, d4⟩ := id hC
              go_upto_region 8 with fail
              generalize wr.alloc (.cells #[.string (bstr r), .string (bstr k), .int .u64 v, .bool z, .string (bstr x)] 39) = W1 at *
              go_wp2_with fail
              refine (hcm _).mono ?_
              rintro e WX ⟨rfl, hbX⟩
              replace hC := hC.step hbX
              have hbe3 := below2 hbel (below2 hW1 hbX)
              have hbeX := below2 hbw hbe3
              have hzX := hz.step hbe3
              clear hbX hW1 hcm c0 c1 c2 c3 c4 t0 t1 t2 t3 t4 d0 d1 d2 d3 d4 hN'
              obtain ⟨d0, d1, d2, d3, d4⟩ := id hC
              obtain ⟨z0, z1, z2, z3, z4, f0, f1, f2, f3, f4⟩ := hzX.facts
              go_wp2
              generalize hW : ((((WX.setCell ⟨w.heap.size, 0, none⟩ _).setCell ⟨w.heap.size, 1, none⟩ _).setCell ⟨w.heap.size, 2, none⟩ _).setCell ⟨w.heap.size, 3, none⟩ _).setCell ⟨w.heap.size, 4, none⟩ _ = W'
              obtain ⟨q0, q1, q2, q3, q4⟩ := set5_reads z0 z1 z2 z3 z4 hW
              refine bodyPost_ret (v := .tuple #[clV (optC none), .bool false, .int .i64 0]) (by rw [res_cell3 Tryz.results38]; simp [go_sem, q0, q1, q2, q3, q4]; exact ⟨rfl, rfl, rfl, rfl, rfl⟩) rfl ⟨.inl ⟨L, HG.out, hL, by rw [HF.out]; rfl⟩, ?_⟩
              rw [← hW]
              exact below_set5 _ _ _ _ _ hbeX (Nat.le_refl _)
            · have hpr : (L[n8 + i].row == row) = false := by rw [beq_eq_false_iff_ne]; exact hp1
              clear hp1 hp
              clear hR
              generalize L[n8 + i] = c' at *
              obtain ⟨r, k, v, z, x⟩ := c'
              obtain ⟨c0, c1, c2, c3, c4⟩ := hAt
              simp only at c0 c1 c2 c3 c4 hcm hW1 hC hpr
              have hNW := hN'.step hW1
              obtain ⟨t0, t1, t2, t3, t4⟩ := hNW
              obtain ⟨d0, d1, d2, d3, d4⟩ := id hC
              go_upto_region 8 with fail
              generalize wr.alloc (.cells #[.string (bstr r), .string (bstr k), .int .u64 v, .bool z, .string (bstr x)] 39) = W1 at *
              go_wp2_with fail
              refine (hcm _).mono ?_
              rintro e WX ⟨rfl, hbX⟩
              replace hC := hC.step hbX
              have hbe3 := below2 hbel (below2 hW1 hbX)
              have hbeX := below2 hbw hbe3
              have hzX := hz.step hbe3
              clear hbX hW1 hcm c0 c1 c2 c3 c4 t0 t1 t2 t3 t4 d0 d1 d2 d3 d4 hN'
              obtain ⟨d0, d1, d2, d3, d4⟩ := id hC
              obtain ⟨z0, z1, z2, z3, z4, f0, f1, f2, f3, f4⟩ := hzX.facts
              go_wp2
              generalize hW : ((((WX.setCell ⟨w.heap.size, 0, none⟩ _).setCell ⟨w.heap.size, 1, none⟩ _).setCell ⟨w.heap.size, 2, none⟩ _).setCell ⟨w.heap.size, 3, none⟩ _).setCell ⟨w.heap.size, 4, none⟩ _ = W'
              obtain ⟨q0, q1, q2, q3, q4⟩ := set5_reads z0 z1 z2 z3 z4 hW
              refine bodyPost_ret (v := .tuple #[clV (optC none), .bool false, .int .i64 0]) (by rw [res_cell3 Tryz.results38]; simp [go_sem, q0, q1, q2, q3, q4]; exact ⟨rfl, rfl, rfl, rfl, rfl⟩) rfl ⟨.inl ⟨L, HG.out, hL, by rw [HF.out]; rfl⟩, ?_⟩
              rw [← hW]
              exact below_set5 _ _ _ _ _ hbeX (Nat.le_refl _)
        · have HI2 : Hid (Bef L row col (n8 + (i + 1))) := by
            intro j hj hjn
            by_cases h : j < n8 + i
            · exact HI.out j hj h
            · have e : j = n8 + i := by omega
              subst e
              exact hd
          have hd' : cc L[n8 + i].row L[n8 + i].col L[n8 + i].ver row col 18446744073709551615 ≤ 0 := Int.not_lt.1 hd
          clear hd
          generalize cc L[n8 + i].row L[n8 + i].col L[n8 + i].ver row col 18446744073709551615 = d at *
          clear hR
          generalize L[n8 + i] = c' at *
          obtain ⟨r, k, v, z, x⟩ := c'
          obtain ⟨c0, c1, c2, c3, c4⟩ := hAt
          simp only at c0 c1 c2 c3 c4 hcm hW1 hC
          have hNW := hN'.step hW1
          obtain ⟨t0, t1, t2, t3, t4⟩ := hNW
          obtain ⟨d0, d1, d2, d3, d4⟩ := id hC
          go_upto_region 8 with fail
          generalize wr.alloc (.cells #[.string (bstr r), .string (bstr k), .int .u64 v, .bool z, .string (bstr x)] 39) = W1 at *
          go_wp2_with fail
          refine (hcm _).mono ?_
          rintro e WX ⟨rfl, hbX⟩
          replace hC := hC.step hbX
          have hbe3 := below2 hbel (below2 hW1 hbX)
          have hbeX := below2 hbw hbe3
          have hzX := hz.step hbe3
          clear hbX hW1 hcm c0 c1 c2 c3 c4 t0 t1 t2 t3 t4 d0 d1 d2 d3 d4 hN'
          go_wp2
          go_roundw
          case rel => exact ⟨i + 1, by go_num, by omega, HI2, hbe3⟩
          case measure => simp [intOf]; omega
      · have hie : i = m8 := by omega
        subst hie
        have HF : Hid (fnd row col L = none) := fnd_no HG.out fun j hj => HI.out j hj (by have := HML.out; omega)
        have hbeX := below2 hbw hbel
        obtain ⟨z0, z1, z2, z3, z4, f0, f1, f2, f3, f4⟩ := (hz.step hbel).facts
        go_wp2
        generalize hW : ((((wr.setCell ⟨w.heap.size, 0, none⟩ _).setCell ⟨w.heap.size, 1, none⟩ _).setCell ⟨w.heap.size, 2, none⟩ _).setCell ⟨w.heap.size, 3, none⟩ _).setCell ⟨w.heap.size, 4, none⟩ _ = W'
        obtain ⟨q0, q1, q2, q3, q4⟩ := set5_reads z0 z1 z2 z3 z4 hW
        refine bodyPost_ret (v := .tuple #[clV (optC none), .bool false, .int .i64 0]) (by rw [res_cell3 Tryz.results38]; simp [go_sem, q0, q1, q2, q3, q4]; exact ⟨rfl, rfl, rfl, rfl, rfl⟩) rfl ⟨.inl ⟨L, HG.out, hL, by rw [HF.out]; rfl⟩, ?_⟩
        rw [← hW]
        exact below_set5 _ _ _ _ _ hbeX (Nat.le_refl _)
  · obtain ⟨z0, z1, z2, z3, z4, f0, f1, f2, f3, f4⟩ := hz.facts
    have HN : Hid _ := hno
    clear hno hb1 hB0
    go_wp2
    generalize hW : ((((w1.setCell ⟨w.heap.size, 0, none⟩ _).setCell ⟨w.heap.size, 1, none⟩ _).setCell ⟨w.heap.size, 2, none⟩ _).setCell ⟨w.heap.size, 3, none⟩ _).setCell ⟨w.heap.size, 4, none⟩ _ = W'
    obtain ⟨q0, q1, q2, q3, q4⟩ := set5_reads z0 z1 z2 z3 z4 hW
    refine bodyPost_ret (v := .tuple #[clV (optC none), .bool false, .int .i64 4]) (by rw [res_cell3 Tryz.results38]; simp [go_sem, q0, q1, q2, q3, q4]; exact ⟨rfl, rfl, rfl, rfl, rfl⟩) rfl ⟨.inr ⟨rfl, HN.out⟩, ?_⟩
    rw [← hW]
    exact below_set5 _ _ _ _ _ hbw (Nat.le_refl _)

end Go.Proofs.YtmpnofbhbglfpaaGreatDoor
