/-
  The walk of the law CellsSorts.
-/
import Derived.Test.YthjnhkflmmalbaaCAlive
namespace Go.Proofs.Ythjnhkflmmalbaa
open Go.RowKit Go.BigFrame Go.Sort
attribute [local go_sem] size_bstr toList_bstr ls_def

theorem g_set (w : World) (g o : Nat) (v : Value) : w.grownBy (w.setCell ⟨g, o, none⟩ v) (some g) :=
  ⟨rfl, rfl, rfl, by simp [World.setCell], fun k _ hk => RowKit.Below.heap_setCell _ _ _ _ (fun e => hk (by rw [e]))⟩
theorem g_trans {a b c : World} {g : Nat} (h : a.grownBy b (some g)) (k : b.grownBy c (some g)) : a.grownBy c (some g) :=
  ⟨k.os.trans h.os, k.tape.trans h.tape, k.output.trans h.output, Nat.le_trans h.size k.size, fun i hi hne => (k.block i (Nat.lt_of_lt_of_le hi h.size) hne).trans (h.block i hi hne)⟩
theorem g_refl (w : World) (g : Nat) : w.grownBy w (some g) := ⟨rfl, rfl, rfl, Nat.le_refl _, fun _ _ _ => rfl⟩
theorem g_below {w w' : World} {g B : Nat} (h : w.grownBy w' (some g)) (hB : B ≤ g) (hw : B ≤ w.heap.size) : RowKit.Below B w w' :=
  ⟨h.os, h.tape, h.output, h.size, fun k hk => h.block k (by omega) (fun e => by cases e; omega)⟩

set_option maxHeartbeats 2000000 in
set_option maxRecDepth 100000 in
/-- spoil: it turns that block alone. -/
theorem spoil_one (p : Option Addr) (g cap : Nat) (cs : List Cl) (w : World) (hp : 0 < cs.length → p = some ⟨g, 0, none⟩ ∧ CRow w g 0 cs ∧ ∀ o, w.frozen? ⟨g, o, none⟩ = false) (hn : cs.length * 64 ≤ 140737488351232) :
    Calls Try.prog 16 #[.slice p cs.length cap] w fun e w' => e = .returned (.tuple #[]) ∧ w.grownBy w' (some g) := by
  go_enter Try.func16, Try.ntmps16
  go_wp2
  go_loopw [2] (fun s2 wr => ∃ i : Nat, s2 = .int .i64 (i : Int) ∧ i ≤ cs.length ∧ (0 < cs.length → Live wr g (cs.length * 5)) ∧ w.grownBy wr (some g)) (fun s2 _ => cs.length - (intOf s2).toNat)
  case atStart => exact ⟨0, rfl, by omega, fun h => (hp h).2.1.live (hp h).2.2, g_refl _ _⟩
  case round =>
    obtain ⟨i, rfl, hil, hL, hbel⟩ := hrel
    by_cases hlt : i < cs.length
    · obtain ⟨rfl, _, _⟩ := hp (by omega)
      have hl := hL (by omega)
      obtain ⟨u0, k0⟩ := hl.1 (i * 5) (by omega)
      obtain ⟨u1, k1⟩ := hl.1 (i * 5 + 1) (by omega)
      obtain ⟨u2, k2⟩ := hl.1 (i * 5 + 2) (by omega)
      obtain ⟨u3, k3⟩ := hl.1 (i * 5 + 3) (by omega)
      obtain ⟨u4, k4⟩ := hl.1 (i * 5 + 4) (by omega)
      have f0 := hl.2 (i * 5)
      have f1 := hl.2 (i * 5 + 1)
      have f2 := hl.2 (i * 5 + 2)
      have f3 := hl.2 (i * 5 + 3)
      have f4 := hl.2 (i * 5 + 4)
      have hiz : (i : Int) < (cs.length : Int) := by omega
      have hl2 : Hid (Live _ g (cs.length * 5)) := ((((hl.set (i * 5) (.string ⟨#[120]⟩)).set (i * 5 + 1) (.string ⟨#[]⟩)).set (i * 5 + 2) (.int .u64 77)).set (i * 5 + 3) (.bool false)).set (i * 5 + 4) (.string ⟨#[]⟩)
      have hb2 : Hid (w.grownBy _ (some g)) := g_trans (g_trans (g_trans (g_trans (g_trans hbel (g_set _ g (i * 5) (.string ⟨#[120]⟩))) (g_set _ g (i * 5 + 1) (.string ⟨#[]⟩))) (g_set _ g (i * 5 + 2) (.int .u64 77))) (g_set _ g (i * 5 + 3) (.bool false))) (g_set _ g (i * 5 + 4) (.string ⟨#[]⟩))
      clear hl hL hbel
      go_wp2
      go_roundw
      case rel => exact ⟨i + 1, by go_num, by omega, fun _ => hl2.out, hb2.out⟩
      case measure => simp [intOf]; omega
    · have hie : i = cs.length := by omega
      subst hie
      go_wp2
      go_end0
      exact ⟨rfl, hbel⟩

/-- A list that is the call's own, and may be written. -/
structure Mine (W : World) (p : Option Addr) (g cap : Nat) (cs : List Cl) : Prop where
  at_ : 0 < cs.length → p = some ⟨g, 0, none⟩ ∧ CRow W g 0 cs ∧ g < W.heap.size
  frz : 0 < cs.length → ∀ o, W.frozen? ⟨g, o, none⟩ = false
theorem Mine.next {W W' : World} {p : Option Addr} {g cap : Nat} {cs : List Cl} (h : Mine W p g cap cs) (hb : RowKit.Below W.heap.size W W') : Mine W' p g cap cs :=
  ⟨hq_step h.at_ hb (fun h0 => (h.at_ h0).2.2), fun h0 o => by rw [hb.frozen (p := ⟨g, o, none⟩) (h.at_ h0).2.2]; exact h.frz h0 o⟩
theorem Mine.grown {W W' : World} {p : Option Addr} {g cap k : Nat} {cs : List Cl} (h : Mine W p g cap cs) (hg : W.grownBy W' (some k)) (hne : 0 < cs.length → g ≠ k) : Mine W' p g cap cs := by
  have e : 0 < cs.length → W'.heap[g]? = W.heap[g]? := fun h0 => hg.block g (h.at_ h0).2.2 (fun e => hne h0 (by cases e; rfl))
  have ec : 0 < cs.length → ∀ o, W'.cell? ⟨g, o, none⟩ = W.cell? ⟨g, o, none⟩ := fun h0 o => by simp only [World.cell?, e h0]
  have ef : 0 < cs.length → ∀ o, W'.frozen? ⟨g, o, none⟩ = W.frozen? ⟨g, o, none⟩ := fun h0 o => by simp only [World.frozen?, e h0]
  exact ⟨fun h0 => ⟨(h.at_ h0).1, (h.at_ h0).2.1.same (ec h0), Nat.lt_of_lt_of_le (h.at_ h0).2.2 hg.size⟩, fun h0 o => by rw [ef h0]; exact h.frz h0 o⟩
theorem own_mine {w : World} {B e : Nat} {v : Value} {cs : List Cl} (h : w.ownsRow B e 5 v cs.length (ccells cs)) : ∃ p cap g, v = .slice p cs.length cap ∧ B ≤ g ∧ Mine w p g cap cs := by
  obtain ⟨p, cap, g, hv, hB, hA, hf⟩ := own_arg h
  exact ⟨p, cap, g, hv, hB, ⟨hA.at_, hf⟩⟩

set_option maxHeartbeats 4000000 in
set_option maxRecDepth 100000 in
theorem sorts_walk (q : Option Addr) (b off cap : Nat) (cs : List Cl) (w : World) (hq : 0 < cs.length → q = some ⟨b, off, none⟩ ∧ CRow w b off cs ∧ b < w.heap.size) (hf : ∀ c ∈ cs, Fits c) (hcap : cs.length ≤ cap) (hnil : q = none → cs = [] ∧ cap = 0) :
    Calls Try.prog 3 #[.slice q cs.length cap] w fun e w' => e = .returned (.bool true) ∧ RowKit.Below w.heap.size w w' := by
  have hdl : (cs.take 400).length = min cs.length 400 := by rw [List.length_take, Nat.min_comm]
  have hmin : (min (cs.length : Int) 400).toNat = (cs.take 400).length := by omega
  have hd : (cs.take 400).length ≤ 400 := by omega
  have hA : Arg w q b off cap (cs.take 400) := ⟨fun h => ⟨(hq (by omega)).1, (hq (by omega)).2.1.take 400, (hq (by omega)).2.2⟩, fun h => ⟨by rw [(hnil h).1]; rfl, (hnil h).2⟩⟩
  have hfd : ∀ c ∈ cs.take 400, Fits c := fun c hc => hf c (List.mem_of_mem_take hc)
  have hbw : 0 < (cs.take 400).length → b < w.heap.size := fun h => (hA.at_ h).2.2
  clear hdl hq hf
  generalize cs.take 400 = ds at *
  go_enter Try.func3, Try.ntmps3
  go_wp2_with fail
  refine (Own_any q b off cap ds w hA.at_ (by omega) hA.nil).mono ?_
  rintro e w1 ⟨v1, rfl, hown1, hb1⟩
  obtain ⟨p1, c1, g1, rfl, hg1, hI, _⟩ := own_arg hown1
  replace hA := hA.next hb1
  have hlt1 : 0 < ds.length → g1 < w1.heap.size := fun h => (hI.at_ h).2.2
  clear hown1
  have hsl : (sortL ds).length ≤ 400 := Nat.le_trans (sort_len _) hd
  have hnl : (newL ds).length ≤ (sortL ds).length := ddl_length _ _
  have hal : (aliveL ds).length ≤ (newL ds).length := List.length_filter_le _ _
  go_wp2_with fail
  refine (Sort_any p1 g1 0 c1 ds w1 hI.at_ hfd (by omega)).mono ?_
  rintro e w2 ⟨v2, rfl, hown2, hb2⟩
  obtain ⟨p2, c2, g2, rfl, hg2, m2⟩ := own_mine hown2
  replace hA := hA.next hb2
  replace hI := hI.next hb2
  have hw1 := hb1.size
  have hz2 := hb2.size
  replace hb2 := below2 hb1 hb2
  have hl2 : 0 < (sortL ds).length → g2 < w2.heap.size := fun h => (m2.at_ h).2.2
  clear hown2 hb1
  go_wp2_with fail
  refine (Newest_any p1 g1 0 c1 ds w2 hI.at_ hfd (by omega)).mono ?_
  rintro e w3 ⟨v3, rfl, hown3, hb3⟩
  obtain ⟨p3, c3, g3, rfl, hg3, m3⟩ := own_mine hown3
  replace hA := hA.next hb3
  replace hI := hI.next hb3
  replace m2 := m2.next hb3
  have hz3 := hb3.size
  replace hb3 := below2 hb2 hb3
  have hl3 : 0 < (newL ds).length → g3 < w3.heap.size := fun h => (m3.at_ h).2.2
  clear hown3 hb2
  go_wp2_with fail
  refine (Alive_any p1 g1 0 c1 ds w3 hI hfd (by omega)).mono ?_
  rintro e w4 ⟨p4, c4, g4, rfl, hg4, hm4, hf4, hb4⟩
  have m4 : Mine w4 p4 g4 c4 (aliveL ds) := ⟨hm4, hf4⟩
  replace hA := hA.next hb4
  replace hI := hI.next hb4
  replace m2 := m2.next hb4
  replace m3 := m3.next hb4
  have hz4 := hb4.size
  replace hb4 := below2 hb3 hb4
  clear hm4 hf4 hb3
  go_wp2_with fail
  refine (RSort_any q b off cap ds w4 hA (by omega)).mono ?_
  rintro e w5 ⟨v5, rfl, hown5, hb5⟩
  obtain ⟨p5, c5, g5, rfl, hg5, m5⟩ := own_mine hown5
  replace hA := hA.next hb5
  replace hI := hI.next hb5
  replace m2 := m2.next hb5
  replace m3 := m3.next hb5
  replace m4 := m4.next hb5
  have hz5 := hb5.size
  replace hb5 := below2 hb4 hb5
  clear hown5 hb4
  go_wp2_with fail
  refine (Same_any p2 p5 g2 0 c2 g5 0 c5 (sortL ds) w5 (hq_two m2.at_) (hq_two m5.at_) (by omega)).mono ?_
  rintro e w6 ⟨rfl, hb6⟩
  replace hA := hA.next hb6
  replace hI := hI.next hb6
  replace m2 := m2.next hb6
  replace m3 := m3.next hb6
  replace m4 := m4.next hb6
  have hz6 := hb6.size
  replace hb6 := below2 hb5 hb6
  clear hb5 m5
  go_wp2_with fail
  refine (RNewest_any q b off cap ds w6 hA (by omega)).mono ?_
  rintro e w7 ⟨v7, rfl, hown7, hb7⟩
  obtain ⟨p7, c7, g7, rfl, hg7, m7⟩ := own_mine hown7
  replace hA := hA.next hb7
  replace hI := hI.next hb7
  replace m2 := m2.next hb7
  replace m3 := m3.next hb7
  replace m4 := m4.next hb7
  have hz7 := hb7.size
  replace hb7 := below2 hb6 hb7
  clear hown7 hb6
  go_wp2_with fail
  refine (Same_any p3 p7 g3 0 c3 g7 0 c7 (newL ds) w7 (hq_two m3.at_) (hq_two m7.at_) (by omega)).mono ?_
  rintro e w8 ⟨rfl, hb8⟩
  replace hA := hA.next hb8
  replace hI := hI.next hb8
  replace m2 := m2.next hb8
  replace m3 := m3.next hb8
  replace m4 := m4.next hb8
  have hz8 := hb8.size
  replace hb8 := below2 hb7 hb8
  clear hb7 m7
  go_wp2_with fail
  refine (RAlive_any q b off cap ds w8 hA (by omega)).mono ?_
  rintro e w9 ⟨v9, rfl, hown9, hb9⟩
  obtain ⟨p9, c9, g9, rfl, hg9, m9⟩ := own_mine hown9
  replace hA := hA.next hb9
  replace hI := hI.next hb9
  replace m2 := m2.next hb9
  replace m3 := m3.next hb9
  replace m4 := m4.next hb9
  have hz9 := hb9.size
  replace hb9 := below2 hb8 hb9
  clear hown9 hb8
  go_wp2_with fail
  refine (Same_any p4 p9 g4 0 c4 g9 0 c9 (aliveL ds) w9 (hq_two m4.at_) (hq_two m9.at_) (by omega)).mono ?_
  rintro e w10 ⟨rfl, hb10⟩
  replace hA := hA.next hb10
  replace hI := hI.next hb10
  replace m2 := m2.next hb10
  replace m3 := m3.next hb10
  replace m4 := m4.next hb10
  have hz10 := hb10.size
  replace hb10 := below2 hb9 hb10
  have hs10 := hb10.size
  clear hb9 m9
  go_wp2_with fail
  refine (spoil_one p2 g2 c2 (sortL ds) w10 (fun h => ⟨(m2.at_ h).1, (m2.at_ h).2.1, m2.frz h⟩) (by omega)).mono ?_
  rintro e w11 ⟨rfl, hgr⟩
  replace m3 := m3.grown hgr (fun h => by have := hl2 (by omega); omega)
  replace m4 := m4.grown hgr (fun h => by have := hl2 (by omega); omega)
  replace hA := hA.step (g_below hgr (B := w.heap.size) (by omega) (by omega)) hbw
  replace hI := hI.step (g_below hgr (B := w1.heap.size) hg2 (by omega)) hlt1
  have hb11 := hb10.trans (g_below hgr (B := w.heap.size) (by omega) (by omega))
  have hz11 := hgr.size
  clear hgr m2 hb10
  go_wp2_with fail
  refine (spoil_one p3 g3 c3 (newL ds) w11 (fun h => ⟨(m3.at_ h).1, (m3.at_ h).2.1, m3.frz h⟩) (by omega)).mono ?_
  rintro e w12 ⟨rfl, hgr⟩
  replace m4 := m4.grown hgr (fun h => by have := hl3 (by omega); omega)
  replace hA := hA.step (g_below hgr (B := w.heap.size) (by omega) (by omega)) hbw
  replace hI := hI.step (g_below hgr (B := w1.heap.size) (by omega) (by omega)) hlt1
  have hb12 := hb11.trans (g_below hgr (B := w.heap.size) (by omega) (by omega))
  have hz12 := hgr.size
  clear hgr m3 hb11
  go_wp2_with fail
  refine (spoil_one p4 g4 c4 (aliveL ds) w12 (fun h => ⟨(m4.at_ h).1, (m4.at_ h).2.1, m4.frz h⟩) (by omega)).mono ?_
  rintro e w13 ⟨rfl, hgr⟩
  replace hA := hA.step (g_below hgr (B := w.heap.size) (by omega) (by omega)) hbw
  replace hI := hI.step (g_below hgr (B := w1.heap.size) (by omega) (by omega)) hlt1
  have hb13 := hb12.trans (g_below hgr (B := w.heap.size) (by omega) (by omega))
  clear hgr m4 hb12
  go_wp2_with fail
  refine (Same_any p1 q g1 0 c1 b off cap ds w13 (hq_two hI.at_) (hq_two hA.at_) (by omega)).mono ?_
  rintro e w14 ⟨rfl, hb14⟩
  replace hb14 := below2 hb13 hb14
  clear hA hI hb13
  go_wp2_with fail
  refine (works_any w14).mono ?_
  rintro e w15 ⟨rfl, hb15⟩
  replace hb15 := below2 hb14 hb15
  clear hb14
  go_wp2
  go_ret
  exact ⟨rfl, hb15⟩

end Go.Proofs.Ythjnhkflmmalbaa
