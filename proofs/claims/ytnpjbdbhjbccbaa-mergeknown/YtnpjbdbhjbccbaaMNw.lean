/-
  The law MergeNewest, walked.
-/
import Derived.Test.YtnpjbdbhjbccbaaMRef
namespace Go.Proofs.Ytnpjbdbhjbccbaa
open Go.RowKit Go.BigFrame Go.Sort
attribute [local go_sem] size_bstr toList_bstr ls_def

theorem mhead_run {P : Program} {t : TypeId} {q : Option Addr} {len cap n s : Nat} (ht : P.underlying t = some (.slice (P.elem t))) (hz : ∀ w, (Go.sizeOf (P.elem t)).run P w = .ok s w) (hn : n ≤ cap) (w : World) :
    (Instr.slice t (.slice q len cap) none (some (.int .i64 (n : Int))) none).run P w = .ok (.slice q n cap) w := by
  rw [run_slice_h w t q len cap ht .i64 (n : Int) (by omega) (by omega), hz]
  have e : sliced q 0 n cap s = .slice q n cap := by
    unfold sliced
    cases q with
    | none => simp
    | some a =>
      have : a.add 0 = a := by cases a; simp [Addr.add]
      simp [this]
  simp only [Result.andThen, Int.toNat_natCast, e]
theorem Arg.take {w : World} {q : Option Addr} {b off cap : Nat} {cs : List Cl} (h : Arg w q b off cap cs) (k : Nat) : Arg w q b off cap (cs.take k) :=
  ⟨fun h0 => by
    have h1 : 0 < cs.length := by rw [List.length_take] at h0; omega
    obtain ⟨a, b, c⟩ := h.at_ h1
    exact ⟨a, b.take k, c⟩, fun e => by obtain ⟨rfl, e2⟩ := h.nil e; exact ⟨by simp, e2⟩⟩
/-- A row that is owned, held against what a row tells. -/
theorem own_tells {w : World} {B : Nat} {v : Value} {l : List Cl} (h : w.ownsRow B 39 5 v l.length (ccells l)) : ∃ q b cap, v = .slice q l.length cap ∧ B ≤ b ∧ (0 < l.length → q = some ⟨b, 0, none⟩ ∧ CRow w b 0 l ∧ b < w.heap.size) := by
  obtain ⟨p, cap, g, hv, _, hB, hr, _⟩ := own_get h
  exact ⟨p, g, cap, hv, hB, hr⟩

set_option maxHeartbeats 4000000 in
set_option maxRecDepth 100000 in
theorem MNewest_any (q : Option Addr) (b off cap : Nat) (cs : List Cl) (w : World) (hq : 0 < cs.length → q = some ⟨b, off, none⟩ ∧ CRow w b off cs ∧ b < w.heap.size) (hf : ∀ c ∈ cs, Fits c) (hcap : cs.length ≤ cap) (hnil : q = none → cs = [] ∧ cap = 0) :
    Calls Try.prog 4 #[.slice q cs.length cap] w fun e w' => e = .returned (.bool true) ∧ Below w.heap.size w w' := by
  have hA0 : Arg w q b off cap cs := ⟨hq, hnil⟩
  obtain ⟨m, hm⟩ : ∃ m, m = (cs.take 400).length := ⟨_, rfl⟩
  have hml : m ≤ 400 ∧ m ≤ cs.length := by rw [List.length_take] at hm; omega
  have hmi : (min (cs.length : Int) 400) = (m : Int) := by rw [List.length_take] at hm; omega
  have hA := hA0.take 400
  have hf' : ∀ c ∈ cs.take 400, Fits c := fun c hc => hf c (List.mem_of_mem_take hc)
  have hhd := fun W => mhead_run (P := Try.prog) (t := 29) (q := q) (len := cs.length) (cap := cap) (n := m) (s := 5) Try.underlying29 (fun W => Try.sizeOf39 W) (by omega) W
  clear hA0 hq hnil hf
  have hcc : (m : Int) ≤ (cap : Int) := by omega
  generalize cs.take 400 = ds at *
  have hof := Of_any q b off cap ds w hA.at_ hf' (by omega)
  rw [← hm] at hof
  have hdl : ds.length ≤ 400 := by omega
  have HM : Hid _ := hm
  clear hm
  go_enter Try.func4, Try.ntmps4
  go_wp2_with fail
  refine hof.mono ?_
  rintro e w1 ⟨va, la, rfl, hJ1, hn1, hv1, hl1, hb1⟩
  have hT1 := Of_tlr va la ds hn1 hf'
  have hnew := newest_rv (Or.inr ⟨_, _, rfl, hT1⟩) w1 hJ1
  clear hof
  go_wp2_with fail
  refine hnew.mono ?_
  rintro e w2 ⟨c2, F2, J2, rfl, hT2, hJ2, hF2, hb2, _⟩
  have hA2 := (hA.next hb1).next hb2
  have href := R12Newest_any q b off cap ds w2 hA2 (by omega)
  rw [← HM.out] at href
  clear hnew
  go_wp2_with fail
  refine href.mono ?_
  rintro e w3 ⟨v3, rfl, hown3, hb3⟩
  obtain ⟨q3, b3, cap3, rfl, hB3, hr3⟩ := own_tells hown3
  have hlt2 := hT2.lt 0 w2 hJ2
  have hll3 : (ddl plc ds).length ≤ 400 := Nat.le_trans (ddl_length _ _) hdl
  have ht := tells_yes hT2 0 q3 b3 0 cap3 (ddl plc ds) w3 (hT2.below hJ2 hb3) (by rw [List.drop_zero]; exact ddl_sift ds) (fun h => ⟨(hr3 h).1, (hr3 h).2.1, (hr3 h).2.2, fun hf => by have := hlt2 _ hf; omega⟩) (by omega)
  have hF2' : ∀ i, F2 i → w.heap.size ≤ i := fun i hi => by
    rcases hF2 i hi with k | k
    · rcases k with rfl | ⟨_, rfl⟩ <;> omega
    · have := hb1.size; omega
  have hB3' := below2 (below2 hb1 hb2) hb3
  clear href hown3 hA2
  go_wp2_with fail
  refine ht.mono ?_
  rintro e w4 ⟨rfl, hk4⟩
  have hB4 : Below w.heap.size w w4 := below2' hB3' hk4 hF2'
  clear ht hr3 hlt2 hll3 hT2 hJ2 hF2 hF2' hB3' hk4 hb1 hb2 hb3 hT1 hJ1 hn1 hv1 hl1
  have hA4 := hA.next hB4
  have hof := Of_any q b off cap ds w4 hA4.at_ hf' (by omega)
  rw [← HM.out] at hof
  go_wp2_with fail
  refine hof.mono ?_
  rintro e w5 ⟨vb, lb, rfl, hJ5, hn5, hv5, hl5, hb5⟩
  have hT5 := Of_tlr vb lb ds hn5 hf'
  have hal := alive_rv (Or.inr ⟨_, _, rfl, hT5⟩) w5 hJ5
  clear hof
  go_wp2_with fail
  refine hal.mono ?_
  rintro e w6 ⟨c6, F6, J6, rfl, hT6, hJ6, hF6, hb6⟩
  have hA6 := (hA4.next hb5).next hb6
  have href := R12Alive_any q b off cap ds w6 hA6 (by omega)
  rw [← HM.out] at href
  clear hal
  go_wp2_with fail
  refine href.mono ?_
  rintro e w7 ⟨v7, rfl, hown7, hb7⟩
  obtain ⟨q7, b7, cap7, rfl, hB7, hr7⟩ := own_tells hown7
  have hlt6 := hT6.lt 0 w6 hJ6
  have hll7 : (alvL (ddl plc ds)).length ≤ 400 := Nat.le_trans (List.length_filter_le _ _) (Nat.le_trans (ddl_length _ _) hdl)
  have ht := tells_yes hT6 0 q7 b7 0 cap7 (alvL (ddl plc ds)) w7 (hT6.below hJ6 hb7) (by rw [List.drop_zero]; rw [ddl_sift]) (fun h => ⟨(hr7 h).1, (hr7 h).2.1, (hr7 h).2.2, fun hf => by have := hlt6 _ hf; omega⟩) (by omega)
  have hF6' : ∀ i, F6 i → w4.heap.size ≤ i := fun i hi => by
    rcases hF6 i hi with k | k
    · rcases k with rfl | ⟨_, rfl⟩ <;> omega
    · have := hb5.size; omega
  have hB7' := below2 (below2 hb5 hb6) hb7
  clear href hown7 hA6
  go_wp2_with fail
  refine ht.mono ?_
  rintro e w8 ⟨rfl, hk8⟩
  have hB8 : Below w4.heap.size w4 w8 := below2' hB7' hk8 hF6'
  clear ht hr7 hlt6 hll7 hT6 hJ6 hF6 hF6' hB7' hk8
  go_wp2_with fail
  refine (works12_any _).mono ?_
  rintro e w9 ⟨rfl, hb9⟩
  have hfin : Below w.heap.size w w9 := below2 (below2 hB4 hB8) hb9
  go_wp2
  go_ret
  exact ⟨rfl, hfin⟩

end Go.Proofs.Ytnpjbdbhjbccbaa
