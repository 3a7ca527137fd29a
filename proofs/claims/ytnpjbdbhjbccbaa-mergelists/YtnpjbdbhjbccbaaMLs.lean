/-
  The law MergeLists, walked.
-/
import Derived.Test.YtnpjbdbhjbccbaaMNw
namespace Go.Proofs.Ytnpjbdbhjbccbaa
open Go.RowKit Go.BigFrame Go.Sort
attribute [local go_sem] size_bstr toList_bstr ls_def

set_option maxHeartbeats 4000000 in
set_option maxRecDepth 100000 in
theorem MLists_any (q : Option Addr) (b off cap : Nat) (cs : List Cl) (most : Int) (w : World) (hq : 0 < cs.length → q = some ⟨b, off, none⟩ ∧ CRow w b off cs ∧ b < w.heap.size) (hf : ∀ c ∈ cs, Fits c) (hn : cs.length * 64 ≤ 140737488351232) (hcap : cs.length ≤ cap) (hnil : q = none → cs = [] ∧ cap = 0) (hm : most ≤ 9223372036854775807) :
    Calls Try.prog 5 #[.slice q cs.length cap, .int .i64 most] w fun e w' => e = .returned (.bool true) ∧ Below w.heap.size w w' := by
  have hA : Arg w q b off cap cs := ⟨hq, hnil⟩
  obtain ⟨k, hk⟩ : ∃ k, k = min most.toNat cs.length := ⟨_, rfl⟩
  have hkm : max 0 (min most (cs.length : Int)) = (k : Int) := by omega
  have hkl : k ≤ cs.length := by omega
  have hkc : k ≤ cap := by omega
  have htk : (cs.drop 0).take most.toNat = cs.take k := by
    rw [List.drop_zero, hk]
    rw [List.take_eq_take_iff]
    omega
  have hdk : cs.drop k = cs.drop (0 + askN (cs.length - 0) most.toNat) := by
    unfold askN
    split
    · rw [List.drop_eq_nil_of_le (by omega), List.drop_eq_nil_of_le (by omega)]
    · congr 1; omega
  have HDK : Hid _ := hdk
  have HTK : Hid _ := htk
  have HK : Hid _ := hk
  clear hk hdk htk
  have hhd := fun W => mhead_run (P := Try.prog) (t := 29) (q := q) (len := cs.length) (cap := cap) (n := k) (s := 5) Try.underlying29 (fun W => Try.sizeOf39 W) hkc W
  have htl := fun W => mtail_run (P := Try.prog) (t := 29) (q := q) (len := cs.length) (cap := cap) (n := k) (s := 5) Try.underlying29 (fun W => Try.sizeOf39 W) hkl W
  obtain ⟨q4, hq4⟩ : ∃ q4, (if cap = k then q else q.map (·.add (k * 5))) = q4 := ⟨_, rfl⟩
  rw [hq4] at htl
  have HQ4 : Hid _ := hq4
  clear hq4
  have hkz : (k : Int) ≤ (cap : Int) := by omega
  have hkz2 : (k : Int) ≤ (cs.length : Int) := by omega
  have hown := Own_any q b off cap cs w hq hn hnil
  go_enter Try.func5, Try.ntmps5
  go_wp2_with fail
  refine hown.mono ?_
  rintro e w1 ⟨v1, rfl, hown1, hb1⟩
  obtain ⟨p1, c1, g, rfl, _, hg1, hr1, hz1⟩ := own_get hown1
  have hof := Of_any p1 g 0 c1 cs w1 hr1 hf (by omega)
  clear hown hown1
  go_wp2_with fail
  refine hof.mono ?_
  rintro e w2 ⟨va, la, rfl, hJ2, hn2, hv2, hl2, hb2⟩
  have hT := Of_tlr va la cs hn2 hf
  have hlv : 0 < cs.length → Live w2 g (cs.length * 5) ∧ g < w1.heap.size := fun h => by
    obtain ⟨_, r, l⟩ := hr1 h
    exact ⟨(r.step hb2 l).live (fun o => by rw [hb2.frozen (p := ⟨g, o, none⟩) l]; exact hz1 h o), l⟩
  have HOF : Hid _ := hJ2
  clear hof hJ2
  go_wp2
  go_loopw [7] (fun s7 wr => ∃ i : Nat, s7 = .int .i64 (i : Int) ∧ i ≤ cs.length ∧ Hid ((0 < cs.length → Live wr g (cs.length * 5)) ∧ Kp w2 wr (fun i => 0 < cs.length ∧ i = g))) (fun s7 _ => cs.length - (intOf s7).toNat)
  case atStart => exact ⟨0, rfl, by omega, ⟨fun h => (hlv h).1, Kp.refl _ _⟩⟩
  case round =>
    obtain ⟨i, rfl, hil, HR⟩ := hrel
    obtain ⟨hL, hK⟩ := HR.out
    by_cases hlt : i < cs.length
    · have h0 : 0 < cs.length := by omega
      obtain ⟨rfl, _, _⟩ := hr1 h0
      have hLv := hL h0
      obtain ⟨u0, k0⟩ := hLv.1 (i * 5) (by omega)
      obtain ⟨u1, k1⟩ := hLv.1 (i * 5 + 1) (by omega)
      obtain ⟨u2, k2⟩ := hLv.1 (i * 5 + 2) (by omega)
      obtain ⟨u3, k3⟩ := hLv.1 (i * 5 + 3) (by omega)
      obtain ⟨u4, k4⟩ := hLv.1 (i * 5 + 4) (by omega)
      have f0 := hLv.2 (i * 5)
      have f1 := hLv.2 (i * 5 + 1)
      have f2 := hLv.2 (i * 5 + 2)
      have f3 := hLv.2 (i * 5 + 3)
      have f4 := hLv.2 (i * 5 + 4)
      have HLV : Hid (Live wr g (cs.length * 5)) := hLv
      clear hL hLv HR
      go_wp2
      go_roundw
      case rel =>
        refine ⟨i + 1, by go_num, by omega, ⟨fun _ => ((((HLV.out.set _ _).set _ _).set _ _).set _ _).set _ _, ?_⟩⟩
        exact ((((hK.setCell _ (Or.inl ⟨h0, rfl⟩)).setCell _ (Or.inl ⟨h0, rfl⟩)).setCell _ (Or.inl ⟨h0, rfl⟩)).setCell _ (Or.inl ⟨h0, rfl⟩)).setCell _ (Or.inl ⟨h0, rfl⟩)
      case measure => simp [intOf]; omega
    · have hJ3 : OfJ va la cs 0 wr := hT.kp HOF.out hK (fun j hj hf2 => by
        obtain ⟨h0, rfl⟩ := hj
        have := (hlv h0).2
        rcases hf2 with rfl | ⟨_, rfl⟩ <;> omega)
      have hBr : Below w.heap.size w wr := below2' (below2 hb1 hb2) hK (fun j hj => by obtain ⟨_, rfl⟩ := hj; exact hg1)
      have hlist := List_row hT 0 most wr hJ3 hn hm
      rw [HTK.out] at hlist
      have hls : (cs.take k).length = k := by rw [List.length_take]; omega
      clear hL HR hK
      go_wp2_with fail
      refine hlist.mono ?_
      rintro e w3 ⟨v3, rfl, hown3, hJ4, hk3⟩
      obtain ⟨q3, b3, cap3, rfl, hB3, hr3⟩ := own_tells hown3
      have hB3' : Below w.heap.size w w3 := below2' hBr hk3 (fun j hj => by have := hb1.size; rcases hj with rfl | ⟨_, rfl⟩ <;> omega)
      have hA3 := hA.next hB3'
      have hsame := Same4_yes q3 q b3 0 cap3 b off cap (cs.take k) w3 (fun h => ⟨(hr3 h).1, (hr3 h).2.1⟩) (fun h => by
        obtain ⟨e1, e2, _⟩ := hA3.at_ (by rw [hls] at h; omega)
        exact ⟨e1, e2.take k⟩) (by rw [hls]; omega)
      have HDR : Hid _ := hJ4
      rw [hls] at hsame ⊢
      clear hlist hown3 hJ4 hr3
      go_wp2_with fail
      refine hsame.mono ?_
      rintro e w4 ⟨rfl, hb4⟩
      have hA4 := hA3.next hb4
      have hdl : (cs.drop k).length = cs.length - k := List.length_drop
      have ht := tells_yes hT (0 + askN (cs.length - 0) most.toNat) q4 b (off + k * 5) (cap - k) (cs.drop k) w4 (hT.below HDR.out hb4) HDK.out (fun h => by
        rw [hdl] at h
        obtain ⟨e1, e2, e3⟩ := hA4.at_ (by omega)
        refine ⟨?_, e2.drop k, e3, fun hf2 => ?_⟩
        · rw [← HQ4.out, if_neg (by omega), e1, Option.map_some, Addr.add_lit]
        · obtain ⟨_, _, e5⟩ := hA.at_ (by omega)
          have := hb1.size
          rcases hf2 with rfl | ⟨_, rfl⟩ <;> omega) (by rw [hdl]; omega)
      rw [hdl] at ht
      have hB4 := below2 hB3' hb4
      clear hsame hdl
      go_wp2_with fail
      refine ht.mono ?_
      rintro e w5 ⟨rfl, hk5⟩
      have hB5 : Below w.heap.size w w5 := below2' hB4 hk5 (fun j hj => by have := hb1.size; rcases hj with rfl | ⟨_, rfl⟩ <;> omega)
      clear ht
      go_wp2_with fail
      refine (works12_any _).mono ?_
      rintro e w6 ⟨rfl, hb6⟩
      have hfin := below2 hB5 hb6
      go_wp2
      go_ret
      exact ⟨rfl, hfin⟩

end Go.Proofs.Ytnpjbdbhjbccbaa
