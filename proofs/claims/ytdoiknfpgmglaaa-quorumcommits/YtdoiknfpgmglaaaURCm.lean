/-
  The document's answers for quorum: Commit.
-/
import Derived.Test.YtdoiknfpgmglaaaURf2
namespace Go.Proofs.Ytdoiknfpgmglaaa
open Go.RowKit Go.BigFrame

def cnt (L : List Nat) (v k : Nat) : Nat := (L.take k).countP (fun x => decide (v ≤ x))
theorem cnt_succ {L : List Nat} {v k : Nat} (h : k < L.length) : cnt L v (k + 1) = cnt L v k + (if v ≤ L[k] then 1 else 0) := by
  unfold cnt
  rw [List.take_add_one, List.getElem?_eq_getElem h, List.countP_append]
  congr 1
  by_cases e : v ≤ L[k] <;> simp [e]
theorem cnt_le (L : List Nat) (v k : Nat) : cnt L v k ≤ k := by
  unfold cnt
  refine Nat.le_trans List.countP_le_length ?_
  rw [List.length_take]
  omega
/-- The best of the first i. -/
structure Best (a n N : Nat) (L : List Nat) (i B : Nat) : Prop where
  one : B = 0 ∨ n ≤ cnt L B L.length
  all : ∀ j (_ : j < i) (h : j < L.length), n ≤ cnt L L[j] L.length → L[j] ≤ B
theorem Best.end_ {a n N B : Nat} {ms : List Nat} (h : Best a n N (ms.take N) (ms.take N).length B) (h0 : 0 < n) (hN : n ≤ N) : IsCom n (pad N ms) B := by
  have e : ∀ v, cnt (ms.take N) v (ms.take N).length = cntR N ms v := fun v => by unfold cnt cntR; rw [List.take_length]
  refine com_best hN h0 ?_ ?_
  · rcases h.one with h1 | h1
    · exact .inl h1
    · rw [e] at h1
      exact .inr h1
  · intro v hv hc
    obtain ⟨j, hj, rfl⟩ := List.mem_iff_getElem.1 hv
    refine h.all j hj hj ?_
    rw [e]
    exact hc
theorem Best.up {a n N i B : Nat} {L : List Nat} (h : Best a n N L i B) (hi : i < L.length) (hc : n ≤ cnt L L[i] L.length) (hb : B < L[i]) : Best a n N L (i + 1) L[i] :=
  ⟨.inr hc, fun j hj hl hc2 => by
    rcases Nat.lt_or_ge j i with e | e
    · have := h.all j e hl hc2
      omega
    · obtain rfl : j = i := by omega
      exact Nat.le_refl _⟩
theorem Best.stay {a n N i B : Nat} {L : List Nat} (h : Best a n N L i B) (hi : i < L.length) (hc : ¬ n ≤ cnt L L[i] L.length ∨ ¬ B < L[i]) : Best a n N L (i + 1) B :=
  ⟨h.one, fun j hj hl hc2 => by
    rcases Nat.lt_or_ge j i with e | e
    · exact h.all j e hl hc2
    · obtain rfl : j = i := by omega
      rcases hc with hc | hc
      · exact absurd hc2 hc
      · omega⟩
/-- What the document's loop knows. -/
def BestQ (c : Bool) (n N : Nat) (L : List Nat) (i B : Nat) : Prop := (c = false → B = 0) ∧ (c = true → Best 0 n N L i B)

set_option maxHeartbeats 8000000 in
set_option maxRecDepth 100000 in
theorem RCommit_any (q : Option Addr) (cap : Nat) (l : List Int) (q2 : Option Addr) (cap2 : Nat) (ms : List Nat) (w : World) (h : IArg w q l) (hl : l.length ≤ 9223372036854775807) (h2 : UArg w q2 ms) (hms : ms.length ≤ 9223372036854775807) :
    Calls Try.prog 23 #[.slice q l.length cap, .slice q2 ms.length cap2] w fun e w' => (∃ c : Nat, e = .returned (.int .u64 (c : Int)) ∧ (chk l = false → c = 0) ∧ (chk l = true → IsCom (most l) (pad l.length ms) c)) ∧ Below w.heap.size w w' := by
  obtain ⟨ck, hck⟩ : ∃ ck, ck = chk l := ⟨_, rfl⟩
  obtain ⟨mo, hmo⟩ : ∃ mo, mo = most l := ⟨_, rfl⟩
  have hM := fun w => RMost_any q cap l w hl
  have hR := fun w h => RMay_any q cap l w h hl
  have HMO : Hid (ck = true → 0 < mo ∧ mo ≤ l.length) := by
    show ck = true → _
    intro e
    have := chk_len (hck ▸ e)
    rw [hmo]
    unfold most
    omega
  rw [← hck] at hR ⊢
  rw [← hmo] at hM ⊢
  clear hck hmo
  obtain ⟨L, hL⟩ : ∃ L, L = ms.take l.length := ⟨_, rfl⟩
  have HL : Hid _ := hL
  have hLl : L.length ≤ ms.length ∧ L.length ≤ l.length := by rw [hL, List.length_take]; omega
  have HLl : Hid (L.length = min l.length ms.length) := by show _ = _; rw [hL, List.length_take]
  have HG : Hid (∀ k (hk : k < L.length) (hk2 : k < ms.length), ms[k] = L[k]) := by
    show ∀ k (hk : k < L.length) (hk2 : k < ms.length), ms[k] = L[k]
    intro k hk hk2
    subst hL
    rw [List.getElem_take]
  clear hL
  go_enter Try.func23, Try.ntmps23
  go_wp2
  go_loopw [5, 6] (fun s5 s6 wr => ∃ i B : Nat, s6 = .int .i64 (i : Int) ∧ i ≤ L.length ∧ s5 = .int .u64 (B : Int) ∧ Hid (BestQ ck mo l.length L i B) ∧ Below w.heap.size w wr) (fun _ s6 _ => L.length - (intOf s6).toNat)
  case atStart => exact ⟨0, 0, rfl, Nat.zero_le _, rfl, (⟨fun _ => rfl, fun _ => ⟨.inl rfl, fun j hj => absurd hj (by omega)⟩⟩ : BestQ ck mo l.length L 0 0), Below.refl _ _⟩
  case round =>
    obtain ⟨i, B, rfl, hil, rfl, hQ, hbr⟩ := hrel
    by_cases hlt : i < L.length
    · have hi1 : (i : Int) < (ms.length : Int) := by omega
      have hi2 : (i : Int) < (l.length : Int) := by omega
      have hi3 : i < ms.length := by omega
      have hU0 : UArg w q2 ms := h2
      obtain ⟨b, off, rfl, hr⟩ := h2 (by omega)
      have ci0 := hr i hi3
      have Hg := HG.out
      rw [Hg i hlt hi3] at ci0
      have HUP : Hid (∀ (hc : mo ≤ cnt L L[i] L.length) (hb : B < L[i]), BestQ ck mo l.length L (i + 1) L[i] ∨ ck = false) := by
        show ∀ (hc : mo ≤ cnt L L[i] L.length) (hb : B < L[i]), BestQ ck mo l.length L (i + 1) L[i] ∨ ck = false
        intro hc hb
        cases ck with
        | false => exact .inr rfl
        | true => exact .inl ⟨fun e => by simp at e, fun _ => (hQ.out.2 rfl).up hlt hc hb⟩
      have HST : Hid (∀ (hc : ck = false ∨ ¬ mo ≤ cnt L L[i] L.length ∨ ¬ B < L[i]), BestQ ck mo l.length L (i + 1) B) := by
        show ∀ (hc : ck = false ∨ ¬ mo ≤ cnt L L[i] L.length ∨ ¬ B < L[i]), BestQ ck mo l.length L (i + 1) B
        intro hc
        refine ⟨hQ.out.1, fun e => (hQ.out.2 e).stay hlt ?_⟩
        rcases hc with hc | hc
        · rw [hc] at e; simp at e
        · exact hc
      obtain ⟨v, hv⟩ : ∃ v, v = L[i] := ⟨_, rfl⟩
      rw [← hv] at ci0 HUP HST
      have HV : Hid _ := hv
      clear hv hQ
      obtain ⟨wy, hwy⟩ : ∃ wy, wy = wr := ⟨_, rfl⟩
      have HWY : Hid _ := hwy
      clear hwy
      go_wp2
      go_loopw [7, 8] (fun s7 s8 wx => ∃ k : Nat, s8 = .int .i64 (k : Int) ∧ k ≤ L.length ∧ s7 = .int .i64 (cnt L v k : Int) ∧ Below w.heap.size w wx) (fun _ s8 _ => L.length - (intOf s8).toNat)
      case atStart => exact ⟨0, rfl, Nat.zero_le _, rfl, hbr⟩
      case round =>
        clear hbr ci0
        obtain ⟨k, rfl, hkl, rfl, hbx⟩ := hrel
        by_cases hltk : k < L.length
        · have hk1 : (k : Int) < (ms.length : Int) := by omega
          have hk2 : (k : Int) < (l.length : Int) := by omega
          have hk3 : k < ms.length := by omega
          have ck0 := cell_below hbx (hr k hk3)
          rw [Hg k hltk hk3] at ck0
          have ci0 := cell_below hbx (hr i hi3)
          rw [Hg i hlt hi3, ← HV.out] at ci0
          have HT : Hid _ := cnt_succ (v := v) hltk
          have hcl := cnt_le L v k
          obtain ⟨n, hnn⟩ : ∃ n, n = cnt L v k := ⟨_, rfl⟩
          rw [← hnn] at hcl HT ⊢
          have hnb : n < 9223372036854775807 := by omega
          obtain ⟨u, hu⟩ : ∃ u, u = L[k] := ⟨_, rfl⟩
          rw [← hu] at ck0 HT
          clear hnn hu hcl
          have hbx2 := fun n => bel_drewN hbx n
          by_cases e : v ≤ u
          · have e' : (v : Int) ≤ (u : Int) := by omega
            have HT2 : Hid (cnt L v (k + 1) = n + 1) := by
              show _ = _
              rw [HT.out, if_pos e]
            clear HT e
            go_wp2
            go_quiet (fail)
            go_wp2
            go_roundw
            case rel => exact ⟨k + 1, by go_num, by omega, by rw [HT2.out]; go_num, hbx2 _⟩
            case measure => simp [intOf]; omega
          · have e' : ¬ (v : Int) ≤ (u : Int) := by omega
            have HT2 : Hid (cnt L v (k + 1) = n) := by
              show _ = _
              rw [HT.out, if_neg e]
              rfl
            clear HT e
            go_wp2
            go_quiet (fail)
            go_wp2
            go_roundw
            case rel => exact ⟨k + 1, by go_num, by omega, by rw [HT2.out], hbx2 _⟩
            case measure => simp [intOf]; omega
        · obtain rfl : k = L.length := by omega
          have hend : ((L.length : Int) < (ms.length : Int) ∧ ¬ (L.length : Int) < (l.length : Int)) ∨ ¬ (L.length : Int) < (ms.length : Int) := by
            have := HLl.out
            omega
          have ci0 := cell_below hbx (hr i hi3)
          rw [Hg i hlt hi3, ← HV.out] at ci0
          have hI := h.below hbx
          have hR1 := hR wr hI
          obtain ⟨n, hnn⟩ : ∃ n, n = cnt L v L.length := ⟨_, rfl⟩
          rw [← hnn] at HUP HST ⊢
          clear hnn hr hI hR hltk hkl
          rcases hend with ⟨d1, d2⟩ | d1
          all_goals cases ck with
            | false =>
              have HS : Hid (BestQ false mo l.length L (i + 1) B) := HST.out (.inl rfl)
              clear HUP HST
              go_wp2_with fail
              refine hR1.mono ?_
              rintro e w1 ⟨rfl, hb1⟩
              have hB1 := below2 hbx hb1
              go_wp2
              go_roundw
              case rel => exact ⟨i + 1, B, by go_num, by omega, rfl, HS, hB1⟩
              case measure => simp [intOf]; omega
            | true =>
              by_cases hc : mo ≤ n
              · have hc' : (mo : Int) ≤ (n : Int) := by omega
                by_cases hb : B < v
                · have hb' : (B : Int) < (v : Int) := by omega
                  have HS : Hid (BestQ true mo l.length L (i + 1) v) := by
                    rcases HUP.out hc hb with h1 | h1
                    · exact h1
                    · simp at h1
                  clear HUP HST hc hb
                  go_wp2_with fail
                  refine hR1.mono ?_
                  rintro e w1 ⟨rfl, hb1⟩
                  have hB1 := below2 hbx hb1
                  have ci1 := cell_below hb1 ci0
                  go_wp2_with fail
                  refine (hM w1).mono ?_
                  rintro e w2 ⟨rfl, rfl⟩
                  go_wp2
                  go_roundw
                  case rel => exact ⟨i + 1, v, by go_num, by omega, rfl, HS, hB1⟩
                  case measure => simp [intOf]; omega
                · have hb' : ¬ (B : Int) < (v : Int) := by omega
                  have HS : Hid (BestQ true mo l.length L (i + 1) B) := HST.out (.inr (.inr hb))
                  clear HUP HST hc hb
                  go_wp2_with fail
                  refine hR1.mono ?_
                  rintro e w1 ⟨rfl, hb1⟩
                  have hB1 := below2 hbx hb1
                  have ci1 := cell_below hb1 ci0
                  go_wp2_with fail
                  refine (hM w1).mono ?_
                  rintro e w2 ⟨rfl, rfl⟩
                  go_wp2
                  go_roundw
                  case rel => exact ⟨i + 1, B, by go_num, by omega, rfl, HS, hB1⟩
                  case measure => simp [intOf]; omega
              · have hc' : ¬ (mo : Int) ≤ (n : Int) := by omega
                have HS : Hid (BestQ true mo l.length L (i + 1) B) := HST.out (.inr (.inl hc))
                clear HUP HST hc
                go_wp2_with fail
                refine hR1.mono ?_
                rintro e w1 ⟨rfl, hb1⟩
                have hB1 := below2 hbx hb1
                have ci1 := cell_below hb1 ci0
                go_wp2_with fail
                refine (hM w1).mono ?_
                rintro e w2 ⟨rfl, rfl⟩
                go_wp2
                go_roundw
                case rel => exact ⟨i + 1, B, by go_num, by omega, rfl, HS, hB1⟩
                case measure => simp [intOf]; omega
    · obtain rfl : i = L.length := by omega
      have hend : ((L.length : Int) < (ms.length : Int) ∧ ¬ (L.length : Int) < (l.length : Int)) ∨ ¬ (L.length : Int) < (ms.length : Int) := by
        have := HLl.out
        omega
      have HE : Hid ((ck = false → B = 0) ∧ (ck = true → IsCom mo (pad l.length ms) B)) := by
        refine ⟨hQ.out.1, fun e => ?_⟩
        have h1 := hQ.out.2 e
        rw [HL.out] at h1
        have h2 := HMO.out e
        exact h1.end_ h2.1 h2.2
      clear hQ
      rcases hend with ⟨d1, d2⟩ | d1
      all_goals (go_wp2; go_ret; exact ⟨⟨B, rfl, HE.out⟩, hbr⟩)

end Go.Proofs.Ytdoiknfpgmglaaa
