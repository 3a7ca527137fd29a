/-
  The contract of the document's own Gap.
-/
import Derived.Test.YtphoimimifepcaaKGap
namespace Go.Proofs.Ytphoimimifepcaa
open Go.RowKit Go.BigFrame
attribute [local go_sem] size_bstr toList_bstr ls_def

/-- Where the result lies. -/
structure ResAt (w W : World) : Prop where
  r0 : W.cell? ⟨w.heap.size, 0, none⟩ = some (.string ⟨#[]⟩)
  r1 : W.cell? ⟨w.heap.size, 1, none⟩ = some (.string ⟨#[]⟩)
  f0 : W.frozen? ⟨w.heap.size, 0, none⟩ = false
  f1 : W.frozen? ⟨w.heap.size, 1, none⟩ = false
  below : Below w.heap.size w W
theorem ResAt.lt {w W : World} (h : ResAt w W) : w.heap.size < W.heap.size := block_lt_of_cell h.r0
theorem ResAt.step {w W W' : World} (h : ResAt w W) (hb : Below W.heap.size W W') : ResAt w W' := by
  obtain ⟨cb, fb⟩ := bcell hb
  have hl := h.lt
  exact ⟨by rw [cb _ _ hl]; exact h.r0, by rw [cb _ _ hl]; exact h.r1, by rw [fb _ _ hl]; exact h.f0, by rw [fb _ _ hl]; exact h.f1, below2 h.below hb⟩
theorem ResAt.start (w : World) (t : TypeId) : ResAt w (w.alloc (.cells #[.string ⟨#[]⟩, .string ⟨#[]⟩] t)) := by
  refine ⟨?_, ?_, ?_, ?_, (Below.refl _ _).alloc (Nat.le_refl _) _⟩ <;> go_simp

/-- The range that is being worked out. -/
structure OutAt (W : World) (n : Nat) (lo hi : List UInt8) : Prop where
  lo : W.cell? ⟨n, 0, none⟩ = some (.string (bstr lo))
  hi : W.cell? ⟨n, 1, none⟩ = some (.string (bstr hi))
  fz : W.frozen? ⟨n, 1, none⟩ = false
theorem OutAt.lt {W : World} {n : Nat} {lo hi : List UInt8} (h : OutAt W n lo hi) : n < W.heap.size := block_lt_of_cell h.lo
theorem OutAt.step {W W' : World} {n : Nat} {lo hi : List UInt8} (h : OutAt W n lo hi) (hb : Below W.heap.size W W') : OutAt W' n lo hi := by
  obtain ⟨cb, fb⟩ := bcell hb
  have hl := h.lt
  exact ⟨by rw [cb _ _ hl]; exact h.lo, by rw [cb _ _ hl]; exact h.hi, by rw [fb _ _ hl]; exact h.fz⟩
theorem OutAt.start (W : World) (t : TypeId) (lo : List UInt8) : OutAt (W.alloc (.cells #[.string (bstr lo), .string ⟨#[]⟩] t)) W.heap.size lo [] := by
  refine ⟨?_, ?_, ?_⟩
  · go_simp
  · rw [World.cell?_alloc_at _ t W.heap.size 1 rfl]; rfl
  · go_simp
theorem OutAt.set {W : World} {n : Nat} {lo hi : List UInt8} (h : OutAt W n lo hi) (x : List UInt8) : OutAt (W.setCell ⟨n, 1, none⟩ (.string (bstr x))) n lo x := by
  obtain ⟨h0, h1, h2⟩ := h
  refine ⟨?_, ?_, ?_⟩
  · go_simp
  · exact World.cell?_setCell_same' W _ _ (by rw [h1]; rfl)
  · simpa using h2
theorem ResAt.set {w W : World} {n : Nat} {lo hi : List UInt8} (h : ResAt w W) (_ : OutAt W n lo hi) (v : Value) (hn : w.heap.size < n) : ResAt w (W.setCell ⟨n, 1, none⟩ v) := by
  have hb : Below n W (W.setCell ⟨n, 1, none⟩ v) := (Below.refl _ _).setCell (p := ⟨n, 1, none⟩) (Nat.le_refl _) v
  obtain ⟨cb, fb⟩ := bcell hb
  exact ⟨by rw [cb _ _ hn]; exact h.r0, by rw [cb _ _ hn]; exact h.r1, by rw [fb _ _ hn]; exact h.f0, by rw [fb _ _ hn]; exact h.f1, h.below.trans (hb.mono (by omega))⟩

set_option maxHeartbeats 4000000 in
set_option maxRecDepth 100000 in
theorem RGap_any (q : Option Addr) (b off cap : Nat) (rs : List Rg) (w : World) (hq : 0 < rs.length → q = some ⟨b, off, none⟩ ∧ RowAt w b off rs ∧ b < w.heap.size) (hn : rs.length ≤ 1000000) :
    Calls Try.prog 23 #[.slice q rs.length cap] w fun e w' => ∃ o, e = .returned (gapV o) ∧ GapSpec rs o ∧ Below w.heap.size w w' := by
  have hR0 := ResAt.start w 23
  go_enter Try.func23, Try.ntmps23
  go_wp2
  go_loopw [4, 5] (fun s4 s5 wr => ∃ (k : Nat) (t : List UInt8), s5 = .int .i64 (k : Int) ∧ s4 = .string (bstr t) ∧ k ≤ rs.length + 1 ∧ Hid (Ahd rs t) ∧ Hid (Turn rs k t) ∧ ResAt w wr) (fun _ s5 _ => rs.length + 1 - (intOf s5).toNat)
  case atStart => exact ⟨0, [], rfl, rfl, by omega, Ahd.start rs, Turn.start rs, hR0⟩
  case round =>
    obtain ⟨k, t, rfl, rfl, hk, HA, HT, hr⟩ := hrel
    by_cases hkl : k ≤ rs.length
    · go_wp2
      go_loopw [4, 6] (fun s4 s6 wi => ∃ (i : Nat) (t : List UInt8), s6 = .int .i64 (i : Int) ∧ s4 = .string (bstr t) ∧ i ≤ rs.length ∧ Hid (Ahd rs t) ∧ Hid (Part rs k i t) ∧ ResAt w wi) (fun _ s6 _ => rs.length - (intOf s6).toNat)
      case atStart => exact ⟨0, t, rfl, rfl, by omega, HA, Part.start HT.out, hr⟩
      case round =>
        clear HA HT hr
        obtain ⟨i, t, rfl, rfl, hil, HA, HP, hr⟩ := hrel
        by_cases hlt : i < rs.length
        · obtain ⟨rfl, hR, hbl⟩ := hq (by omega)
          obtain ⟨c0, c1⟩ := hR.step hr.below hbl i hlt
          have hmc := RMay_any (rs[i]).1 (rs[i]).2
          have hhc := RHas_any (rs[i]).1 (rs[i]).2 t
          cases hm : mayB (rs[i]).1 (rs[i]).2 with
          | false =>
            have HS : Hid _ := HP.out.stay hlt (by rw [hm]; rfl)
            rw [hm] at hmc
            clear hm HP hhc
            generalize rs[i] = r at *
            obtain ⟨lo, hi⟩ := r
            simp only at c0 c1 hmc
            go_wp2_with fail
            refine (hmc _).mono ?_
            rintro e w1 ⟨rfl, hb1⟩
            have hr2 := hr.step hb1
            clear hr hb1 c0 c1 hmc
            go_wp2
            go_roundw
            case rel => exact ⟨i + 1, t, by go_num, rfl, by omega, HA, HS, hr2⟩
            case measure => simp [intOf]; omega
          | true =>
            rw [hm] at hmc
            cases hh : hasB (rs[i]).1 (rs[i]).2 t with
            | false =>
              have HS : Hid _ := HP.out.stay hlt (by rw [hm, hh]; rfl)
              rw [hh] at hhc
              clear hm hh HP
              generalize rs[i] = r at *
              obtain ⟨lo, hi⟩ := r
              simp only at c0 c1 hmc hhc
              go_wp2_with fail
              refine (hmc _).mono ?_
              rintro e w1 ⟨rfl, hb1⟩
              have hr2 := hr.step hb1
              replace c0 := seg_step hb1 c0
              replace c1 := seg_step hb1 c1
              clear hr hb1 hmc
              go_wp2_with fail
              refine (hhc _).mono ?_
              rintro e w2 ⟨rfl, hb2⟩
              have hr3 := hr2.step hb2
              clear hr2 hb2 hhc c0 c1
              go_wp2
              go_roundw
              case rel => exact ⟨i + 1, t, by go_num, rfl, by omega, HA, HS, hr3⟩
              case measure => simp [intOf]; omega
            | true =>
              rw [hh] at hhc
              by_cases hn2 : (rs[i]).2 = []
              · have HE : Hid _ := HA.out.none (List.getElem_mem hlt) hm hh hn2
                clear hm hh HP HA
                generalize rs[i] = r at *
                obtain ⟨lo, hi⟩ := r
                simp only at c0 c1 hmc hhc hn2
                subst hn2
                go_wp2_with fail
                refine (hmc _).mono ?_
                rintro e w1 ⟨rfl, hb1⟩
                have hr2 := hr.step hb1
                replace c0 := seg_step hb1 c0
                replace c1 := seg_step hb1 c1
                clear hr hb1 hmc
                go_wp2_with fail
                refine (hhc _).mono ?_
                rintro e w2 ⟨rfl, hb2⟩
                replace c0 := seg_step hb2 c0
                replace c1 := seg_step hb2 c1
                obtain ⟨r0, r1, f0, f1, hbe⟩ := hr2.step hb2
                clear hr2 hb2 hhc
                go_wp2
                generalize hW : (w2.setCell ⟨w.heap.size, 0, none⟩ _).setCell ⟨w.heap.size, 1, none⟩ _ = W'
                obtain ⟨q0, q1⟩ := set2r_reads r0 r1 hW
                refine bodyPost_ret (v := gapV none) (by rw [results_cell_tmp Try.results23]; simp [go_sem, q0, q1, gapV]; rfl) rfl ⟨none, rfl, HE.out, ?_⟩
                rw [← hW]
                exact below_set2r _ _ hbe (Nat.le_refl _)
              · have HS : Hid _ := HP.out.go hlt hm hh hn2
                have HA2 : Hid _ := HA.out.next (List.getElem_mem hlt) hm hh
                clear hm hh HP HA
                have k1 : ((rs[i]).2 == ([] : List UInt8)) = false := by simpa using hn2
                generalize rs[i] = r at *
                obtain ⟨lo, hi⟩ := r
                simp only at c0 c1 hmc hhc hn2 k1 HS HA2
                go_wp2_with fail
                refine (hmc _).mono ?_
                rintro e w1 ⟨rfl, hb1⟩
                have hr2 := hr.step hb1
                replace c0 := seg_step hb1 c0
                replace c1 := seg_step hb1 c1
                clear hr hb1 hmc
                go_wp2_with fail
                refine (hhc _).mono ?_
                rintro e w2 ⟨rfl, hb2⟩
                replace c0 := seg_step hb2 c0
                replace c1 := seg_step hb2 c1
                have hr3 := hr2.step hb2
                clear hr2 hb2 hhc
                go_wp2
                go_roundw
                case rel => exact ⟨i + 1, hi, by go_num, rfl, by omega, HA2, HS, hr3⟩
                case measure => simp [intOf]; omega
        · have hie : i = rs.length := by omega
          subst hie
          have HT : Hid _ := HP.out.last
          clear HP
          go_wp2
          go_roundw
          case rel => exact ⟨k + 1, t, by go_num, rfl, by omega, HA, HT, hr⟩
          case measure => simp [intOf]; omega
    · have hke : k = rs.length + 1 := by omega
      have HC : Hid (¬ cov rs t) := by
        have := HT.out
        rw [hke] at this
        exact this.last
      clear HT hke
      have hlr := hr.lt
      have ho0 : OutAt (wr.alloc (.cells #[.string (bstr t), .string ⟨#[]⟩] 23)) wr.heap.size t [] := OutAt.start wr _ t
      have hr0 := hr.step ((Below.refl _ _).alloc (Nat.le_refl _) (.cells #[.string (bstr t), .string ⟨#[]⟩] 23))
      clear hr hR0
      go_wp2
      generalize hno : wr.heap.size = no at *
      go_loopw [8] (fun s8 wi => ∃ (i : Nat) (h2 : List UInt8), s8 = .int .i64 (i : Int) ∧ i ≤ rs.length ∧ Hid (Low rs i t h2) ∧ ResAt w wi ∧ OutAt wi no t h2) (fun s8 _ => rs.length - (intOf s8).toNat)
      case atStart => exact ⟨0, [], rfl, by omega, Low.start rs t, hr0, ho0⟩
      case round =>
        clear hr0 ho0
        obtain ⟨i, h2, rfl, hil, HL, hr, ho⟩ := hrel
        by_cases hlt : i < rs.length
        · obtain ⟨rfl, hR, hbl⟩ := hq (by omega)
          obtain ⟨c0, c1⟩ := hR.step hr.below hbl i hlt
          have hmc := RMay_any (rs[i]).1 (rs[i]).2
          have hle := le_spelt (rs[i]).1 t
          cases hm : mayB (rs[i]).1 (rs[i]).2 with
          | false =>
            have HS : Hid _ := HL.out.stay hlt (by rw [hm]; rfl)
            rw [hm] at hmc
            clear hm hle
            clear HL
            generalize rs[i] = r at *
            obtain ⟨lo, hi⟩ := r
            simp only at c0 c1 hmc
            have q0 := fun d os => cell_regrown c0 d os
            have q1 := fun d os => cell_regrown c1 d os
            have q2 := fun d os => cell_regrown ho.hi d os
            go_wp2_with fail
            refine wp_region_quiet_below (by kernel_rfl) (by kernel_rfl) ?_
            repeat (go_big_quiet_step ((go_at_call 29; exact Calls.regrown_of (hmc _))))
            refine wpQuiet_nil ?_
            intro _ hw'
            obtain ⟨⟨dq, osq⟩, hw''⟩ := hw'
            subst hw''
            have hr2 := hr.step (below_regrown wr dq osq)
            have ho2 := ho.step (below_regrown wr dq osq)
            replace c0 := seg_step (below_regrown wr dq osq) c0
            generalize Sort.grow (redrawn wr dq) osq = W2 at *
            clear hr ho q0 q1 q2 hmc c1
            clear c0
            go_wp2
            go_roundw
            case rel => exact ⟨i + 1, h2, by go_num, by omega, HS, hr2, ho2⟩
            case measure => simp [intOf]; omega
          | true =>
            cases hl : ls t (rs[i]).1 with
            | false =>
              have HS : Hid _ := HL.out.stay hlt (by rw [hm, hl]; rfl)
              rw [hm] at hmc
              rw [hl] at hle
              clear hm hl
              clear HL
              generalize rs[i] = r at *
              obtain ⟨lo, hi⟩ := r
              simp only at c0 c1 hmc hle
              have q0 := fun d os => cell_regrown c0 d os
              have q1 := fun d os => cell_regrown c1 d os
              have q2 := fun d os => cell_regrown ho.hi d os
              go_wp2_with fail
              refine wp_region_quiet_below (by kernel_rfl) (by kernel_rfl) ?_
              repeat (go_big_quiet_step ((go_at_call 29; exact Calls.regrown_of (hmc _))))
              refine wpQuiet_nil ?_
              intro _ hw'
              obtain ⟨⟨dq, osq⟩, hw''⟩ := hw'
              subst hw''
              have hr2 := hr.step (below_regrown wr dq osq)
              have ho2 := ho.step (below_regrown wr dq osq)
              replace c0 := seg_step (below_regrown wr dq osq) c0
              generalize Sort.grow (redrawn wr dq) osq = W2 at *
              clear hr ho q0 q1 q2 hmc c1
              clear c0
              go_wp2
              go_roundw
              case rel => exact ⟨i + 1, h2, by go_num, by omega, HS, hr2, ho2⟩
              case measure => simp [intOf]; omega
            | true =>
              rw [hl] at hle
              by_cases hn2 : h2 = []
              · subst hn2
                have HS : Hid _ := HL.out.go hlt hm hl rfl
                rw [hm] at hmc
                clear hm hl
                clear HL
                generalize rs[i] = r at *
                obtain ⟨lo, hi⟩ := r
                simp only at c0 c1 hmc hle HS
                have q0 := fun d os => cell_regrown c0 d os
                have q1 := fun d os => cell_regrown c1 d os
                have q2 := fun d os => cell_regrown ho.hi d os
                go_wp2_with fail
                refine wp_region_quiet_below (by kernel_rfl) (by kernel_rfl) ?_
                repeat (go_big_quiet_step ((go_at_call 29; exact Calls.regrown_of (hmc _))))
                refine wpQuiet_nil ?_
                intro _ hw'
                obtain ⟨⟨dq, osq⟩, hw''⟩ := hw'
                subst hw''
                have hr2 := hr.step (below_regrown wr dq osq)
                have ho2 := ho.step (below_regrown wr dq osq)
                replace c0 := seg_step (below_regrown wr dq osq) c0
                generalize Sort.grow (redrawn wr dq) osq = W2 at *
                clear hr ho q0 q1 q2 hmc c1
                obtain ⟨o0, o1, of⟩ := id ho2
                have hr3 := hr2.set ho2 (.string (bstr lo)) hlr
                have ho3 := ho2.set lo
                clear hr2 ho2
                go_wp2
                go_roundw
                case rel => exact ⟨i + 1, lo, by go_num, by omega, HS, hr3, ho3⟩
                case measure => simp [intOf]; omega
              · have k1 : (h2 == ([] : List UInt8)) = false := by simpa using hn2
                cases hx : ls (rs[i]).1 h2 with
                | true =>
                  have HS : Hid _ := HL.out.go hlt hm hl (by rw [hx, Bool.or_true])
                  rw [hm] at hmc
                  clear hm hl
                  clear HL
                  generalize rs[i] = r at *
                  obtain ⟨lo, hi⟩ := r
                  simp only at c0 c1 hmc hle hx HS
                  have q0 := fun d os => cell_regrown c0 d os
                  have q1 := fun d os => cell_regrown c1 d os
                  have q2 := fun d os => cell_regrown ho.hi d os
                  go_wp2_with fail
                  refine wp_region_quiet_below (by kernel_rfl) (by kernel_rfl) ?_
                  repeat (go_big_quiet_step ((go_at_call 29; exact Calls.regrown_of (hmc _))))
                  refine wpQuiet_nil ?_
                  intro _ hw'
                  obtain ⟨⟨dq, osq⟩, hw''⟩ := hw'
                  subst hw''
                  have hr2 := hr.step (below_regrown wr dq osq)
                  have ho2 := ho.step (below_regrown wr dq osq)
                  replace c0 := seg_step (below_regrown wr dq osq) c0
                  generalize Sort.grow (redrawn wr dq) osq = W2 at *
                  clear hr ho q0 q1 q2 hmc c1
                  obtain ⟨o0, o1, of⟩ := id ho2
                  have hr3 := hr2.set ho2 (.string (bstr lo)) hlr
                  have ho3 := ho2.set lo
                  clear hr2 ho2
                  go_wp2
                  go_roundw
                  case rel => exact ⟨i + 1, lo, by go_num, by omega, HS, hr3, ho3⟩
                  case measure => simp [intOf]; omega
                | false =>
                  have HS : Hid _ := HL.out.stay hlt (by rw [hm, hl, hx, k1]; rfl)
                  rw [hm] at hmc
                  clear hm hl
                  clear HL
                  generalize rs[i] = r at *
                  obtain ⟨lo, hi⟩ := r
                  simp only at c0 c1 hmc hle hx
                  have q0 := fun d os => cell_regrown c0 d os
                  have q1 := fun d os => cell_regrown c1 d os
                  have q2 := fun d os => cell_regrown ho.hi d os
                  go_wp2_with fail
                  refine wp_region_quiet_below (by kernel_rfl) (by kernel_rfl) ?_
                  repeat (go_big_quiet_step ((go_at_call 29; exact Calls.regrown_of (hmc _))))
                  refine wpQuiet_nil ?_
                  intro _ hw'
                  obtain ⟨⟨dq, osq⟩, hw''⟩ := hw'
                  subst hw''
                  have hr2 := hr.step (below_regrown wr dq osq)
                  have ho2 := ho.step (below_regrown wr dq osq)
                  replace c0 := seg_step (below_regrown wr dq osq) c0
                  generalize Sort.grow (redrawn wr dq) osq = W2 at *
                  clear hr ho q0 q1 q2 hmc c1
                  clear c0
                  go_wp2
                  go_roundw
                  case rel => exact ⟨i + 1, h2, by go_num, by omega, HS, hr2, ho2⟩
                  case measure => simp [intOf]; omega
        · have hie : i = rs.length := by omega
          subst hie
          have HE : Hid _ := gap_of HA.out HC.out HL.out
          clear HA HC HL
          obtain ⟨o0, o1, of⟩ := id ho
          obtain ⟨r0, r1, f0, f1, hbe⟩ := id hr
          go_wp2
          generalize hW : (wr.setCell ⟨w.heap.size, 0, none⟩ _).setCell ⟨w.heap.size, 1, none⟩ _ = W'
          obtain ⟨q0, q1⟩ := set2r_reads r0 r1 hW
          refine bodyPost_ret (v := gapV (some (t, h2))) (by rw [results_cell_tmp Try.results23]; simp [go_sem, q0, q1, gapV]) rfl ⟨some (t, h2), rfl, HE.out, ?_⟩
          rw [← hW]
          exact below_set2r _ _ hbe (Nat.le_refl _)

end Go.Proofs.Ytphoimimifepcaa
