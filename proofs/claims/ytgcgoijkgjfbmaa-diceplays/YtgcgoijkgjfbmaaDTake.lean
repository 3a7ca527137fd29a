/-
  The contract of dice's take: size bytes of the front, as a number; and of Next.
-/
import Derived.Test.YtgcgoijkgjfbmaaDFn
import Derived.BigQuiet
import Derived.Deep.RegionHeld3
namespace Go.Proofs.Ytgcgoijkgjfbmaa
open Go.RowKit Go.BigFrame

/-- Bytes as a number, the first one the highest, behind v. -/
def tk : Nat → Nat → List UInt8 → Nat
  | 0, v, _ => v
  | _ + 1, v, [] => v
  | k + 1, v, b :: l => tk k (v * 256 + b.toNat) l

theorem grown_drew {a b : World} {g : Nat} (h : a.grownBy b (some g)) : a.grownBy b.drew (some g) := ⟨h.os, h.tape, h.output, h.size, h.block⟩
/-- A scope in which the run jumps back to one label, entered at that label. -/
theorem wp_scope_label {P : Program} {a : Act} {w : World} {Q : Exit → Act → World → Prop} {c rest : Code} (l : Nat) (J : Act → World → Prop) (m : Act → World → Nat) (hf : findLabel c l = some (Code.skip.seq rest))
    (first : (∀ a w, J a w → rest.wp P (Exit.jump l J Q) a w) → c.wp P (Exit.jump l J Q) a w)
    (pass : ∀ a w, J a w → rest.wp P (Exit.jump l (fun a' w' => J a' w' ∧ m a' w' < m a w) Q) a w) : (Code.scope c).wp P Q a w := by
  refine wp_scope_jumps l J m hf (first fun a w h => wp_mono (pass a w h) ?_) (fun a w h => wp_seq (wp_skip (pass a w h)))
  intro e a w hq
  cases e with
  | goto l' => exact ⟨hq.1, hq.2.1⟩
  | normal => exact hq
  | exit id => exact hq
  | ret => exact hq
  | panic ch => exact hq
  | outgrown => exact hq

set_option maxHeartbeats 2000000 in
set_option maxRecDepth 100000 in
theorem take_few (g B C k : Nat) (l : List UInt8) (w : World) (h : Dc w B C g l) (hk : l.length < k) :
    Calls Try.prog 21 #[.pointer (some ⟨g, 0, none⟩), .int .i64 (k : Int)] w fun e w' => e = .returned (.int .i64 0) ∧ Dc w' B C g [] ∧ w.grownBy w' (some g) := by
  obtain ⟨h1, h2, h3, q, cap, b, off, h4, h5, h6, h7⟩ := h
  have c0 : w.cell? ⟨g, 0, none⟩ = some (.slice q l.length cap) := (cells_block h4).1 0
  have f0 := (cells_block h4).2 0
  have hset := block_set h4 0 (.slice none 0 0)
  clear h4 h7
  go_enter Try.func21, Try.ntmps21
  go_wp2
  refine wp_scope_label 0 (fun _ _ => False) (fun _ _ => 0) rfl ?_ ?_
  · intro hp
    go_wp2
    simp only [Exit.jump]
    go_ret
    exact ⟨rfl, ⟨h1, h2, by simpa using h3, none, 0, 0, 0, hset, by simp, by decide, fun h => absurd h (by simp)⟩, grown_setCell _ _ _ _⟩
  · intro a w h
    exact absurd h id

set_option maxHeartbeats 2000000 in
set_option maxRecDepth 100000 in
theorem take_some (g B C k : Nat) (l : List UInt8) (w : World) (h : Dc w B C g l) (hk : k ≤ l.length) (hk2 : k ≤ 2) :
    Calls Try.prog 21 #[.pointer (some ⟨g, 0, none⟩), .int .i64 (k : Int)] w fun e w' => e = .returned (.int .i64 (tk k 0 l : Int)) ∧ Dc w' B C g (l.drop k) ∧ w.grownBy w' (some g) := by
  have h0 := h
  obtain ⟨h1, h2, h3, q, cap, b, off, h4, h5, h6, h7⟩ := h
  have c0 : w.cell? ⟨g, 0, none⟩ = some (.slice q l.length cap) := (cells_block h4).1 0
  clear h4 h7
  go_enter Try.func21, Try.ntmps21
  go_wp2
  refine wp_scope_label 0 (fun a' w' => ∃ (j v : Nat) (r : List UInt8) (u6 u7 u8 u9 u10 u11 u12 u13 u14 u15 u16 u17 u18 u19 u20 u21 u22 u23 u24 u25 u26 u27 u28 u29 u30 u31 u32 u33 u34 u35 u36 u37 u38 u39 u40 u41 u42 u43 u44 u45 u46 u47 u48 : Value), a' = { tmps := #[.pointer (some ⟨g, 0, none⟩), .int .i64 (j : Int), undef, undef, .int .i64 0, .int .i64 (v : Int), u6, u7, u8, u9, u10, u11, u12, u13, u14, u15, u16, u17, u18, u19, u20, u21, u22, u23, u24, u25, u26, u27, u28, u29, u30, u31, u32, u33, u34, u35, u36, u37, u38, u39, u40, u41, u42, u43, u44, u45, u46, u47, u48], defers := [] } ∧ (j ≤ r.length ∧ tk j v r = tk k 0 l ∧ r.drop j = l.drop k ∧ j ≤ 2 ∧ (j = 2 → v = 0) ∧ (j = 1 → v < 256) ∧ v < 65536) ∧ Dc w' B C g r ∧ w.grownBy w' (some g)) (fun a' _ => (intOf (a'.tmps.getD 1 undef)).toNat) rfl ?_ ?_
  · intro hp
    go_wp2
    go_step3
    rename_i Q1 Q2 K hK
    exact hK _ _ (hp _ _ ⟨k, 0, l, _, _, _, _, _, _, _, _, _, _, _, _, _, _, _, _, _, _, _, _, _, _, _, _, _, _, _, _, _, _, _, _, _, _, _, _, _, _, _, _, _, _, _, rfl, ⟨hk, rfl, rfl, hk2, fun _ => rfl, fun _ => by omega, by omega⟩, h0, grown_refl _ _⟩)
  · rintro a' wr ⟨j, v, r, u6, u7, u8, u9, u10, u11, u12, u13, u14, u15, u16, u17, u18, u19, u20, u21, u22, u23, u24, u25, u26, u27, u28, u29, u30, u31, u32, u33, u34, u35, u36, u37, u38, u39, u40, u41, u42, u43, u44, u45, u46, u47, u48, rfl, ⟨hjr, htk, hdr, hj2, hv2, hv1, hv⟩, hd, hgr⟩
    have HT : Hid _ := htk
    have HD : Hid _ := hdr
    clear htk hdr c0 h0
    cases j with
    | zero =>
      go_wp2
      simp only [Exit.jump]
      go_ret
      refine ⟨?_, ?_, hgr⟩
      · rw [← HT.out]; rfl
      · rw [← HD.out]; exact hd
    | succ j =>
      obtain ⟨d1, d2, d3, q', cap', b', off', d4, d5, d6, d7⟩ := hd
      obtain ⟨rfl, e2, e3, e4, e5⟩ := d7 (by omega)
      cases r with
      | nil => simp at hjr
      | cons x r =>
        obtain ⟨n, hn⟩ : ∃ n, n = r.length + 1 := ⟨_, rfl⟩
        have c0 : wr.cell? ⟨g, 0, none⟩ = some (.slice (some ⟨b', off', none⟩) n cap') := by rw [hn]; exact (cells_block d4).1 0
        have f0 := (cells_block d4).2 0
        have c1 : wr.cell? ⟨b', off', none⟩ = some (.int .u8 (x.toNat : Int)) := e5 0 (by simp)
        have hx := x.toNat_lt
        have hnc : n ≤ cap' := by rw [hn]; exact d5
        have hnm : n ≤ 9223372036854775807 := by unfold maxLen at d6; omega
        have hn1 : 1 ≤ n := by omega
        obtain ⟨qn, hqn⟩ : ∃ qn, qn = (if n = 1 then some (⟨b', off', none⟩ : Addr) else some ⟨b', off' + 1, none⟩) := ⟨_, rfl⟩
        have hset := block_set d4 0 (.slice qn (n - 1) (n - 1))
        have hdn : Dc (wr.setCell ⟨g, 0, none⟩ (.slice qn (n - 1) (n - 1))) B C g r := by
          have hl : n - 1 = r.length := by omega
          refine ⟨d1, d2, by simpa using d3, qn, n - 1, b', off' + 1, ?_, by omega, by unfold maxLen at *; omega, fun h0 => ⟨?_, e2, e3, e4, ?_⟩⟩
          · rw [hset, hl]; rfl
          · rw [hqn, if_neg (by omega)]
          · have := (e5.drop 1).block (w' := wr.setCell ⟨g, 0, none⟩ (.slice qn (n - 1) (n - 1))) (Below.heap_setCell _ _ _ _ (fun e => e4 (by rw [e])))
            exact this
        have HDN : Hid _ := hdn
        have hgn : w.grownBy (wr.setCell ⟨g, 0, none⟩ (.slice qn (n - 1) (n - 1))) (some g) := grown_trans hgr (grown_setCell _ _ _ _)
        have HG : Hid _ := hgn
        have HN : Hid _ := hn
        clear d4 d7 hset hdn hgn e5 hgr hn
        have hI1 : (1 : Int) ≤ (n : Int) := by omega
        have hI2 : (n : Int) ≤ (cap' : Int) := by omega
        have hI0 : (0 : Int) ≤ (n : Int) := by omega
        by_cases h1n : n = 1
        · rw [if_pos h1n] at hqn
          subst hqn
          subst h1n
          go_wp2_with fail
          go_region
          all_goals
            clear c0 c1 f0
            go_wp2
            go_step3
            rw [show ((v : Int) * 256 + (x.toNat : Int)) = ((v * 256 + x.toNat : Nat) : Int) from by omega]
            refine ⟨rfl, ⟨j, v * 256 + x.toNat, r, _, _, _, _, _, _, _, _, _, _, _, _, _, _, _, _, _, _, _, _, _, _, _, _, _, _, _, _, _, _, _, _, _, _, _, _, _, _, _, _, _, _, _, rfl, ⟨by simp at hjr; omega, HT.out, HD.out, by omega, fun h => by omega, fun h => by have := hv2 (by omega); omega, ?_⟩, HDN.out, grown_drew HG.out⟩, ?_⟩
            · rcases (show j = 0 ∨ j = 1 by omega) with rfl | rfl
              · have := hv1 rfl
                omega
              · have := hv2 rfl
                omega
            · simp [intOf]
        · rw [if_neg h1n] at hqn
          subst hqn
          go_wp2_with fail
          go_region
          all_goals
            clear c0 c1 f0
            go_wp2
            go_step3
            rw [show ((v : Int) * 256 + (x.toNat : Int)) = ((v * 256 + x.toNat : Nat) : Int) from by omega]
            refine ⟨rfl, ⟨j, v * 256 + x.toNat, r, _, _, _, _, _, _, _, _, _, _, _, _, _, _, _, _, _, _, _, _, _, _, _, _, _, _, _, _, _, _, _, _, _, _, _, _, _, _, _, _, _, _, _, rfl, ⟨by simp at hjr; omega, HT.out, HD.out, by omega, fun h => by omega, fun h => by have := hv2 (by omega); omega, ?_⟩, HDN.out, grown_drew HG.out⟩, ?_⟩
            · rcases (show j = 0 ∨ j = 1 by omega) with rfl | rfl
              · have := hv1 rfl
                omega
              · have := hv2 rfl
                omega
            · simp [intOf]

end Go.Proofs.Ytgcgoijkgjfbmaa
