/-
  The contract of a walk's own iterator: all that it has yet to tell, one by one, whatever is done meanwhile.
-/
import Derived.Test.YtijfmgpipnhkkaaSRng
namespace Go.Proofs.Ytijfmgpipnhkkaa
open Go.RowKit
attribute [local go_sem] Oper.semAt_some
attribute [local go_sem] size_bstr toList_bstr ls_def

/-- What is kept by whom ranges over a walk: it does not mind the walk's own steps. -/
def Abd (J : List Tw → (Nat → Prop) → Nat → World → Prop) : Prop := ∀ T F F' j W W', J T F j W → Kp W W' F → (∀ i, F' i → F i ∨ W.heap.size ≤ i) → J T F' j W'

theorem next_none (l hd k : Nat) (T : List Tw) (F : Nat → Prop) (R : List Cl) (w : World) (h : Stt l hd k T F R w) (hR : R = []) :
    Calls Try.prog 47 #[.pointer (some ⟨k, 0, none⟩)] w fun e w' => e = .returned (.tuple #[clV zC, .bool false]) ∧ Kp w w' F ∧ Stt l hd k T F [] w' := by
  refine (next_any l hd k T F R w h).mono ?_
  rintro e w' ⟨hK, ⟨_, rfl, hS⟩ | ⟨c, R', e2, _⟩⟩
  · exact ⟨rfl, hK, hS⟩
  · rw [hR] at e2; cases e2
theorem next_some (l hd k : Nat) (T : List Tw) (F : Nat → Prop) (R : List Cl) (w : World) (h : Stt l hd k T F R w) {c : Cl} {R' : List Cl} (hR : R = c :: R') :
    Calls Try.prog 47 #[.pointer (some ⟨k, 0, none⟩)] w fun e w' => e = .returned (.tuple #[clV c, .bool true]) ∧ mayCl c = true ∧ Kp w w' F ∧ Stt l hd k T F R' w' := by
  refine (next_any l hd k T F R w h).mono ?_
  rintro e w' ⟨hK, ⟨e2, _⟩ | ⟨c2, R2, e2, hm, rfl, hS⟩⟩
  · rw [hR] at e2; cases e2
  · rw [hR] at e2; cases e2
    exact ⟨rfl, hm, hK, hS⟩

set_option maxHeartbeats 4000000 in
set_option maxRecDepth 100000 in
theorem cells_any (l hd k lr : Nat) (J : List Tw → (Nat → Prop) → Nat → World → Prop) (Jx : List Tw → (Nat → Prop) → World → Prop) (L : List Cl) (T0 : List Tw) (F0 : Nat → Prop) (w : World) (hab : Abd J)
    (hY : ∀ m T F j c W, L[j]? = some c → mayCl c = true → Stt l hd k T F (L.drop (j + 1)) W → J T F j W → YieldAt Fence.wide m Try.prog lr #[clV c] W fun e W' =>
      (e = .returned (.bool true) ∧ ∃ T' F', Stt l hd k T' F' (L.drop (j + 1)) W' ∧ J T' F' (j + 1) W') ∨ (e = .returned (.bool false) ∧ ∃ T' F' R', Stt l hd k T' F' R' W' ∧ Jx T' F' W'))
    (hS : Stt l hd k T0 F0 L w) (hJ : J T0 F0 0 w) :
    Calls Try.prog 40 #[.pointer (some ⟨k, 0, none⟩), .func (.yield lr) #[] #[]] w fun e W => (∃ u, e = .returned u) ∧
      ((∃ T F, Stt l hd k T F [] W ∧ J T F L.length W) ∨ (∃ T F R, Stt l hd k T F R W ∧ Jx T F W)) := by
  refine calls_in Try.func40 rfl ?_
  simp only [Try.ntmps40, List.size_toArray, List.length_cons, List.length_nil, Nat.reduceAdd, Nat.reduceSub, Array.replicate_succ, Array.replicate_zero, List.push_toArray, List.append_toArray, List.nil_append, List.cons_append]
  gi_wp2
  refine wpIn_loop_n (fun m a wr => ∃ (T : List Tw) (F : Nat → Prop) (j : Nat) (u2 u3 u4 u5 u6 u7 u8 u9 u10 u11 u12 u13 u14 u15 u16 u17 u18 : Value), a = { tmps := #[.pointer (some ⟨k, 0, none⟩), .func (.yield lr) #[] #[], u2, u3, u4, u5, u6, u7, u8, u9, u10, u11, u12, u13, u14, u15, u16, u17, u18], defers := [] } ∧ j + m = L.length ∧ Stt l hd k T F (L.drop j) wr ∧ J T F j wr) L.length ?start ?round
  case start => exact ⟨T0, F0, 0, _, _, _, _, _, _, _, _, _, _, _, _, _, _, _, _, _, rfl, by omega, hS, hJ⟩
  case round =>
    clear hS hJ
    rintro m a wr ⟨T, F, j, u2, u3, u4, u5, u6, u7, u8, u9, u10, u11, u12, u13, u14, u15, u16, u17, u18, rfl, hjm, hS, hJ⟩
    cases m with
    | zero =>
      have hn := next_none l hd k T F (L.drop j) wr hS (by rw [List.drop_eq_nil_of_le (by omega)])
      gi_wp2_with (refine ⟨trivial, ?_⟩; gi_at_call 47; refine (callsIn_wide.2 hn).mono ?_; rintro e w1 ⟨rfl, hK1, hS1⟩)
      refine ⟨fun _ h => (by cases h), ?_⟩
      gi_wp2
      refine bodyPost_ret (results_none rfl _ _ _) rfl ?_
      have hb : Below w1.heap.size w1 (w1.alloc (.cells #[.string (bstr []), .string (bstr []), .int .u64 0, .bool false, .string (bstr [])] 34)) := (Below.refl _ _).alloc (Nat.le_refl _) _
      have hjl : j = L.length := by omega
      subst hjl
      exact ⟨⟨_, rfl⟩, Or.inl ⟨T, F, hS1.below hb, hab _ _ _ _ _ _ hJ (hK1.trans (Kp.of_below (fun _ => False) hb) (fun _ h => h.elim)) (fun i hi => Or.inl hi)⟩⟩
    | succ m =>
      have hlt : j < L.length := by omega
      have hc : L[j]? = some L[j] := List.getElem?_eq_getElem hlt
      have hn := next_some l hd k T F (L.drop j) wr hS (List.drop_eq_getElem_cons hlt)
      generalize L[j] = c at *
      have hy := fun m T F W => hY m T F j c W hc
      gi_wp2_with (refine ⟨trivial, ?_⟩; gi_at_call 47; refine (callsIn_wide.2 hn).mono ?_; rintro e w1 ⟨rfl, hm, hK1, hS1⟩)
      have hb : Below w1.heap.size w1 (w1.alloc (.cells #[.string (bstr c.row), .string (bstr c.col), .int .u64 c.ver, .bool c.gone, .string (bstr c.val)] 34)) := (Below.refl _ _).alloc (Nat.le_refl _) _
      obtain ⟨fn, tmps, assign, body, hyr, hR⟩ := hy (3 - 1) T F _ hm (hS1.below hb) (hab _ _ _ _ _ _ hJ (hK1.trans (Kp.of_below (fun _ => False) hb) (fun _ h => h.elim)) (fun i hi => Or.inl hi))
      dsimp only [clV] at hyr
      clear hy hn hJ hS hK1 hS1
      generalize w1.alloc (.cells #[.string (bstr c.row), .string (bstr c.col), .int .u64 c.ver, .bool c.gone, .string (bstr c.val)] 34) = w2 at *
      rw [hyr]
      gi_wp2
      refine hR.mono ?_
      rintro e w3 (⟨rfl, T', F', hS3, hJ3⟩ | ⟨rfl, T', F', R', hS3, hJ3⟩)
      · gi_wp2
        exact ⟨m, rfl, T', F', j + 1, _, _, _, _, _, _, _, _, _, _, _, _, _, _, _, _, _, rfl, by omega, hS3, hJ3⟩
      · gi_wp2
        refine bodyPost_ret (results_none rfl _ _ _) rfl ?_
        exact ⟨⟨_, rfl⟩, Or.inr ⟨T', F', R', hS3, hJ3⟩⟩

end Go.Proofs.Ytijfmgpipnhkkaa
