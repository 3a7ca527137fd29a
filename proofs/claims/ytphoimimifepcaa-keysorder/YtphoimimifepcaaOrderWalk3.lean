/-
  The walk of the law KeysOrder over this seat's translation: it returns true, and of what was there nothing has turned.
-/
import Derived.Test.YtphoimimifepcaaKCell
import Derived.Deep.CutBlock
namespace Go.Proofs.Ytphoimimifepcaa
open Go.RowKit Go.BigFrame
attribute [local go_sem] size_bstr toList_bstr ls_def

/-- Three comparisons that fit together. -/
def Tri (x y z : Int) : Prop := (x ≤ 0 → y ≤ 0 → z ≤ 0) ∧ (x < 0 → y ≤ 0 → z < 0) ∧ (x ≤ 0 → y < 0 → z < 0) ∧ (x ≥ 0 → y ≥ 0 → z ≥ 0) ∧ (x > 0 → y ≥ 0 → z > 0) ∧ (x ≥ 0 → y > 0 → z > 0) ∧ (x = 0 → y = z) ∧ (y = 0 → x = z)
theorem ct_tri (a b c : List UInt8) : Tri (ct a b) (ct b c) (ct a c) := by
  unfold Tri
  rcases ls_tri a b with h1 | rfl | h1
  · rcases ls_tri b c with h2 | rfl | h2
    · rw [ct_lt h1, ct_lt h2, ct_lt (ls_trans h1 h2)]; omega
    · rw [ct_lt h1, ct_self]; omega
    · rw [ct_lt h1, ct_gt h2]; omega
  · rw [ct_self]; omega
  · rcases ls_tri b c with h2 | rfl | h2
    · rw [ct_gt h1, ct_lt h2]; omega
    · rw [ct_gt h1, ct_self]; omega
    · rw [ct_gt h1, ct_gt h2, ct_gt (ls_trans h2 h1)]; omega
theorem ci_tri (a b c : Int) : Tri (Lib.compareInt b a) (Lib.compareInt c b) (Lib.compareInt c a) := by
  unfold Tri Lib.compareInt
  (repeat' split) <;> omega
theorem lex_tri {x y z a b c : Int} (h : Tri x y z) (k : Tri a b c) : Tri (if x = 0 then a else x) (if y = 0 then b else y) (if z = 0 then c else z) := by
  by_cases hx : x = 0
  · by_cases hy : y = 0
    · have hz : z = 0 := by have := h.2.2.2.2.2.2.1 hx; omega
      rw [if_pos hx, if_pos hy, if_pos hz]
      exact k
    · have hz : z = y := by have := h.2.2.2.2.2.2.1 hx; omega
      rw [if_pos hx, if_neg hy, if_neg (by omega), hz]
      clear h k hx hz
      unfold Tri
      omega
  · by_cases hy : y = 0
    · have hz : z = x := by have := h.2.2.2.2.2.2.2 hy; omega
      rw [if_neg hx, if_pos hy, if_neg (by omega), hz]
      clear h k hy hz
      unfold Tri
      omega
    · rw [if_neg hx, if_neg hy]
      obtain ⟨h1, h2, h3, h4, h5, h6, h7, h8⟩ := h
      by_cases hz : z = 0
      · rw [if_pos hz]
        clear k
        have o : (x < 0 ∧ 0 < y) ∨ (0 < x ∧ y < 0) := by
          rcases Int.lt_or_gt_of_ne hx with a | a <;> rcases Int.lt_or_gt_of_ne hy with b | b
          · have := h2 a (by omega); omega
          · exact Or.inl ⟨a, b⟩
          · exact Or.inr ⟨a, b⟩
          · have := h5 a (by omega); omega
        clear h1 h2 h3 h4 h5 h6 h7 h8
        unfold Tri
        omega
      · rw [if_neg hz]
        exact ⟨h1, h2, h3, h4, h5, h6, h7, h8⟩
theorem or3_tri {x y z x1 y1 z1 x2 y2 z2 : Int} (h : Tri x y z) (h1 : Tri x1 y1 z1) (h2 : Tri x2 y2 z2) : Tri (or3 x x1 x2) (or3 y y1 y2) (or3 z z1 z2) :=
  lex_tri h (lex_tri h1 h2)
theorem cc_tri (r c : List UInt8) (v : Int) (r1 c1 : List UInt8) (v1 : Int) (r2 c2 : List UInt8) (v2 : Int) : Tri (cc r c v r1 c1 v1) (cc r1 c1 v1 r2 c2 v2) (cc r c v r2 c2 v2) :=
  or3_tri (ct_tri r r1 r2) (ct_tri c c1 c2) (ci_tri v v1 v2)
theorem ct_dom (a b : List UInt8) : ct a b = -1 ∨ ct a b = 0 ∨ ct a b = 1 := by unfold ct; (repeat' split) <;> omega
theorem cc_dom (r c : List UInt8) (v : Int) (r' c' : List UInt8) (v' : Int) : cc r c v r' c' v' = -1 ∨ cc r c v r' c' v' = 0 ∨ cc r c v r' c' v' = 1 := by
  have h1 := ct_dom r r'
  have h2 := ct_dom c c'
  unfold cc or3 Lib.compareInt
  (repeat' split) <;> omega
theorem ci_zero (a b : Int) : Lib.compareInt a b = 0 ↔ b = a := by
  unfold Lib.compareInt
  (repeat' split) <;> omega
theorem cc_zero (r c : List UInt8) (v : Int) (r' c' : List UInt8) (v' : Int) : cc r c v r' c' v' = 0 ↔ r = r' ∧ c = c' ∧ v = v' := by
  rw [← ct_zero (a := r), ← ct_zero (a := c), ← ci_zero v' v]
  unfold cc or3
  (repeat' split) <;> simp_all
theorem cc_same (r c : List UInt8) (v v' : Int) : cc r c v r c v' = Lib.compareInt v' v := by
  unfold cc or3
  rw [ct_self, ct_self, if_pos rfl, if_pos rfl]
theorem cc_falls (r c : List UInt8) (v v' : Int) : (decide (cc r c v r c v' < 0) == decide (v' < v)) = true := by
  rw [cc_same]
  unfold Lib.compareInt
  by_cases h : v' < v
  · simp [h]
  · rw [if_neg h]
    split <;> simp [h]

/-- Two places that may be written. -/
structure FrzAt (W : World) (n : Nat) : Prop where
  lt : n < W.heap.size
  f0 : W.frozen? ⟨n, 0, none⟩ = false
  f1 : W.frozen? ⟨n, 1, none⟩ = false
theorem FrzAt.step {W W' : World} {n : Nat} (h : FrzAt W n) (hb : Below W.heap.size W W') : FrzAt W' n := by
  obtain ⟨_, fb⟩ := bcell hb
  exact ⟨Nat.lt_of_lt_of_le h.lt hb.size, by rw [fb _ _ h.lt]; exact h.f0, by rw [fb _ _ h.lt]; exact h.f1⟩
theorem cellAt_set {W : World} {n : Nat} {r c : List UInt8} {v : Int} {g : Bool} {x r1 c1 : List UInt8} {v1 : Int} {g1 : Bool} {x1 : List UInt8} (a b : List UInt8) (ra : CellAt W n r c v g x) (rb : CellAt W (n + 1) r1 c1 v1 g1 x1)
    {W' : World} (hW : (W.setCell ⟨n + 1, 0, none⟩ (.string (bstr a))).setCell ⟨n + 1, 1, none⟩ (.string (bstr b)) = W') :
    CellAt W' n r c v g x ∧ CellAt W' (n + 1) a b v1 g1 x1 := by
  subst hW
  obtain ⟨a0, a1, a2, a3, a4⟩ := ra
  obtain ⟨b0, b1, b2, b3, b4⟩ := rb
  have e : n + 1 ≠ n := by omega
  constructor
  · constructor <;> go_simp
  · constructor <;> go_simp

set_option maxHeartbeats 4000000 in
set_option maxRecDepth 100000 in
theorem order_walk (r c : List UInt8) (v : Int) (g : Bool) (x r1 c1 : List UInt8) (v1 : Int) (g1 : Bool) (x1 r2 c2 : List UInt8) (v2 : Int) (g2 : Bool) (x2 : List UInt8) (w : World) :
    Calls Try.prog 8 #[cellV r c v g x, cellV r1 c1 v1 g1 x1, cellV r2 c2 v2 g2 x2] w fun e w' => e = .returned (.bool true) ∧ Below w.heap.size w w' := by
  have hB : Below w.heap.size w (((w.alloc (.cells #[.string (bstr r), .string (bstr c), .int .u64 v, .bool g, .string (bstr x)] 39)).alloc (.cells #[.string (bstr r1), .string (bstr c1), .int .u64 v1, .bool g1, .string (bstr x1)] 39)).alloc (.cells #[.string (bstr r2), .string (bstr c2), .int .u64 v2, .bool g2, .string (bstr x2)] 39)) := (((Below.refl _ _).alloc (Nat.le_refl _) _).alloc (by simp) _).alloc (by simp; omega) _
  have c00 := Cmp_any r c v g x r c v g x
  rw [(cc_zero r c v r c v).2 ⟨rfl, rfl, rfl⟩] at c00
  go_enter Try.func8, Try.ntmps8
  go_wp2_with fail
  have ra := ((CellAt.new w 39 r c v g x).alloc (.cells #[.string (bstr r1), .string (bstr c1), .int .u64 v1, .bool g1, .string (bstr x1)] 39)).alloc (.cells #[.string (bstr r2), .string (bstr c2), .int .u64 v2, .bool g2, .string (bstr x2)] 39)
  have rb := (CellAt.new2 w (.cells #[.string (bstr r), .string (bstr c), .int .u64 v, .bool g, .string (bstr x)] 39) 39 r1 c1 v1 g1 x1).alloc (.cells #[.string (bstr r2), .string (bstr c2), .int .u64 v2, .bool g2, .string (bstr x2)] 39)
  have rc : CellAt (((w.alloc (.cells #[.string (bstr r), .string (bstr c), .int .u64 v, .bool g, .string (bstr x)] 39)).alloc (.cells #[.string (bstr r1), .string (bstr c1), .int .u64 v1, .bool g1, .string (bstr x1)] 39)).alloc (.cells #[.string (bstr r2), .string (bstr c2), .int .u64 v2, .bool g2, .string (bstr x2)] 39)) (w.heap.size + 1 + 1) r2 c2 v2 g2 x2 := by
    have := CellAt.new2 (w.alloc (.cells #[.string (bstr r), .string (bstr c), .int .u64 v, .bool g, .string (bstr x)] 39)) (.cells #[.string (bstr r1), .string (bstr c1), .int .u64 v1, .bool g1, .string (bstr x1)] 39) 39 r2 c2 v2 g2 x2
    rw [show (w.alloc (.cells #[.string (bstr r), .string (bstr c), .int .u64 v, .bool g, .string (bstr x)] 39)).heap.size = w.heap.size + 1 from by simp] at this
    exact this
  have hf : FrzAt (((w.alloc (.cells #[.string (bstr r), .string (bstr c), .int .u64 v, .bool g, .string (bstr x)] 39)).alloc (.cells #[.string (bstr r1), .string (bstr c1), .int .u64 v1, .bool g1, .string (bstr x1)] 39)).alloc (.cells #[.string (bstr r2), .string (bstr c2), .int .u64 v2, .bool g2, .string (bstr x2)] 39)) (w.heap.size + 1) := by constructor <;> go_simp
  generalize (((w.alloc (.cells #[.string (bstr r), .string (bstr c), .int .u64 v, .bool g, .string (bstr x)] 39)).alloc (.cells #[.string (bstr r1), .string (bstr c1), .int .u64 v1, .bool g1, .string (bstr x1)] 39)).alloc (.cells #[.string (bstr r2), .string (bstr c2), .int .u64 v2, .bool g2, .string (bstr x2)] 39)) = W at *
  have q0 := fun d os => cell_regrown ra.c0 d os
  have p0 := fun d os => cell_regrown rb.c0 d os
  have s0 := fun d os => cell_regrown rc.c0 d os
  have q1 := fun d os => cell_regrown ra.c1 d os
  have p1 := fun d os => cell_regrown rb.c1 d os
  have s1 := fun d os => cell_regrown rc.c1 d os
  have q2 := fun d os => cell_regrown ra.c2 d os
  have p2 := fun d os => cell_regrown rb.c2 d os
  have s2 := fun d os => cell_regrown rc.c2 d os
  have q3 := fun d os => cell_regrown ra.c3 d os
  have p3 := fun d os => cell_regrown rb.c3 d os
  have s3 := fun d os => cell_regrown rc.c3 d os
  have q4 := fun d os => cell_regrown ra.c4 d os
  have p4 := fun d os => cell_regrown rb.c4 d os
  have s4 := fun d os => cell_regrown rc.c4 d os
  refine wp_region_quiet_below (by kernel_rfl) (by kernel_rfl) ?_
  repeat (go_big_quiet_step ((go_at_call 24; exact Calls.regrown_of (Cmp_any _ _ _ _ _ _ _ _ _ _ _))))
  refine wpQuiet_nil ?_
  intro _ hw'
  obtain ⟨⟨dq, osq⟩, hw''⟩ := hw'
  subst hw''
  replace hB := below2 hB (below_regrown W dq osq)
  replace ra := ra.step (below_regrown W dq osq)
  replace rb := rb.step (below_regrown W dq osq)
  replace hf := hf.step (below_regrown W dq osq)
  clear q0 q1 q2 q3 q4 p0 p1 p2 p3 p4 s0 s1 s2 s3 s4 rc
  generalize Sort.grow (redrawn W dq) osq = W2 at *
  have hT := cc_tri r c v r1 c1 v1 r2 c2 v2
  have d1 := cc_dom r c v r1 c1 v1
  have d2 := cc_dom r1 c1 v1 r2 c2 v2
  have d3 := cc_dom r c v r2 c2 v2
  have hz := cc_zero r c v r1 c1 v1
  generalize cc r c v r1 c1 v1 = X at *
  generalize cc r1 c1 v1 r2 c2 v2 = Y at *
  generalize cc r c v r2 c2 v2 = Z at *
  have HZ : Hid _ := hz
  clear hz
  go_upto_region 2 with fail
  go_cut [55] from 19 (fun s55 wx => s55 = .bool false ∧ CellAt wx w.heap.size r c v g x ∧ CellAt wx (w.heap.size + 1) r1 c1 v1 g1 x1 ∧ FrzAt wx (w.heap.size + 1) ∧ Below w.heap.size w wx)
  case first =>
    clear HZ
    unfold Tri at hT
    obtain rfl | rfl | rfl := d1 <;> obtain rfl | rfl | rfl := d2 <;> obtain rfl | rfl | rfl := d3 <;> first
      | (exfalso; omega)
      | (clear hT
         obtain ⟨a0, a1, a2, a3, a4⟩ := id ra
         go_wp2_with fail
         refine (c00 _).mono ?_
         rintro e wy ⟨rfl, hb⟩
         have ra' := ra.step hb
         have rb' := rb.step hb
         have hB' := below2 hB hb
         have hf' := hf.step hb
         clear hb a0 a1 a2 a3 a4
         go_wp2_with fail
         go_meet
         case rel => exact ⟨rfl, ra', rb', hf', hB'⟩)
  case rest =>
    clear ra rb hB hf hT d2 d3 c00
    obtain ⟨rfl, ra, rb, hf, hB⟩ := hcut
    go_upto_region 4 with fail
    go_cut [77] from 56 (fun s77 wx => s77 = .bool false ∧ wx = wc)
    case first =>
      obtain ⟨a0, a1, a2, a3, a4⟩ := id ra
      obtain ⟨b0, b1, b2, b3, b4⟩ := id rb
      by_cases h1 : r = r1
      · by_cases h2 : c = c1
        · by_cases h3 : v = v1
          · have hX : X = 0 := HZ.out.2 ⟨h1, h2, h3⟩
            clear HZ d1
            subst h1 h2 h3 hX
            go_wp2_with fail
            go_meet
            case rel => exact ⟨rfl, rfl⟩
          · have k3 : (v == v1) = false := by simpa using h3
            have kX : (X == 0) = false := by
              have : ¬ X = 0 := fun e => h3 (HZ.out.1 e).2.2
              simpa using this
            clear HZ d1
            subst h1 h2
            go_wp2_with fail
            go_meet
            case rel => exact ⟨rfl, rfl⟩
        · have k2 : (c == c1) = false := by simpa using h2
          have kX : (X == 0) = false := by
            have : ¬ X = 0 := fun e => h2 (HZ.out.1 e).2.1
            simpa using this
          clear HZ d1
          subst h1
          go_wp2_with fail
          go_meet
          case rel => exact ⟨rfl, rfl⟩
      · have k1 : (r == r1) = false := by simpa using h1
        have kX : (X == 0) = false := by
          have : ¬ X = 0 := fun e => h1 (HZ.out.1 e).1
          simpa using this
        clear HZ d1
        go_wp2_with fail
        go_meet
        case rel => exact ⟨rfl, rfl⟩
    case rest =>
      obtain ⟨rfl, hwc⟩ := hcut
      rw [hwc]
      clear hwc HZ d1
      obtain ⟨a0, a1, a2, a3, a4⟩ := id ra
      obtain ⟨b0, b1, b2, b3, b4⟩ := id rb
      obtain ⟨_, f0, f1⟩ := id hf
      go_wp2_with fail
      generalize hW : (World.setCell _ ⟨w.heap.size + 1, 0, none⟩ (.string (bstr r))).setCell ⟨w.heap.size + 1, 1, none⟩ (.string (bstr c)) = W3
      clear a0 a1 a2 a3 a4 b0 b1 b2 b3 b4 f0 f1
      obtain ⟨ra3, rb3⟩ := cellAt_set r c ra rb hW
      have hB3 : Below w.heap.size w W3 := by rw [← hW]; exact below_set2 _ _ hB (Nat.le_succ _)
      have hfl := cc_falls r c v v1
      have q0 := fun d os => cell_regrown ra3.c0 d os
      have p0 := fun d os => cell_regrown rb3.c0 d os
      have q1 := fun d os => cell_regrown ra3.c1 d os
      have p1 := fun d os => cell_regrown rb3.c1 d os
      have q2 := fun d os => cell_regrown ra3.c2 d os
      have p2 := fun d os => cell_regrown rb3.c2 d os
      have q3 := fun d os => cell_regrown ra3.c3 d os
      have p3 := fun d os => cell_regrown rb3.c3 d os
      have q4 := fun d os => cell_regrown ra3.c4 d os
      have p4 := fun d os => cell_regrown rb3.c4 d os
      clear hW ra rb hf hB ra3 rb3
      refine wp_region_quiet_below (by kernel_rfl) (by kernel_rfl) ?_
      repeat (go_big_quiet_step (first
        | (go_at_call 24; exact Calls.regrown_of (Cmp_any _ _ _ _ _ _ _ _ _ _ _))
        | (go_at_call 21; exact Calls.regrown_of (works_any _))))
      refine wpQuiet_nil ?_
      intro _ hw'
      obtain ⟨⟨dr, osr⟩, hw''⟩ := hw'
      subst hw''
      replace hB3 := below2 hB3 (below_regrown W3 dr osr)
      go_wp2
      go_ret
      exact ⟨rfl, hB3⟩

end Go.Proofs.Ytphoimimifepcaa
