/-
  The document's answer for a model: the newest of a place.
-/
import Derived.Test.YtpihdjemjfkidaaYEff
import Derived.Test.YtpihdjemjfkidaaYMay
namespace Go.Proofs.Ytpihdjemjfkidaa
open Go.RowKit Go.BigFrame Go.Sort
attribute [local go_sem] size_bstr toList_bstr ls_def

/-- A cell lies in a block. -/
def CelB (w : World) (b : Nat) (c : Cl) : Prop := w.heap[b]? = some (.cells #[.string (bstr c.row), .string (bstr c.col), .int .u64 c.ver, .bool c.gone, .string (bstr c.val)] 39 (0, 0))
theorem CelB.facts {w : World} {b : Nat} {c : Cl} (h : CelB w b c) : w.cell? ⟨b, 0, none⟩ = some (.string (bstr c.row)) ∧ w.cell? ⟨b, 1, none⟩ = some (.string (bstr c.col)) ∧ w.cell? ⟨b, 2, none⟩ = some (.int .u64 c.ver) ∧ w.cell? ⟨b, 3, none⟩ = some (.bool c.gone) ∧ w.cell? ⟨b, 4, none⟩ = some (.string (bstr c.val)) :=
  ⟨(mcells h).1 0, (mcells h).1 1, (mcells h).1 2, (mcells h).1 3, (mcells h).1 4⟩
theorem CelB.set {w : World} {b : Nat} {c : Cl} (h : CelB w b c) (x : Cl) : CelB (((((w.setCell ⟨b, 0, none⟩ (.string (bstr x.row))).setCell ⟨b, 1, none⟩ (.string (bstr x.col))).setCell ⟨b, 2, none⟩ (.int .u64 x.ver)).setCell ⟨b, 3, none⟩ (.bool x.gone)).setCell ⟨b, 4, none⟩ (.string (bstr x.val))) b x := by
  have h1 := heap_set_same h (o := 0) (.string (bstr x.row))
  have h2 := heap_set_same h1 (o := 1) (.string (bstr x.col))
  have h3 := heap_set_same h2 (o := 2) (.int .u64 x.ver)
  have h4 := heap_set_same h3 (o := 3) (.bool x.gone)
  exact heap_set_same h4 (o := 4) (.string (bstr x.val))
theorem CelB.other {w : World} {b n : Nat} {c : Cl} {p q r s t : Value} (h : CelB w b c) (hn : b ≠ n) : CelB (((((w.setCell ⟨n, 0, none⟩ p).setCell ⟨n, 1, none⟩ q).setCell ⟨n, 2, none⟩ r).setCell ⟨n, 3, none⟩ s).setCell ⟨n, 4, none⟩ t) b c :=
  ((heap_set_other _ hn).trans ((heap_set_other _ hn).trans ((heap_set_other _ hn).trans ((heap_set_other _ hn).trans (heap_set_other _ hn))))).trans h
def newR (l : Lk) : Cl := if l.seen then l.new else ⟨[], [], 0, true, []⟩
theorem ret_cel {fn : Func} {p : Tmp} (h : fn.results = #[.cell p 39]) {R : Ending → World → Prop} {a : Act} {w : World} {b : Nat} {c : Cl} (hp : a.tmps.getD p undef = .pointer (some ⟨b, 0, none⟩)) (hat : CelB w b c) (hd : a.defers = []) (hR : R (.returned (clV c)) w) :
    bodyPost Try.prog fn R .ret a w := by
  obtain ⟨q0, q1, q2, q3, q4⟩ := hat.facts
  exact bodyPost_ret (v := clV c) (by rw [yres1 h, hp]; simp [go_sem, q0, q1, q2, q3, q4]) hd hR

set_option maxHeartbeats 8000000 in
set_option maxRecDepth 100000 in
theorem RNewest_any (q : Option Addr) (b off cap : Nat) (cs : List Cl) (row col : List UInt8) (w : World) (hq : 0 < cs.length → q = some ⟨b, off, none⟩ ∧ CRow w b off cs ∧ b < w.heap.size) (hn : cs.length ≤ 1000000000) :
    Calls Try.prog 17 #[.slice q cs.length cap, .string (bstr row), .string (bstr col)] w fun e w' => e = .returned (clV (newR (lookL row col cs))) ∧ Below w.heap.size w w' := by
  obtain ⟨ne, hne⟩ : ∃ ne, ne = newR (lookL row col cs) := ⟨_, rfl⟩
  rw [← hne]
  have HNE : Hid _ := hne
  clear hne
  obtain ⟨w1, hw1⟩ : ∃ w1, w1 = (w.alloc (.cells #[.string ⟨#[]⟩, .string ⟨#[]⟩, .int .u64 0, .bool false, .string ⟨#[]⟩] 39)).alloc (.cells #[.string ⟨#[]⟩, .string ⟨#[]⟩, .int .u64 0, .bool false, .string ⟨#[]⟩] 39) := ⟨_, rfl⟩
  have hb1 : Below w.heap.size w w1 := by rw [hw1]; exact ((Below.refl _ _).alloc (Nat.le_refl _) _).alloc (by simp) _
  have x1 : CelB w1 w.heap.size zC := by rw [hw1]; exact (Below.heap_alloc _ _ _ (by simp)).trans (heap_alloc_new w _)
  have y1 : CelB w1 (w.heap.size + 1) zC := by
    have h := heap_alloc_new (w.alloc (.cells #[.string ⟨#[]⟩, .string ⟨#[]⟩, .int .u64 0, .bool false, .string ⟨#[]⟩] 39)) (.cells #[.string ⟨#[]⟩, .string ⟨#[]⟩, .int .u64 0, .bool false, .string ⟨#[]⟩] 39)
    rw [World.size_alloc] at h
    rw [hw1]
    exact h
  have HW1 : Hid _ := hw1
  clear hw1
  go_enter Try.func17, Try.ntmps17
  go_wp2_with fail
  rw [← HW1.out]
  clear HW1
  go_loopw [8, 9] (fun s8 s9 wr => ∃ i : Nat, s9 = .int .i64 (i : Int) ∧ i ≤ cs.length ∧ s8 = .bool (lookL row col (cs.take i)).seen ∧ CelB wr w.heap.size zC ∧ CelB wr (w.heap.size + 1) (lookL row col (cs.take i)).new ∧ Below w.heap.size w wr) (fun _ s9 _ => cs.length - (intOf s9).toNat)
  case atStart => exact ⟨0, rfl, by omega, rfl, x1, y1, hb1⟩
  case round =>
    clear x1 y1 hb1
    obtain ⟨i, rfl, hil, rfl, hX, hY, hbl⟩ := hrel
    by_cases hlt : i < cs.length
    · have hiz : (i : Int) < (cs.length : Int) := by omega
      obtain ⟨rfl, hR, hbb⟩ := hq (by omega)
      obtain ⟨c, hc⟩ : ∃ c, c = cs[i] := ⟨_, rfl⟩
      have hA := (hR i hlt).step hbl hbb
      have HT : Hid _ := look_take row col cs hlt
      rw [← hc] at hA HT
      have hpl := look_row row col (cs.take i)
      obtain ⟨l, hl⟩ : ∃ l, l = lookL row col (cs.take i) := ⟨_, rfl⟩
      rw [← hl] at hY HT hpl
      rw [← hl]
      have HLT : Hid (i + 1 ≤ cs.length) := hlt
      obtain ⟨a0, a1, a2, a3, a4⟩ := id hA
      obtain ⟨q0, q1, q2, q3, q4⟩ := hY.facts
      have fz := (mcells hY).2
      have HYS : Hid (∀ n, CelB _ (w.heap.size + 1) c) := fun n => (show CelB (wr.drewN n) (w.heap.size + 1) l.new from hY).set c
      have HXS : Hid (∀ n, CelB _ w.heap.size zC) := fun n => (show CelB (wr.drewN n) w.heap.size zC from hX).other (n := w.heap.size + 1) (p := .string (bstr c.row)) (q := .string (bstr c.col)) (r := .int .u64 c.ver) (s := .bool c.gone) (t := .string (bstr c.val)) (by omega)
      have HBS : Hid (∀ n, Below w.heap.size w _) := fun n => below_set5 (n := w.heap.size + 1) (.string (bstr c.row)) (.string (bstr c.col)) (.int .u64 c.ver) (.bool c.gone) (.string (bstr c.val)) (bel_drewN hbl n) (Nat.le_succ _)
      have HY : Hid _ := hY
      have HX : Hid _ := hX
      have HB : Hid _ := hbl
      clear hR hA hc hl hlt hil hX hY hbl
      obtain ⟨lr, lc, ln, ls⟩ := l
      obtain ⟨cr, cc, cv, cg, cx⟩ := c
      simp only at a0 a1 a2 a3 a4 q0 q1 q2 q3 q4 hpl
      obtain ⟨rfl, rfl⟩ := hpl
      by_cases h1 : cr = lr
      · subst h1
        by_cases h2 : cc = lc
        · subst h2
          by_cases h3 : ls = false ∨ ln.ver < cv
          · have e : seeL ⟨cr, cc, ln, ls⟩ ⟨cr, cc, cv, cg, cx⟩ = ⟨cr, cc, ⟨cr, cc, cv, cg, cx⟩, true⟩ := by unfold seeL; rw [if_pos]; exact ⟨rfl, rfl, h3⟩
            rw [e] at HT
            clear e
            cases ls with
            | false =>
              clear h3
              go_wp2_with fail
              go_quiet (fail)
              go_wp2
              go_roundw
              case rel => exact ⟨i + 1, by go_num, HLT.out, by rw [HT.out], HXS.out _, by rw [HT.out]; exact HYS.out _, HBS.out _⟩
              case measure => have := HLT.out; simp [intOf]; omega
            | true =>
              have h4 : ln.ver < cv := by simpa using h3
              clear h3
              go_wp2_with fail
              go_quiet (fail)
              go_wp2
              go_roundw
              case rel => exact ⟨i + 1, by go_num, HLT.out, by rw [HT.out], HXS.out _, by rw [HT.out]; exact HYS.out _, HBS.out _⟩
              case measure => have := HLT.out; simp [intOf]; omega
          · have e : seeL ⟨cr, cc, ln, ls⟩ ⟨cr, cc, cv, cg, cx⟩ = ⟨cr, cc, ln, ls⟩ := by unfold seeL; rw [if_neg]; intro h; exact h3 h.2.2
            rw [e] at HT
            clear e
            obtain rfl : ls = true := by cases ls; exact absurd (.inl rfl) h3; rfl
            have h4 : ¬ ln.ver < cv := fun h => h3 (.inr h)
            clear h3
            go_wp2_with fail
            go_quiet (fail)
            go_wp2
            go_roundw
            case rel => exact ⟨i + 1, by go_num, HLT.out, by rw [HT.out], HX.out, by rw [HT.out]; exact HY.out, bel_drewN HB.out _⟩
            case measure => have := HLT.out; simp [intOf]; omega
        · have e : seeL ⟨cr, lc, ln, ls⟩ ⟨cr, cc, cv, cg, cx⟩ = ⟨cr, lc, ln, ls⟩ := by unfold seeL; rw [if_neg]; intro h; exact h2 h.2.1
          rw [e] at HT
          clear e
          have h2b : (cc == lc) = false := by simpa using h2
          go_wp2_with fail
          go_quiet (fail)
          go_wp2
          go_roundw
          case rel => exact ⟨i + 1, by go_num, HLT.out, by rw [HT.out], HX.out, by rw [HT.out]; exact HY.out, bel_drewN HB.out _⟩
          case measure => have := HLT.out; simp [intOf]; omega
      · have e : seeL ⟨lr, lc, ln, ls⟩ ⟨cr, cc, cv, cg, cx⟩ = ⟨lr, lc, ln, ls⟩ := by unfold seeL; rw [if_neg]; intro h; exact h1 h.1
        rw [e] at HT
        clear e
        have h1b : (cr == lr) = false := by simpa using h1
        go_wp2_with fail
        go_quiet (fail)
        go_wp2
        go_roundw
        case rel => exact ⟨i + 1, by go_num, HLT.out, by rw [HT.out], HX.out, by rw [HT.out]; exact HY.out, bel_drewN HB.out _⟩
        case measure => have := HLT.out; simp [intOf]; omega
    · have hiz : ¬ (i : Int) < (cs.length : Int) := by omega
      have hie : i = cs.length := by omega
      subst hie
      have hN := HNE.out
      rw [List.take_length] at hY
      rw [List.take_length]
      obtain ⟨l, hl⟩ : ∃ l, l = lookL row col cs := ⟨_, rfl⟩
      rw [← hl] at hY hN
      rw [← hl]
      obtain ⟨lr, lc, ln, ls⟩ := l
      simp only at hY
      obtain ⟨q0, q1, q2, q3, q4⟩ := hX.facts
      obtain ⟨p0, p1, p2, p3, p4⟩ := hY.facts
      have fz := (mcells hX).2
      have HXS : Hid _ := hX.set ne
      have HBS : Hid _ := below_set5 (n := w.heap.size) (.string (bstr ne.row)) (.string (bstr ne.col)) (.int .u64 ne.ver) (.bool ne.gone) (.string (bstr ne.val)) hbl (Nat.le_refl _)
      clear HNE hl hq hX hY hbl
      cases ls with
      | false =>
        have hNe : ne = ⟨[], [], 0, true, []⟩ := hN
        clear hN
        subst hNe
        go_wp2
        exact ret_cel (c := ⟨[], [], 0, true, []⟩) Try.results17 rfl HXS.out rfl ⟨rfl, HBS.out⟩
      | true =>
        have hNe : ne = ln := hN
        clear hN
        subst hNe
        go_wp2
        exact ret_cel (c := ne) Try.results17 rfl HXS.out rfl ⟨rfl, HBS.out⟩

set_option maxHeartbeats 2000000 in
theorem RCheck15_any (o : Oq) (w : World) : Calls Try.prog 8 #[oqV o] w fun e w' => e = .returned (.int .i64 (if mayO o then 0 else 2)) ∧ Below w.heap.size w w' := by
  obtain ⟨w1, hw1⟩ : ∃ w1, w1 = w.alloc (.cells (oqC o) 23) := ⟨_, rfl⟩
  have hb1 : Below w.heap.size w w1 := by rw [hw1]; exact (Below.refl _ _).alloc (Nat.le_refl _) _
  have HW1 : Hid _ := hw1
  clear hw1
  have hm := YMay_any o w1
  obtain ⟨mb, hmb⟩ : ∃ mb, mb = mayO o := ⟨_, rfl⟩
  rw [← hmb] at hm
  rw [← hmb]
  clear hmb
  go_enter Try.func8, Try.ntmps8
  go_wp2_with fail
  rw [show #[.int .i64 o.kind, .string (bstr o.row), .string (bstr o.col), .string (bstr o.val), .bool o.has, .string (bstr o.exp)] = oqC o from rfl, ← HW1.out]
  refine hm.mono ?_
  rintro e w2 ⟨rfl, hb2⟩
  have hb := below2 hb1 hb2
  clear hm hb1 hb2 HW1
  cases mb with
  | false =>
    go_wp2
    go_ret
    exact ⟨rfl, hb⟩
  | true =>
    go_wp2
    go_ret
    exact ⟨rfl, hb⟩

end Go.Proofs.Ytpihdjemjfkidaa
