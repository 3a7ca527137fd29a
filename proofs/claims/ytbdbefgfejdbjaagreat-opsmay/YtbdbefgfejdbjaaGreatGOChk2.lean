/-
  ops' small questions: written by mkochk.py.
  Commands as records; what one is wanted to do.
-/
import Derived.Test.YtbdbefgfejdbjaaGreatGOMod
namespace Go.Proofs.YtbdbefgfejdbjaaGreat
open Go.RowKit Go.BigFrame
attribute [local go_sem] size_bstr toList_bstr


set_option maxHeartbeats 4000000 in
set_option maxRecDepth 100000 in
theorem oCount_any (n : Int) (w : World) :
    Calls Tryz.prog 72 #[.int .u64 n] w fun e w' => e = .returned (.bool (decide (1 ≤ n) && decide (n ≤ 1099511627776))) ∧ Below w.heap.size w w' := by
  go_enter Tryz.func72, Tryz.ntmps72
  go_wp2
  all_goals
    go_ret
    exact ⟨(congrArg (fun b => Ending.returned (.bool b)) (by first | rfl | (simp; done) | (simp; omega) | (simp_all; done) | (simp_all; omega))), (Below.refl _ _)⟩

abbrev countB (n : Int) : Bool := decide (1 ≤ n) && decide (n ≤ 1099511627776)

set_option maxHeartbeats 4000000 in
set_option maxRecDepth 100000 in
theorem oGroup_any (n : Int) (w : World) :
    Calls Tryz.prog 34 #[.int .i64 n] w fun e w' => e = .returned (.bool (decide (0 ≤ n) && decide (n < 12))) ∧ Below w.heap.size w w' := by
  go_enter Tryz.func34, Tryz.ntmps34
  go_wp2
  all_goals
    go_ret
    exact ⟨(congrArg (fun b => Ending.returned (.bool b)) (by first | rfl | (simp; done) | (simp; omega) | (simp_all; done) | (simp_all; omega))), (Below.refl _ _)⟩

abbrev groupB (n : Int) : Bool := decide (0 ≤ n) && decide (n < 12)

set_option maxHeartbeats 4000000 in
set_option maxRecDepth 100000 in
theorem oNode_any (n : Int) (w : World) :
    Calls Tryz.prog 46 #[.int .i64 n] w fun e w' => e = .returned (.bool (decide (0 ≤ n) && decide (n < 5))) ∧ Below w.heap.size w w' := by
  go_enter Tryz.func46, Tryz.ntmps46
  go_wp2
  all_goals
    go_ret
    exact ⟨(congrArg (fun b => Ending.returned (.bool b)) (by first | rfl | (simp; done) | (simp; omega) | (simp_all; done) | (simp_all; omega))), (Below.refl _ _)⟩

abbrev nodeB (n : Int) : Bool := decide (0 ≤ n) && decide (n < 5)

set_option maxHeartbeats 4000000 in
set_option maxRecDepth 100000 in
theorem oStep_any (p s : Int) (w : World) :
    Calls Tryz.prog 32 #[.int .u64 p, .int .i64 s] w fun e w' => e = .returned (.bool (countB p && decide (0 ≤ s) && decide (s ≤ 100))) ∧ Below w.heap.size w w' := by
  have K0 := fun W : World => (show Calls Tryz.prog _ _ W (fun e w' => e = .returned (.bool (countB p)) ∧ Below W.heap.size W w') from oCount_any p W)
  generalize countB p = b0 at *
  go_enter Tryz.func32, Tryz.ntmps32
  go_wp2_with fail
  refine (K0 _).mono ?_
  rintro e w101 ⟨rfl, hb101⟩
  have hB1 := hb101
  cases b0
  case false =>
    go_wp2
    all_goals
      go_ret
      exact ⟨(congrArg (fun b => Ending.returned (.bool b)) (by first | rfl | (simp; done) | (simp; omega) | (simp_all; done) | (simp_all; omega))), hB1⟩
  case true =>
    go_wp2
    all_goals
      go_ret
      exact ⟨(congrArg (fun b => Ending.returned (.bool b)) (by first | rfl | (simp; done) | (simp; omega) | (simp_all; done) | (simp_all; omega))), hB1⟩

abbrev stepB (p s : Int) : Bool := countB p && decide (0 ≤ s) && decide (s ≤ 100)

set_option maxHeartbeats 1000000 in
theorem oHint_any (n : Int) (w : World) :
    Calls Tryz.prog 96 #[.int .i64 n] w fun e w' => e = .returned (.bool (decide (n = -1) || nodeB n)) ∧ Below w.heap.size w w' := by
  have K := fun W : World => (show Calls Tryz.prog _ _ W (fun e w' => e = .returned (.bool (nodeB n)) ∧ Below W.heap.size W w') from oNode_any n W)
  generalize nodeB n = b at *
  by_cases h : n = -1
  · subst h
    go_enter Tryz.func96, Tryz.ntmps96
    go_wp2
    go_ret
    exact ⟨rfl, Below.refl _ _⟩
  · have hd : (n == -1) = false := beq_eq_false_iff_ne.2 h
    have HD : decide (n = -1) = false := decide_eq_false h
    rw [HD]
    clear HD h
    go_enter Tryz.func96, Tryz.ntmps96
    go_wp2_with fail
    refine (K _).mono ?_
    rintro e w1 ⟨rfl, hb⟩
    go_wp2
    go_ret
    exact ⟨by simp, hb⟩
abbrev hintB (n : Int) : Bool := decide (n = -1) || nodeB n
theorem oErr_any (e : Int) (w : World) :
    Calls Tryz.prog 82 #[.int .i64 e] w fun x w' => x = .returned (.bool (decide (0 ≤ e) && decide (e ≤ 15))) ∧ Below w.heap.size w w' :=
  (jErr_any e w).mono (by rintro x w' ⟨rfl, rfl⟩; exact ⟨rfl, Below.refl _ _⟩)
abbrev errB (e : Int) : Bool := decide (0 ≤ e) && decide (e ≤ 15)

set_option maxHeartbeats 4000000 in
set_option maxRecDepth 100000 in
theorem oAsked_any (c s ep : Int) (o : Oq) (w : World) :
    Calls Tryz.prog 31 #[.int .i64 c, .int .u64 s, .int .u64 ep, oqV o] w fun e w' => e = .returned (.bool (decide (0 ≤ c) && decide (c < 4) && countB s && decide (ep ≤ 1099511627776) && mayO o)) ∧ Below w.heap.size w w' := by
  have K2 := fun W : World => (show Calls Tryz.prog _ _ W (fun e w' => e = .returned (.bool (countB s)) ∧ Below W.heap.size W w') from oCount_any s W)
  generalize countB s = b2 at *
  have K4 := fun W : World => YCheck_any o W
  generalize mayO o = b4 at *
  obtain ⟨k, r, cl, v, h, x⟩ := o
  obtain ⟨w1, hw1⟩ : ∃ w1, w1 = w.alloc (.cells #[.int .i64 k, .string (bstr r), .string (bstr cl), .string (bstr v), .bool h, .string (bstr x)] 24) := ⟨_, rfl⟩
  have hb0 : Below w.heap.size w w1 := by rw [hw1]; exact (Below.refl _ _).alloc (Nat.le_refl _) _
  have hr : OqB w1 w.heap.size ⟨k, r, cl, v, h, x⟩ := by rw [hw1]; exact heap_alloc_new w _
  go_enter Tryz.func31, Tryz.ntmps31
  go_upto_region 1 with fail
  rw [← hw1]
  clear hw1
  by_cases h0 : 0 ≤ c
  case neg =>
    go_wp2
    all_goals
      go_ret
      exact ⟨(congrArg (fun b => Ending.returned (.bool b)) (by first | rfl | (simp; done) | (simp; omega) | (simp_all; done) | (simp_all; omega))), hb0⟩
  case pos =>
  by_cases h1 : c < 4
  case neg =>
    go_wp2
    all_goals
      go_ret
      exact ⟨(congrArg (fun b => Ending.returned (.bool b)) (by first | rfl | (simp; done) | (simp; omega) | (simp_all; done) | (simp_all; omega))), hb0⟩
  case pos =>
  go_wp2_with fail
  refine (K2 _).mono ?_
  rintro e w2 ⟨rfl, hb2⟩
  replace hb0 := below2 hb0 hb2
  replace hr := (hb2.block _ (blk_lt hr)).trans hr
  clear hb2
  cases b2
  case false =>
    go_wp2
    all_goals
      go_ret
      exact ⟨(congrArg (fun b => Ending.returned (.bool b)) (by first | rfl | (simp; done) | (simp; omega) | (simp_all; done) | (simp_all; omega))), hb0⟩
  case true =>
  by_cases h3 : ep ≤ 1099511627776
  case neg =>
    go_wp2
    all_goals
      go_ret
      exact ⟨(congrArg (fun b => Ending.returned (.bool b)) (by first | rfl | (simp; done) | (simp; omega) | (simp_all; done) | (simp_all; omega))), hb0⟩
  case pos =>
  obtain ⟨c0, c1, c2, c3, c4, c5⟩ := OqB.facts (o := ⟨k, r, cl, v, h, x⟩) hr
  simp only at c0 c1 c2 c3 c4 c5
  go_wp2_with fail
  refine (K4 _).mono ?_
  rintro e w3 ⟨rfl, hb3⟩
  replace hb0 := below2 hb0 hb3
  clear hb3 hr c0 c1 c2 c3 c4 c5
  cases b4
  all_goals
    go_wp2
    all_goals
      go_ret
      exact ⟨(congrArg (fun b => Ending.returned (.bool b)) (by first | rfl | (simp; done) | (simp; omega) | (simp_all; done) | (simp_all; omega))), hb0⟩
abbrev askedB (c s ep : Int) (o : Oq) : Bool := decide (0 ≤ c) && decide (c < 4) && countB s && decide (ep ≤ 1099511627776) && mayO o
end Go.Proofs.YtbdbefgfejdbjaaGreat

namespace Go.Proofs.YtbdbefgfejdbjaaGreat
open Go.RowKit Go.BigFrame
attribute [local go_sem] size_bstr toList_bstr

/-- What a boss is asked to do. -/
structure Wt where
  mv : Bool
  g : Int
  key : List UInt8
  i : Int
  o : Int
  deriving DecidableEq
def wtC (x : Wt) : List Value := [.bool x.mv, .int .i64 x.g, .string (bstr x.key), .int .i64 x.i, .int .i64 x.o]
abbrev wtV (x : Wt) : Value := .agg #[.bool x.mv, .int .i64 x.g, .string (bstr x.key), .int .i64 x.i, .int .i64 x.o]
def wantB (x : Wt) : Bool := groupB x.g && (if x.mv then nodeB x.i && nodeB x.o && !decide (x.i = x.o) && decide (x.key = []) else decide (x.i = 0) && decide (x.o = 0) && userB x.key)

set_option maxHeartbeats 4000000 in
set_option maxRecDepth 100000 in
theorem oWant_any (x : Wt) (w : World) : Calls Tryz.prog 36 #[wtV x] w fun e w' => e = .returned (.bool (wantB x)) ∧ Below w.heap.size w w' := by
  obtain ⟨mv, g, key, i, o⟩ := x
  have K0 := fun W : World => (show Calls Tryz.prog _ _ W (fun e w' => e = .returned (.bool (groupB g)) ∧ Below W.heap.size W w') from oGroup_any g W)
  have K1 := fun W : World => (show Calls Tryz.prog _ _ W (fun e w' => e = .returned (.bool (nodeB i)) ∧ Below W.heap.size W w') from oNode_any i W)
  have K2 := fun W : World => (show Calls Tryz.prog _ _ W (fun e w' => e = .returned (.bool (nodeB o)) ∧ Below W.heap.size W w') from oNode_any o W)
  have K3 := fun W : World => User_any key W
  have hw : wantB ⟨mv, g, key, i, o⟩ = (groupB g && (if mv then nodeB i && nodeB o && !decide (i = o) && decide (key = []) else decide (i = 0) && decide (o = 0) && userB key)) := rfl
  rw [hw]
  clear hw
  generalize groupB g = b0 at *
  generalize nodeB i = b1 at *
  generalize nodeB o = b2 at *
  generalize userB key = b3 at *
  obtain ⟨w1, hw1⟩ : ∃ w1, w1 = w.alloc (.cells #[.bool mv, .int .i64 g, .string (bstr key), .int .i64 i, .int .i64 o] 26) := ⟨_, rfl⟩
  have hb0 : Below w.heap.size w w1 := by rw [hw1]; exact (Below.refl _ _).alloc (Nat.le_refl _) _
  have hc := (mcells (show w1.heap[w.heap.size]? = some (.cells #[.bool mv, .int .i64 g, .string (bstr key), .int .i64 i, .int .i64 o] 26 (0, 0)) by rw [hw1]; exact heap_alloc_new w _)).1
  have c0 : w1.cell? ⟨w.heap.size, 0, none⟩ = some (.bool mv) := hc 0
  have c1 : w1.cell? ⟨w.heap.size, 1, none⟩ = some (.int .i64 g) := hc 1
  have c2 : w1.cell? ⟨w.heap.size, 2, none⟩ = some (.string (bstr key)) := hc 2
  have c3 : w1.cell? ⟨w.heap.size, 3, none⟩ = some (.int .i64 i) := hc 3
  have c4 : w1.cell? ⟨w.heap.size, 4, none⟩ = some (.int .i64 o) := hc 4
  clear hc
  go_enter Tryz.func36, Tryz.ntmps36
  go_upto_region 1 with fail
  rw [← hw1]
  clear hw1
  go_wp2_with fail
  refine (K0 _).mono ?_
  rintro e w2 ⟨rfl, hb2⟩
  replace hb0 := below2 hb0 hb2
  replace c0 := cell_below hb2 c0
  replace c2 := cell_below hb2 c2
  replace c3 := cell_below hb2 c3
  replace c4 := cell_below hb2 c4
  clear hb2 c1 K0
  cases b0
  case false =>
    go_wp2
    all_goals
      go_ret
      exact ⟨rfl, hb0⟩
  case true =>
  cases mv
  case true =>
    go_wp2_with fail
    refine (K1 _).mono ?_
    rintro e w3 ⟨rfl, hb2⟩
    replace hb0 := below2 hb0 hb2
    replace c2 := cell_below hb2 c2
    replace c3 := cell_below hb2 c3
    replace c4 := cell_below hb2 c4
    clear hb2 c0 K1 K3
    cases b1
    case false =>
      go_wp2
      go_ret
      exact ⟨rfl, hb0⟩
    case true =>
    go_wp2_with fail
    refine (K2 _).mono ?_
    rintro e w4 ⟨rfl, hb2⟩
    replace hb0 := below2 hb0 hb2
    replace c2 := cell_below hb2 c2
    replace c3 := cell_below hb2 c3
    replace c4 := cell_below hb2 c4
    clear hb2 K2
    cases b2
    case false =>
      go_wp2
      go_ret
      exact ⟨rfl, hb0⟩
    case true =>
    by_cases h1 : i = o
    case pos =>
      subst h1
      go_wp2
      go_ret
      exact ⟨by simp, hb0⟩
    case neg =>
    have h1' : (i == o) = false := beq_eq_false_iff_ne.2 h1
    by_cases h2 : key = []
    case pos =>
      subst h2
      go_wp2
      go_ret
      exact ⟨by simp [h1], hb0⟩
    case neg =>
      have h2' : (key == ([] : List UInt8)) = false := beq_eq_false_iff_ne.2 h2
      go_wp2
      go_ret
      exact ⟨by simp, hb0⟩
  case false =>
    clear K1 K2
    by_cases h1 : i = 0
    case neg =>
      have h1' : (i == 0) = false := beq_eq_false_iff_ne.2 h1
      go_wp2
      go_ret
      exact ⟨by simp, hb0⟩
    case pos =>
    by_cases h2 : o = 0
    case neg =>
      have h2' : (o == 0) = false := beq_eq_false_iff_ne.2 h2
      go_wp2
      go_ret
      exact ⟨by simp, hb0⟩
    case pos =>
    subst h1 h2
    go_wp2_with fail
    refine (K3 _).mono ?_
    rintro e w3 ⟨rfl, hb2⟩
    replace hb0 := below2 hb0 hb2
    cases b3
    all_goals
      go_wp2
      go_ret
      exact ⟨rfl, hb0⟩

/-- A command. -/
structure Cm where
  k : Int
  cl : Int
  sq : Int
  ep : Int
  op : Oq
  pr : Int
  st : Int
  key : List UInt8
  val : List UInt8
  gr : Int
  wt : Wt
  deriving DecidableEq
def oqL (o : Oq) : List Lit := [.int .i64 o.kind, .string o.row, .string o.col, .string o.val, .bool o.has, .string o.exp]
def wtL (x : Wt) : List Lit := [.bool x.mv, .int .i64 x.g, .string x.key, .int .i64 x.i, .int .i64 x.o]
def cmL (c : Cm) : List Lit := [.int .i64 c.k, .int .i64 c.cl, .int .u64 c.sq, .int .u64 c.ep, .int .i64 c.op.kind, .string c.op.row, .string c.op.col, .string c.op.val, .bool c.op.has, .string c.op.exp, .int .u64 c.pr, .int .i64 c.st, .string c.key, .string c.val, .int .i64 c.gr, .bool c.wt.mv, .int .i64 c.wt.g, .string c.wt.key, .int .i64 c.wt.i, .int .i64 c.wt.o]
def oq0 : Oq := ⟨0, [], [], [], false, []⟩
def wt0 : Wt := ⟨false, 0, [], 0, 0⟩
def cm0 : Cm := ⟨0, 0, 0, 0, oq0, 0, 0, [], [], 0, wt0⟩
theorem cmL_inj {a b : Cm} (h : cmL a = cmL b) : a = b := by
  obtain ⟨k, cl, sq, ep, ⟨o1, o2, o3, o4, o5, o6⟩, pr, st, key, val, gr, ⟨w1, w2, w3, w4, w5⟩⟩ := a
  obtain ⟨k', cl', sq', ep', ⟨o1', o2', o3', o4', o5', o6'⟩, pr', st', key', val', gr', ⟨w1', w2', w3', w4', w5'⟩⟩ := b
  simp [cmL] at h
  simp [h]
/-- What is left of it without all that its kind may have; is that which it has as it may be? -/
def restC (c : Cm) : Cm :=
  if c.k = 1 then { c with k := 0, cl := 0, sq := 0, ep := 0, op := oq0 }
  else if c.k = 2 ∨ c.k = 4 then { c with k := 0, pr := 0, st := 0, ep := 0 }
  else if c.k = 3 then { c with k := 0, pr := 0, st := 0, ep := 0, key := [], gr := 0 }
  else if c.k = 5 then { c with k := 0, pr := 0, st := 0, key := [], val := [] }
  else if c.k = 6 then { c with k := 0, wt := wt0 }
  else if c.k = 7 then { c with k := 0, pr := 0, st := 0 }
  else { c with k := 0 }
def goodC (c : Cm) : Bool :=
  if c.k = 0 then true
  else if c.k = 1 then askedB c.cl c.sq c.ep c.op
  else if c.k = 2 ∨ c.k = 4 then stepB c.pr c.st && decide (c.ep ≤ 1099511627776)
  else if c.k = 3 then stepB c.pr c.st && decide (c.ep ≤ 1099511627776) && userB c.key && groupB c.gr && decide (3 < c.gr)
  else if c.k = 5 then stepB c.pr c.st && !decide (c.key = []) && storedB c.key && decide (c.val.length ≤ 256)
  else if c.k = 6 then wantB c.wt
  else if c.k = 7 then stepB c.pr c.st
  else false
def okC (c : Cm) : Bool := goodC c && decide (restC c = cm0)

end Go.Proofs.YtbdbefgfejdbjaaGreat
