/-
  ops' taker part by part: where it stands, and the record that its parts make.
  model.Check of an operation (the model's texts, for a program that lacks cells).
-/
import Derived.Test.YtbdbefgfejdbjaaGreatOLay0
import Derived.Test.YtbdbefgfejdbjaaGreatOSeq
import Derived.Test.YtbdbefgfejdbjaaGreatGJTk2
import Derived.Deep.CutBlock
namespace Go.Proofs.YtbdbefgfejdbjaaGreat
open Go.RowKit Go.BigFrame
attribute [local go_sem] size_bstr toList_bstr

/-- A row of cells lies there, and may be written. -/
abbrev Blk (w : World) (b : Nat) (t : TypeId) (cs : Array Value) : Prop := w.heap[b]? = some (.cells cs t (0, 0))
def setL : Array Value → Nat → List Value → Array Value
  | cs, _, [] => cs
  | cs, o, v :: r => setL (cs.setIfInBounds o v) (o + 1) r
theorem setL_get : ∀ (vs : List Value) (cs : Array Value) (o i : Nat), o + vs.length ≤ cs.size → (setL cs o vs)[i]? = if o ≤ i ∧ i < o + vs.length then vs[i - o]? else cs[i]?
  | [], cs, o, i, _ => by
    rw [if_neg (by simp only [List.length_nil]; omega)]
    rfl
  | v :: r, cs, o, i, h => by
    simp only [List.length_cons] at h
    rw [setL, setL_get r _ (o + 1) i (by rw [Array.size_setIfInBounds]; omega)]
    by_cases h1 : i = o
    · subst h1
      rw [if_neg (by omega), if_pos (by simp only [List.length_cons]; omega), Nat.sub_self, Array.getElem?_setIfInBounds_self_of_lt (by omega)]
      rfl
    · by_cases h2 : o + 1 ≤ i ∧ i < o + 1 + r.length
      · rw [if_pos h2, if_pos (by simp only [List.length_cons]; omega), show i - o = i - (o + 1) + 1 from by omega]
        rfl
      · rw [if_neg h2, if_neg (by simp only [List.length_cons]; omega), Array.getElem?_setIfInBounds_ne (by omega)]
theorem setL_all {cs : Array Value} {vs : List Value} (h : vs.length = cs.size) : setL cs 0 vs = vs.toArray := by
  apply Array.ext_getElem?
  intro i
  rw [setL_get vs cs 0 i (by omega)]
  by_cases h1 : i < vs.length
  · rw [if_pos (by omega)]
    simp
  · rw [if_neg (by omega), Array.getElem?_eq_none (by omega), Array.getElem?_eq_none (by simp; omega)]
theorem blk_cells {b : Nat} {t : TypeId} : ∀ (vs : List Value) (o : Nat) {w : World} {cs : Array Value}, Blk w b t cs → Blk (w.setCells b o vs) b t (setL cs o vs)
  | [], _, _, _, h => h
  | v :: r, o, _, _, h => blk_cells r (o + 1) (heap_set_same h v)
theorem tk_cells {W0 : World} {g nr na b : Nat} {a : Bool} {l : List UInt8} (h1 : b ≠ g) (h2 : b ≠ nr) (h3 : b ≠ na) (h4 : W0.heap.size ≤ b) : ∀ (vs : List Value) (o : Nat) {W : World}, Tk W0 g nr na a l W → Tk W0 g nr na a l (W.setCells b o vs)
  | [], _, _, h => h
  | _ :: r, o, _, h => tk_cells h1 h2 h3 h4 r (o + 1) (h.other h1 h2 h3 h4)
theorem kt_cells {g na b : Nat} {A : World} (h1 : A.heap.size ≤ b) : ∀ (vs : List Value) (o : Nat) {B : World}, Kt g na A B → Kt g na A (B.setCells b o vs)
  | [], _, _, h => h
  | _ :: r, o, _, h => kt_cells h1 r (o + 1) (h.other h1)

/-- Where a function that takes a record stands. -/
structure TS (W0 W : World) (g nr na : Nat) (t : TypeId) (zs : Array Value) (s : Ps) (w : World) : Prop where
  tk : Tk W0 g nr na s.a s.l w
  kt : Kt g na W w
  bx : Blk w W.heap.size 108 #[tk1 nr na, tk2 nr na, tk3 nr na]
  rs : Blk w (W.heap.size + 1) t zs
  g1 : W.heap.size ≠ g ∧ W.heap.size + 1 ≠ g
  n1 : W.heap.size ≠ na ∧ W.heap.size + 1 ≠ na ∧ W.heap.size + 1 ≠ nr
  le : W0.heap.size ≤ W.heap.size
theorem TS.start {W0 W : World} {g nr na : Nat} {t : TypeId} {zs : Array Value} {s : Ps} (h : Tk W0 g nr na s.a s.l W) :
    TS W0 W g nr na t zs s ((W.alloc (.cells #[tk1 nr na, tk2 nr na, tk3 nr na] 108)).alloc (.cells zs t)) := by
  have hbe : Below W.heap.size W ((W.alloc (.cells #[tk1 nr na, tk2 nr na, tk3 nr na] 108)).alloc (.cells zs t)) := ((Below.refl _ _).alloc (Nat.le_refl _) _).alloc (by simp) _
  have h1 := h.rd.lt
  have h2 := h.ra
  have h3 := h.rn
  refine ⟨h.step hbe, Kt.below hbe, (Below.heap_alloc _ _ _ (by simp)).trans (heap_alloc_new W _), ?_, ⟨by omega, by omega⟩, ⟨by omega, by omega, by omega⟩, h.gr.size⟩
  have := heap_alloc_new (W.alloc (.cells #[tk1 nr na, tk2 nr na, tk3 nr na] 108)) (.cells zs t)
  rw [World.size_alloc] at this
  exact this
theorem TS.call {W0 W w w' : World} {g nr na : Nat} {t : TypeId} {zs : Array Value} {s s' : Ps} (h : TS W0 W g nr na t zs s w) (hT : Tk W0 g nr na s'.a s'.l w') (hk : Kt g na w w') : TS W0 W g nr na t zs s' w' :=
  ⟨hT, h.kt.trans hk, (hk.2 _ (blk_lt h.bx) h.g1.1 h.n1.1).trans h.bx, (hk.2 _ (blk_lt h.rs) h.g1.2 h.n1.2.1).trans h.rs, h.g1, h.n1, h.le⟩
theorem TS.drew {W0 W w : World} {g nr na : Nat} {t : TypeId} {zs : Array Value} {s : Ps} (h : TS W0 W g nr na t zs s w) : TS W0 W g nr na t zs s w.drew :=
  h.call (h.tk.step (Below.refl _ _).drew) (Kt.below (Below.refl _ _).drew)
theorem TS.set {W0 W w : World} {g nr na : Nat} {t : TypeId} {zs : Array Value} {s : Ps} (h : TS W0 W g nr na t zs s w) (vs : List Value) (hv : vs.length = zs.size) : TS W0 W g nr na t vs.toArray s (w.setCells (W.heap.size + 1) 0 vs) := by
  refine ⟨tk_cells h.g1.2 h.n1.2.2 h.n1.2.1 (Nat.le_succ_of_le h.le) vs 0 h.tk, kt_cells (Nat.le_succ _) vs 0 h.kt, ?_, ?_, h.g1, h.n1, h.le⟩
  · have : ∀ (vs : List Value) (o : Nat) (w : World), (w.setCells (W.heap.size + 1) o vs).heap[W.heap.size]? = w.heap[W.heap.size]? := by
      intro vs
      induction vs with
      | nil => intro o w; rfl
      | cons v r ih => intro o w; rw [World.setCells, ih]; exact heap_set_other v (by omega)
    exact (this vs 0 w).trans h.bx
  · have := blk_cells vs 0 h.rs
    rw [setL_all hv] at this
    exact this
theorem blk_there {w : World} {b n : Nat} {t : TypeId} {cs : Array Value} (h : Blk w b t cs) (hn : n = cs.size) : w.there b 0 n := fun j hj => by
  obtain ⟨h1, h2⟩ := mcells h
  exact ⟨by rw [h1]; simp; omega, h2 _⟩

/-- Where the turns stand. -/
def SS (l : List (World → Prop)) (c : Nat) (w : World) : Prop := (l.getD c fun _ => False) w
theorem SS.all {l : List (World → Prop)} {X : World → Prop} (h : ∀ p ∈ l, ∀ w, p w → X w) (c : Nat) (w : World) (hs : SS l c w) : X w := by
  unfold SS at hs
  rw [List.getD_eq_getElem?_getD] at hs
  cases he : l[c]? with
  | none => rw [he] at hs; exact hs.elim
  | some p => rw [he] at hs; exact h p (List.mem_of_getElem? he) w hs
def RR (l : List Value) (i : Nat) (v : Value) : Prop := v = l.getD i undef

/-- A record answered. -/
theorem ret_cells {fn : Func} {p : Tmp} {t : TypeId} (h : fn.results = #[.cell p t]) {R : Ending → World → Prop} {a : Act} {w : World} {b : Nat} {cs : List Value} {d : TypeDesc} (hu : Tryz.prog.underlying t = some d) (hd : d.isRow = true) (hi : (Tryz.prog.info? t).map (·.size) = some cs.length)
    (hp : a.tmps.getD p undef = .pointer (some ⟨b, 0, none⟩)) (hat : Blk w b t cs.toArray) (hdf : a.defers = []) (hR : R (.returned (.agg cs.toArray)) w) :
    bodyPost Tryz.prog fn R .ret a w := by
  refine bodyPost_ret (v := .agg cs.toArray) ?_ hdf hR
  rw [yres1 h, hp]
  have := run_loadVar_mid (P := Tryz.prog) w b 0 t cs d (range_of_block hat [] cs [] (by simp)) hu hd hi
  simp [asAddr, this]

/-! ### the parts of a record -/
theorem oIntT_any (g nr na : Nat) (s : Ps) (W0 W : World) (h : Tk W0 g nr na s.a s.l W) (hl : s.l.length ≤ 1048576) :
    Calls Tryz.prog 98 #[tkV nr na] W fun e W' => e = .returned (takV .I s).toCell ∧ Tk W0 g nr na (takS .I s).a (takS .I s).l W' ∧ Kt g na W W' := jInt_any g nr na s.a s.l W0 W h hl
theorem oErrnoT_any (g nr na : Nat) (s : Ps) (W0 W : World) (h : Tk W0 g nr na s.a s.l W) (hl : s.l.length ≤ 1048576) :
    Calls Tryz.prog 110 #[tkV nr na] W fun e W' => e = .returned (takV .I s).toCell ∧ Tk W0 g nr na (takS .I s).a (takS .I s).l W' ∧ Kt g na W W' := jErrno_any g nr na s.a s.l W0 W h hl
theorem oUintT_any (g nr na : Nat) (s : Ps) (W0 W : World) (h : Tk W0 g nr na s.a s.l W) (hl : s.l.length ≤ 1048576) :
    Calls Tryz.prog 99 #[tkV nr na] W fun e W' => e = .returned (takV .U s).toCell ∧ Tk W0 g nr na (takS .U s).a (takS .U s).l W' ∧ Kt g na W W' := jUint_any g nr na s.a s.l W0 W h hl
theorem oBoolT_any (g nr na : Nat) (s : Ps) (W0 W : World) (h : Tk W0 g nr na s.a s.l W) (hl : s.l.length ≤ 1048576) :
    Calls Tryz.prog 100 #[tkV nr na] W fun e W' => e = .returned (takV .B s).toCell ∧ Tk W0 g nr na (takS .B s).a (takS .B s).l W' ∧ Kt g na W W' := jBoolT_any g nr na s.a s.l W0 W h hl
theorem oTextT_any (g nr na : Nat) (s : Ps) (W0 W : World) (h : Tk W0 g nr na s.a s.l W) (hl : s.l.length ≤ 1048576) :
    Calls Tryz.prog 128 #[.pointer (some ⟨nr, 0, none⟩), .pointer (some ⟨na, 0, none⟩)] W fun e W' => e = .returned (takV .S s).toCell ∧ Tk W0 g nr na (takS .S s).a (takS .S s).l W' ∧ Kt g na W W' := jText_any g nr na s.a s.l W0 W h hl
set_option maxHeartbeats 2000000 in
theorem oSignT_any (g nr na : Nat) (s : Ps) (W0 W : World) (h : Tk W0 g nr na s.a s.l W) (hl : s.l.length ≤ 1048576) :
    Calls Tryz.prog 133 #[tkV nr na] W fun e W' => e = .returned (takV .G s).toCell ∧ Tk W0 g nr na (takS .G s).a (takS .G s).l W' ∧ Kt g na W W' := by
  have hx := nX_le s.a 2147483647 s.l
  obtain ⟨x, hX⟩ : ∃ x, x = nX s.a 2147483647 s.l := ⟨_, rfl⟩
  have hz : zag x = if x % 2 = 1 then -((x / 2 : Nat) : Int) - 1 else ((x / 2 : Nat) : Int) := rfl
  have hv : (takV .G s).toCell = .int .i64 (zag x) := by rw [hX]; rfl
  obtain ⟨z, hzz⟩ : ∃ z, z = zag x := ⟨_, rfl⟩
  rw [hv, ← hzz]
  rw [← hX] at hx
  have HX : Hid _ := hX
  have HZ : Hid _ := hzz.trans hz
  clear hX hv hz hzz
  go_enter Tryz.func133, Tryz.ntmps133
  go_wp2_with fail
  refine (oIntT_any g nr na s W0 _ (h.step ((Below.refl _ _).alloc (Nat.le_refl _) _)) hl).mono ?_
  rintro e w1 ⟨rfl, h1, k1⟩
  rw [show (takV .I s).toCell = .int .i64 (x : Int) from by rw [HX.out]; rfl]
  have hk := (Kt.below (g := g) (na := na) ((Below.refl W.heap.size W).alloc (Nat.le_refl _) (.cells #[tk1 nr na, tk2 nr na, tk3 nr na] 108))).trans k1
  clear HX k1 h
  by_cases hm : x % 2 = 1
  · obtain rfl : z = -((x / 2 : Nat) : Int) - 1 := by rw [HZ.out, if_pos hm]
    have hd : ((x : Int) % 2 == 1) = true := beq_iff_eq.2 (by omega)
    clear HZ
    have HM : Hid _ := hm
    have HX : Hid _ := hx
    clear hm hx
    go_wp2
    go_ret
    exact ⟨congrArg (fun n => Ending.returned (.int .i64 n)) (by have := HM.out; have := HX.out; unfold wrap64; omega), h1, hk⟩
  · obtain rfl : z = ((x / 2 : Nat) : Int) := by rw [HZ.out, if_neg hm]
    have hd : ((x : Int) % 2 == 1) = false := beq_eq_false_iff_ne.2 (by omega)
    clear HZ
    have HM : Hid _ := hm
    have HX : Hid _ := hx
    clear hm hx
    go_wp2
    go_ret
    exact ⟨congrArg (fun n => Ending.returned (.int .i64 n)) (by have := HM.out; have := HX.out; unfold wrap64; omega), h1, hk⟩

end Go.Proofs.YtbdbefgfejdbjaaGreat

namespace Go.Proofs.YtbdbefgfejdbjaaGreat
open Go.RowKit Go.BigFrame
attribute [local go_sem] size_bstr toList_bstr

/-- An operation. -/
structure Oq where
  kind : Int
  row : List UInt8
  col : List UInt8
  val : List UInt8
  has : Bool
  exp : List UInt8
  deriving DecidableEq
abbrev oqV (o : Oq) : Value := .agg #[.int .i64 o.kind, .string (bstr o.row), .string (bstr o.col), .string (bstr o.val), .bool o.has, .string (bstr o.exp)]
def oqC (o : Oq) : Array Value := #[.int .i64 o.kind, .string (bstr o.row), .string (bstr o.col), .string (bstr o.val), .bool o.has, .string (bstr o.exp)]
/-- Of an operation what its kind may have. -/
def mayQ (o : Oq) : Oq :=
  if o.kind = 2 ∨ o.kind = 3 ∨ o.kind = 5 then ⟨o.kind, o.row, o.col, [], false, []⟩
  else if o.kind = 1 then ⟨o.kind, o.row, o.col, o.val, false, []⟩
  else ⟨o.kind, o.row, o.col, o.val, o.has, if o.has then o.exp else []⟩
/-- May it be? -/
def mayO (o : Oq) : Bool :=
  decide (1 ≤ o.kind ∧ o.kind ≤ 5 ∧ o = mayQ o ∧ (if o.kind = 5 then o.row.length ≤ 32 else 1 ≤ o.row.length ∧ o.row.length ≤ 24) ∧ 1 ≤ o.col.length ∧ o.col.length ≤ 16 ∧ o.val.length ≤ 256 ∧ o.exp.length ≤ 256)

def userB (k : List UInt8) : Bool := decide (1 ≤ k.length) && decide (k.length ≤ 24)
def storedB (k : List UInt8) : Bool := decide (k.length ≤ 32)

set_option maxHeartbeats 1000000 in
theorem User_any (k : List UInt8) (w : World) :
    Calls Tryz.prog 33 #[.string (bstr k)] w fun e w' => e = .returned (.bool (userB k)) ∧ Below w.heap.size w w' := by
  have hB : Below w.heap.size w w := Below.refl _ _
  by_cases h : k = []
  · subst h
    go_enter Tryz.func33, Tryz.ntmps33
    go_wp2
    go_ret
    exact ⟨rfl, hB⟩
  · have g : (k == ([] : List UInt8)) = false := by simpa using h
    have hp : 1 ≤ k.length := by cases k <;> simp_all
    have hu : userB k = decide ((k.length : Int) ≤ 24) := by simp [userB, hp]; omega
    rw [hu]
    go_enter Tryz.func33, Tryz.ntmps33
    go_wp2
    go_ret
    exact ⟨rfl, hB⟩

set_option maxHeartbeats 1000000 in
theorem Stored_any (k : List UInt8) (w : World) :
    Calls Tryz.prog 35 #[.string (bstr k)] w fun e w' => e = .returned (.bool (storedB k)) ∧ Below w.heap.size w w' := by
  have hB : Below w.heap.size w w := Below.refl _ _
  have hu : storedB k = decide ((k.length : Int) ≤ 32) := by simp [storedB]; omega
  rw [hu]
  go_enter Tryz.func35, Tryz.ntmps35
  go_wp2
  go_ret
  exact ⟨rfl, hB⟩

set_option maxHeartbeats 1000000 in
theorem isCol_any (s : List UInt8) (w : World) : Calls Tryz.prog 111 #[.string (bstr s)] w fun e w' => e = .returned (.bool (decide (1 ≤ s.length ∧ s.length ≤ 16))) ∧ w' = w := by
  rcases s with _ | ⟨x, t⟩
  · go_enter Tryz.func111, Tryz.ntmps111
    go_wp2
    go_ret
    exact ⟨rfl, rfl⟩
  · have e : decide (1 ≤ (x :: t).length ∧ (x :: t).length ≤ 16) = decide (((x :: t).length : Int) ≤ 16) := by rw [decide_eq_decide]; simp only [List.length_cons]; omega
    rw [e]
    obtain ⟨s, hs⟩ : ∃ s, s = x :: t := ⟨_, rfl⟩
    have hne : ¬ s = [] := by rw [hs]; simp
    rw [← hs]
    clear hs e
    go_enter Tryz.func111, Tryz.ntmps111
    go_wp2
    go_ret
    exact ⟨by simp [hne], rfl⟩

set_option maxHeartbeats 1000000 in
theorem isValue_any (s : List UInt8) (w : World) : Calls Tryz.prog 112 #[.string (bstr s)] w fun e w' => e = .returned (.bool (decide (s.length ≤ 256))) ∧ w' = w := by
  have e : decide (s.length ≤ 256) = decide ((s.length : Int) ≤ 256) := by rw [decide_eq_decide]; omega
  rw [e]
  clear e
  go_enter Tryz.func112, Tryz.ntmps112
  go_wp2
  go_ret
  exact ⟨rfl, rfl⟩

def eqO (a b : Oq) : Bool := decide (a.kind = b.kind) && a.row == b.row && a.col == b.col && a.val == b.val && a.has == b.has && a.exp == b.exp
theorem eqO_iff {a b : Oq} : eqO a b = true ↔ a = b := by
  cases a
  cases b
  simp [eqO, and_assoc]
theorem eqO_dec (a b : Oq) : eqO a b = decide (a = b) := by
  by_cases h : a = b
  · rw [decide_eq_true h]; exact eqO_iff.2 h
  · rw [decide_eq_false h]
    cases hx : eqO a b with
    | false => rfl
    | true => exact absurd (eqO_iff.1 hx) h
theorem eqFields_op (a b : Oq) (w : World) : (Op.equalIn 10000 24 (oqV a) (oqV b)).run Tryz.prog w = .ok (eqO a b) w := by
  have hS : Tryz.prog.underlying 24 = some (.struct (Tryz.prog.fieldsOf 24)) := by kernel_rfl
  have hp : Tryz.prog.stoodInHeld 24 = false := by kernel_rfl
  have u := Tryz.underlying9
  have ag := Tryz.isAgg9
  have sz := Tryz.sizeOf9
  have u2 := Tryz.underlying3
  have ag2 := Tryz.isAgg3
  have sz2 := Tryz.sizeOf3
  have u3 := Tryz.underlying4
  have ag3 := Tryz.isAgg4
  have sz3 := Tryz.sizeOf4
  rw [show (10000 : Nat) = 9999 + 1 from rfl, run_equalIn_agg w 9999 24 _ _ hS hp]
  simp only [Program.fieldsOf, Tryz.underlying24]
  go_simp
  obtain ⟨r, c, v, g, x, y⟩ := a
  obtain ⟨r', c', v', g', x', y'⟩ := b
  simp only [eqO]
  by_cases h1 : r = r' <;> by_cases h2 : c = c' <;> by_cases h3 : v = v' <;> by_cases h4 : g = g' <;> by_cases h5 : x = x' <;> by_cases h6 : y = y' <;> simp [h1, h2, h3, h4, h5, h6]
theorem op_eql (k : Int) (r c v : List UInt8) (h : Bool) (x : List UInt8) (k' : Int) (r' c' v' : List UInt8) (h' : Bool) (x' : List UInt8) (w : World) : (binOp .eql 24 (.agg #[.int .i64 k, .string (bstr r), .string (bstr c), .string (bstr v), .bool h, .string (bstr x)]) (.agg #[.int .i64 k', .string (bstr r'), .string (bstr c'), .string (bstr v'), .bool h', .string (bstr x')])).run Tryz.prog w = .ok (.bool (eqO ⟨k, r, c, v, h, x⟩ ⟨k', r', c', v', h', x'⟩)) w := by
  have := eqFields_op ⟨k, r, c, v, h, x⟩ ⟨k', r', c', v', h', x'⟩ w
  rw [run_eql_struct, this]
  rfl
theorem op_neq (k : Int) (r c v : List UInt8) (h : Bool) (x : List UInt8) (k' : Int) (r' c' v' : List UInt8) (h' : Bool) (x' : List UInt8) (w : World) : (binOp .neq 24 (.agg #[.int .i64 k, .string (bstr r), .string (bstr c), .string (bstr v), .bool h, .string (bstr x)]) (.agg #[.int .i64 k', .string (bstr r'), .string (bstr c'), .string (bstr v'), .bool h', .string (bstr x')])).run Tryz.prog w = .ok (.bool (!eqO ⟨k, r, c, v, h, x⟩ ⟨k', r', c', v', h', x'⟩)) w := by
  have := eqFields_op ⟨k, r, c, v, h, x⟩ ⟨k', r', c', v', h', x'⟩ w
  rw [run_neq_struct, this]
  rfl
theorem op_guard (op : BinOp) (x y : Operand) (xs ys : Array Value) (w : World) : (eqGuard op 24 x y (.agg xs) (.agg ys)).run Tryz.prog w = .ok () w :=
  run_eqGuard_agg w op _ x y xs ys (by kernel_rfl)
/-- An operation lies there. -/
def OqB (w : World) (b : Nat) (o : Oq) : Prop := w.heap[b]? = some (.cells (oqC o) 24 (0, 0))
theorem OqB.facts {w : World} {b : Nat} {o : Oq} (h : OqB w b o) : w.cell? ⟨b, 0, none⟩ = some (.int .i64 o.kind) ∧ w.cell? ⟨b, 1, none⟩ = some (.string (bstr o.row)) ∧ w.cell? ⟨b, 2, none⟩ = some (.string (bstr o.col)) ∧ w.cell? ⟨b, 3, none⟩ = some (.string (bstr o.val)) ∧ w.cell? ⟨b, 4, none⟩ = some (.bool o.has) ∧ w.cell? ⟨b, 5, none⟩ = some (.string (bstr o.exp)) :=
  ⟨(mcells h).1 0, (mcells h).1 1, (mcells h).1 2, (mcells h).1 3, (mcells h).1 4, (mcells h).1 5⟩

theorem mayO_eq (o : Oq) (h1 : 1 ≤ o.kind) (h5 : o.kind ≤ 5) : mayO o = (eqO o (mayQ o) && (if o.kind = 5 then storedB o.row else userB o.row) && decide (1 ≤ o.col.length ∧ o.col.length ≤ 16) && decide (o.val.length ≤ 256) && decide (o.exp.length ≤ 256)) := by
  rw [eqO_dec, Bool.eq_iff_iff]
  unfold mayO storedB userB
  by_cases hk : o.kind = 5
  · simp only [if_pos hk, Bool.and_eq_true, decide_eq_true_eq]
    constructor
    · rintro ⟨_, _, a, b, c, d, e, f⟩; exact ⟨⟨⟨⟨a, b⟩, c, d⟩, e⟩, f⟩
    · rintro ⟨⟨⟨⟨a, b⟩, c, d⟩, e⟩, f⟩; exact ⟨h1, h5, a, b, c, d, e, f⟩
  · simp only [if_neg hk, Bool.and_eq_true, decide_eq_true_eq]
    constructor
    · rintro ⟨_, _, a, b, c, d, e, f⟩; exact ⟨⟨⟨⟨a, b⟩, c, d⟩, e⟩, f⟩
    · rintro ⟨⟨⟨⟨a, b⟩, c, d⟩, e⟩, f⟩; exact ⟨h1, h5, a, b, c, d, e, f⟩

set_option maxHeartbeats 8000000 in
set_option maxRecDepth 100000 in
theorem YCheck_any (o : Oq) (w : World) : Calls Tryz.prog 73 #[oqV o] w fun e w' => e = .returned (.int .i64 (if mayO o then 0 else 2)) ∧ Below w.heap.size w w' := by
  obtain ⟨mb, hmb⟩ : ∃ mb, mb = mayO o := ⟨_, rfl⟩
  rw [← hmb]
  obtain ⟨k, r, c, v, h, x⟩ := o
  have HMB : Hid _ := hmb
  clear hmb
  obtain ⟨w1, hw1⟩ : ∃ w1, w1 = (w.alloc (.cells (oqC ⟨k, r, c, v, h, x⟩) 24)).alloc (.cells (oqC ⟨k, r, c, [], false, []⟩) 24) := ⟨_, rfl⟩
  have hb1 : Below w.heap.size w w1 := by rw [hw1]; exact ((Below.refl _ _).alloc (Nat.le_refl _) _).alloc (by simp) _
  have x1 : OqB w1 w.heap.size ⟨k, r, c, v, h, x⟩ := by rw [hw1]; exact (Below.heap_alloc _ _ _ (by simp)).trans (heap_alloc_new w _)
  have x2 : OqB w1 (w.heap.size + 1) ⟨k, r, c, [], false, []⟩ := by
    have h := heap_alloc_new (w.alloc (.cells (oqC ⟨k, r, c, v, h, x⟩) 24)) (.cells (oqC ⟨k, r, c, [], false, []⟩) 24)
    rw [World.size_alloc] at h
    rw [hw1]
    exact h
  have HW1 : Hid _ := hw1
  clear hw1
  obtain ⟨c0, c1, c2, c3, c4, c5⟩ := x1.facts
  obtain ⟨d0, d1, d2, d3, d4, d5⟩ := x2.facts
  simp only at c0 c1 c2 c3 c4 c5 d0 d1 d2 d3 d4 d5
  have hq := op_neq
  have hg := op_guard
  go_enter Tryz.func73, Tryz.ntmps73
  go_upto_block 0 with fail
  rw [show #[.int .i64 k, .string (bstr r), .string (bstr c), .string (bstr v), .bool h, .string (bstr x)] = oqC ⟨k, r, c, v, h, x⟩ from rfl, show #[.int .i64 k, .string (bstr r), .string (bstr c), .string ⟨#[]⟩, .bool false, .string ⟨#[]⟩] = oqC ⟨k, r, c, [], false, []⟩ from rfl, ← HW1.out]
  have f3 := (mcells x2).2
  go_cut [4] from 14 (fun s4 wx => 1 ≤ k ∧ k ≤ 5 ∧ s4 = .func (.func (if k = 5 then 35 else 33)) #[] #[] ∧ OqB wx w.heap.size ⟨k, r, c, v, h, x⟩ ∧ OqB wx (w.heap.size + 1) (mayQ ⟨k, r, c, v, h, x⟩) ∧ Below w.heap.size w wx)
  case first =>
    by_cases k2 : k = 2
    · subst k2
      go_wp2
      go_meet
      case rel => exact ⟨by omega, by omega, rfl, x1, x2, hb1⟩
    by_cases k3 : k = 3
    · subst k3
      go_wp2
      go_meet
      case rel => exact ⟨by omega, by omega, rfl, x1, x2, hb1⟩
    by_cases k1 : k = 1
    · subst k1
      have HS : Hid _ := heap_set_same x2 (o := 3) (.string (bstr v))
      have HX : Hid _ := (heap_set_other (w := w1) (b := w.heap.size + 1) (o := 3) (i := w.heap.size) (.string (bstr v)) (by omega)).trans x1
      have HB : Hid _ := hb1.setCell (p := ⟨w.heap.size + 1, 3, none⟩) (Nat.le_succ _) (.string (bstr v))
      go_wp2
      go_meet
      case rel => exact ⟨by omega, by omega, rfl, HX.out, HS.out, HB.out⟩
    by_cases k5 : k = 5
    · subst k5
      go_wp2
      go_meet
      case rel => exact ⟨by omega, by omega, rfl, x1, x2, hb1⟩
    by_cases k4 : k = 4
    · subst k4
      go_wp2_with fail
      go_region
      obtain ⟨W2, hW2⟩ : ∃ W2, W2 = ((w1.setCell ⟨w.heap.size + 1, 3, none⟩ (.string (bstr v))).setCell ⟨w.heap.size + 1, 4, none⟩ (.bool h)).drew := ⟨_, rfl⟩
      have y2 : OqB W2 (w.heap.size + 1) ⟨4, r, c, v, h, []⟩ := by rw [hW2]; exact heap_set_same (heap_set_same x2 (o := 3) (.string (bstr v))) (o := 4) (.bool h)
      have y1 : OqB W2 w.heap.size ⟨4, r, c, v, h, x⟩ := by rw [hW2]; exact ((heap_set_other _ (by omega)).trans (heap_set_other _ (by omega))).trans x1
      have yb : Below w.heap.size w W2 := by rw [hW2]; exact ((hb1.setCell (p := ⟨w.heap.size + 1, 3, none⟩) (Nat.le_succ _) _).setCell (p := ⟨w.heap.size + 1, 4, none⟩) (Nat.le_succ _) _).drew
      rw [← hW2]
      clear hW2 x1 x2 hb1 c0 c1 c2 c3 c4 c5 d0 d1 d2 d3 d4 d5 f3
      obtain ⟨c0, c1, c2, c3, c4, c5⟩ := y1.facts
      obtain ⟨d0, d1, d2, d3, d4, d5⟩ := y2.facts
      simp only at c0 c1 c2 c3 c4 c5 d0 d1 d2 d3 d4 d5
      have f3 := (mcells y2).2
      cases h with
      | false =>
        go_wp2
        go_meet
        case rel => exact ⟨by omega, by omega, rfl, y1, y2, yb⟩
      | true =>
        have HS : Hid _ := heap_set_same y2 (o := 5) (.string (bstr x))
        have HX : Hid _ := (heap_set_other (w := W2) (b := w.heap.size + 1) (o := 5) (i := w.heap.size) (.string (bstr x)) (by omega)).trans y1
        have HB : Hid _ := yb.setCell (p := ⟨w.heap.size + 1, 5, none⟩) (Nat.le_succ _) (.string (bstr x))
        go_wp2
        go_meet
        case rel => exact ⟨by omega, by omega, rfl, HX.out, HS.out, HB.out⟩
    · have hm : mb = false := by
        rw [HMB.out]
        unfold mayO
        rw [decide_eq_false]
        simp only
        omega
      subst hm
      go_wp2
      all_goals (go_ret; exact ⟨rfl, hb1⟩)
  case rest =>
    obtain ⟨hk1, hk5, rfl, y1, y2, yb⟩ := hcut
    clear x1 x2 hb1 c0 c1 c2 c3 c4 c5 d0 d1 d2 d3 d4 d5 f3 HW1
    have hmay := HMB.out.trans (mayO_eq ⟨k, r, c, v, h, x⟩ hk1 hk5)
    obtain ⟨m, hm⟩ : ∃ m, m = mayQ ⟨k, r, c, v, h, x⟩ := ⟨_, rfl⟩
    rw [← hm] at hmay y2
    clear hm HMB
    obtain ⟨k', r', c', v', h', x'⟩ := m
    have hrow : ∀ W : World, Calls Tryz.prog (if k = 5 then 35 else 33) #[.string (bstr r)] W fun e w' => e = .returned (.bool (if k = 5 then storedB r else userB r)) ∧ Below W.heap.size W w' := fun W => by
      by_cases h5 : k = 5
      · rw [if_pos h5, if_pos h5]; exact Stored_any r W
      · rw [if_neg h5, if_neg h5]; exact User_any r W
    have hcol := isCol_any c
    have hval := isValue_any v
    have hexp := isValue_any x
    obtain ⟨c0, c1, c2, c3, c4, c5⟩ := y1.facts
    obtain ⟨d0, d1, d2, d3, d4, d5⟩ := y2.facts
    simp only at c0 c1 c2 c3 c4 c5 d0 d1 d2 d3 d4 d5
    simp only at hmay
    have hqq : ∀ W, (binOp .neq 24 (.agg #[.int .i64 k, .string (bstr r), .string (bstr c), .string (bstr v), .bool h, .string (bstr x)]) (.agg #[.int .i64 k', .string (bstr r'), .string (bstr c'), .string (bstr v'), .bool h', .string (bstr x')])).run Tryz.prog W = .ok (.bool (!eqO ⟨k, r, c, v, h, x⟩ ⟨k', r', c', v', h', x'⟩)) W := fun W => op_neq _ _ _ _ _ _ _ _ _ _ _ _ W
    clear hq
    generalize eqO ⟨k, r, c, v, h, x⟩ ⟨k', r', c', v', h', x'⟩ = eb at *
    generalize (if k = 5 then storedB r else userB r) = rb at *
    generalize decide (1 ≤ c.length ∧ c.length ≤ 16) = cb at *
    generalize decide (v.length ≤ 256) = vb at *
    generalize decide (x.length ≤ 256) = xb at *
    have HM : Hid _ := hmay
    clear hmay hk1 hk5
    cases eb with
    | false =>
      have hm : mb = false := by rw [HM.out]; rfl
      subst hm
      go_wp2
      all_goals (go_ret; exact ⟨rfl, yb⟩)
    | true =>
      by_cases h5 : k = 5
      · subst h5
        rw [if_pos rfl] at hrow
        rw [if_pos rfl]
        go_wp2_with fail
        refine (hrow wc).mono ?_
        rintro e wd ⟨rfl, hbd⟩
        have yd := (hbd.block _ (blk_lt y1)).trans y1
        have ybd := below2 yb hbd
        clear c0 c1 c2 c3 c4 c5 d0 d1 d2 d3 d4 d5 hrow hqq
        obtain ⟨c0, c1, c2, c3, c4, c5⟩ := OqB.facts (o := ⟨5, r, c, v, h, x⟩) yd
        simp only at c0 c1 c2 c3 c4 c5
        clear y1 y2 hbd yb yd
        cases rb with
        | false =>
          obtain rfl : mb = false := by rw [HM.out]; rfl
          go_wp2
          go_ret
          exact ⟨rfl, ybd⟩
        | true =>
          go_wp2_with fail
          refine (hcol wd).mono ?_
          rintro e we ⟨rfl, rfl⟩
          cases cb with
          | false =>
            obtain rfl : mb = false := by rw [HM.out]; rfl
            go_wp2
            go_ret
            exact ⟨rfl, ybd⟩
          | true =>
            go_wp2_with fail
            refine (hval we).mono ?_
            rintro e wg ⟨rfl, rfl⟩
            cases vb with
            | false =>
              obtain rfl : mb = false := by rw [HM.out]; rfl
              go_wp2
              go_ret
              exact ⟨rfl, ybd⟩
            | true =>
              go_wp2_with fail
              refine (hexp wg).mono ?_
              rintro e wh ⟨rfl, rfl⟩
              cases xb with
              | false =>
                obtain rfl : mb = false := by rw [HM.out]; rfl
                go_wp2
                go_ret
                exact ⟨rfl, ybd⟩
              | true =>
                obtain rfl : mb = true := by rw [HM.out]; rfl
                go_wp2
                go_ret
                exact ⟨rfl, ybd⟩
      · rw [if_neg h5] at hrow
        rw [if_neg h5]
        go_wp2_with fail
        refine (hrow wc).mono ?_
        rintro e wd ⟨rfl, hbd⟩
        have yd := (hbd.block _ (blk_lt y1)).trans y1
        have ybd := below2 yb hbd
        clear c0 c1 c2 c3 c4 c5 d0 d1 d2 d3 d4 d5 hrow hqq
        obtain ⟨c0, c1, c2, c3, c4, c5⟩ := OqB.facts (o := ⟨k, r, c, v, h, x⟩) yd
        simp only at c0 c1 c2 c3 c4 c5
        clear y1 y2 hbd yb yd
        cases rb with
        | false =>
          obtain rfl : mb = false := by rw [HM.out]; rfl
          go_wp2
          go_ret
          exact ⟨rfl, ybd⟩
        | true =>
          go_wp2_with fail
          refine (hcol wd).mono ?_
          rintro e we ⟨rfl, rfl⟩
          cases cb with
          | false =>
            obtain rfl : mb = false := by rw [HM.out]; rfl
            go_wp2
            go_ret
            exact ⟨rfl, ybd⟩
          | true =>
            go_wp2_with fail
            refine (hval we).mono ?_
            rintro e wg ⟨rfl, rfl⟩
            cases vb with
            | false =>
              obtain rfl : mb = false := by rw [HM.out]; rfl
              go_wp2
              go_ret
              exact ⟨rfl, ybd⟩
            | true =>
              go_wp2_with fail
              refine (hexp wg).mono ?_
              rintro e wh ⟨rfl, rfl⟩
              cases xb with
              | false =>
                obtain rfl : mb = false := by rw [HM.out]; rfl
                go_wp2
                go_ret
                exact ⟨rfl, ybd⟩
              | true =>
                obtain rfl : mb = true := by rw [HM.out]; rfl
                go_wp2
                go_ret
                exact ⟨rfl, ybd⟩


end Go.Proofs.YtbdbefgfejdbjaaGreat
