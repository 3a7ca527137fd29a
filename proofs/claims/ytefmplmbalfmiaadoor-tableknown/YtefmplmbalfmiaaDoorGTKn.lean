/-
  '==' of two cells.
  The law's 'works'.
  TableKnown, walked.
-/
import Derived.Test.YtefmplmbalfmiaaDoorGEOpen
import Derived.Test.YtefmplmbalfmiaaDoorGTGetM
import Derived.Test.YtefmplmbalfmiaaDoorGTFr1
import Derived.Test.YtefmplmbalfmiaaDoorGTKnM
import Derived.BigRegion
namespace Go.Proofs.YtefmplmbalfmiaaDoor
open Go.RowKit Go.BigFrame Go.Sort
attribute [local go_sem] size_bstr toList_bstr ls_def
theorem cell_eql5 (r k : List UInt8) (v : Int) (z : Bool) (x r' k' : List UInt8) (v' : Int) (z' : Bool) (x' : List UInt8) (w : World) : (binOp .eql 31 (.agg #[.string (bstr r), .string (bstr k), .int .u64 v, .bool z, .string (bstr x)]) (.agg #[.string (bstr r'), .string (bstr k'), .int .u64 v', .bool z', .string (bstr x')])).run Tryd.prog w = .ok (.bool (eqC ⟨r, k, v, z, x⟩ ⟨r', k', v', z', x'⟩)) w := cell_eql ⟨r, k, v, z, x⟩ ⟨r', k', v', z', x'⟩ w
theorem cell_neq5 (r k : List UInt8) (v : Int) (z : Bool) (x r' k' : List UInt8) (v' : Int) (z' : Bool) (x' : List UInt8) (w : World) : (binOp .neq 31 (.agg #[.string (bstr r), .string (bstr k), .int .u64 v, .bool z, .string (bstr x)]) (.agg #[.string (bstr r'), .string (bstr k'), .int .u64 v', .bool z', .string (bstr x')])).run Tryd.prog w = .ok (.bool (!eqC ⟨r, k, v, z, x⟩ ⟨r', k', v', z', x'⟩)) w := cell_neq ⟨r, k, v, z, x⟩ ⟨r', k', v', z', x'⟩ w
theorem CRow.lit (W : World) (cs : List Cl) (t : TypeId) : CRow (W.alloc (.cells (ccells cs).toArray t)) W.heap.size 0 cs := by
  refine CRow.of_cells fun j u hj => ?_
  rw [Addr.add_lit, Nat.zero_add, World.cell?_alloc_at _ t W.heap.size j rfl]
  simpa using hj
def xc (r : List UInt8) (v : Int) (z : Bool) : Cl := ⟨r, [120], v, z, []⟩
def wk3 : List Cl := [xc [97] 2 false, xc [97] 1 false, xc [98] 1 false]

end Go.Proofs.YtefmplmbalfmiaaDoor

namespace Go.Proofs.YtefmplmbalfmiaaDoor
open Go.RowKit
attribute [local go_sem] size_bstr toList_bstr

theorem flt_long {Bs : List (List Cl)} (hR : Room Bs) : (flt Bs).length ≤ 1048576 := by
  unfold flt
  rw [Bl.mkF_length]
  have := Bl.szz_le (b := 10) (n := (names Bs.flatten).length) (by decide) hR.n
  omega
abbrev w1C : Cl := ⟨[97], [120], 2, false, []⟩
abbrev w2C : Cl := ⟨[97], [120], 1, false, []⟩
abbrev w3C : Cl := ⟨[98], [120], 1, false, []⟩
def cs11 : List Cl := [w1C, w2C, w3C]
def Bs11 : List (List Cl) := [[w1C], [w2C], [w3C]]
theorem chk11 : chkE cs11 1 = 0 := by decide +kernel
theorem cut11 : cutB cs11 (1 : Int).toNat = Bs11 := by kernel_rfl
theorem room11 : Room Bs11 := ⟨by decide +kernel, by decide +kernel, by decide +kernel⟩
theorem gb11 : GB Bs11 := by
  have h := chk_iff.1 chk11
  rw [← cut11]
  exact (cutB_gb (by decide) h.2.1 h.2.2).1
theorem wri11 : wriT cs11 1 = layT Bs11 := by unfold wriT; rw [if_pos chk11, cut11]
theorem len11 : (layT Bs11).length ≤ 1000000 := by
  have h1 := room11.i
  have h2 := flt_long room11
  have h3 : (frs Bs11).length ≤ 1000 := by decide +kernel
  have h4 : (idx Bs11).length ≤ 1000 := by decide +kernel
  have h5 : (flt Bs11).length ≤ 1000 := by decide +kernel
  unfold layT
  simp only [List.length_append, frm_length, be8_length]
  omega
theorem fndA : fnd [97] [120] Bs11.flatten = some w1C := rfl
theorem fndB : fnd [97] [121] Bs11.flatten = none := rfl

set_option maxHeartbeats 4000000 in
set_option maxRecDepth 100000 in
theorem works11_any (w : World) (ht : Tabs w) : Calls Tryd.prog 11 #[] w fun e w' => e = .returned (.bool true) ∧ Below w.heap.size w w' := by
  have hopB := opB_lay room11 gb11
  have hlen := len11
  have hop : ∀ W, Below w.heap.size w W → Calls Tryd.prog 5 #[.string (bstr (layT Bs11))] W fun e w' => Below W.heap.size W w' ∧ ∃ tb vb vl, e = .returned (.tuple #[.pointer (some ⟨tb, 0, none⟩), .int .i64 0]) ∧ TB w' tb vb vl Bs11 := fun W hb => by
    refine (Open_any (layT Bs11) W (by omega) (ht.below hb) (by rw [hopB]; exact room11)).mono ?_
    rintro e w' ⟨hb1, ⟨_, tb, vb, vl, h2, h3⟩ | ⟨h2, _⟩⟩
    · rw [hopB] at h3
      exact ⟨hb1, tb, vb, vl, h2, h3⟩
    · rw [hopB] at h2
      exact absurd rfl h2
  have hget : ∀ (tb : Nat) (vb vl : Value) (W : World), TB W tb vb vl Bs11 → Calls Tryd.prog 10 #[.pointer (some ⟨tb, 0, none⟩), .string (bstr [97]), .string (bstr [120])] W fun e w' => e = .returned (.tuple #[clV w1C, .bool true]) ∧ Below W.heap.size W w' := fun tb vb vl W h => by
    refine (Get_any tb vb vl Bs11 [97] [120] W h gb11 (by decide) (by have := flt_long room11; omega) (by decide)).mono ?_
    rintro e w' ⟨o, rfl, hO, hb⟩
    rw [get_math gb11 hO, fndA]
    exact ⟨rfl, hb⟩
  have hget2 : ∀ (tb : Nat) (vb vl : Value) (W : World), TB W tb vb vl Bs11 → Calls Tryd.prog 10 #[.pointer (some ⟨tb, 0, none⟩), .string (bstr [97]), .string (bstr [121])] W fun e w' => e = .returned (.tuple #[clV (optC none), .bool false]) ∧ Below W.heap.size W w' := fun tb vb vl W h => by
    refine (Get_any tb vb vl Bs11 [97] [121] W h gb11 (by decide) (by have := flt_long room11; omega) (by decide)).mono ?_
    rintro e w' ⟨o, rfl, hO, hb⟩
    rw [get_math gb11 hO, fndB]
    exact ⟨rfl, hb⟩
  obtain ⟨W0, hW0⟩ : ∃ W0, W0 = w.alloc (.cells (ccells cs11).toArray 31) := ⟨_, rfl⟩
  have hb0 : Below w.heap.size w W0 := by rw [hW0]; exact (Below.refl _ _).alloc (Nat.le_refl _) _
  have hcr : CRow W0 w.heap.size 0 cs11 := by rw [hW0]; exact CRow.lit w cs11 _
  have hcb : CBlk W0 w.heap.size := by rw [hW0]; exact ⟨_, _, heap_alloc_new w _⟩
  have hwr := TWrite_any (some ⟨w.heap.size, 0, none⟩) w.heap.size 0 3 cs11 1 W0 (fun _ => ⟨rfl, hcr, hcb⟩) (by decide) (by decide) (ht.below hb0) (fun _ => by rw [cut11]; exact room11)
  rw [wri11, chk11] at hwr
  go_enter Tryd.func11, Tryd.ntmps11
  go_wp2_with fail
  rw [hW0] at hwr hb0
  refine hwr.mono ?_
  rintro e W1 ⟨rfl, hb1⟩
  have hB1 := below2 hb0 hb1
  clear hwr hcr hcb hb0 hb1 hW0
  go_wp2_with fail
  refine (hop W1 hB1).mono ?_
  rintro e W2 ⟨hb2, tb, vb, vl, rfl, hT2⟩
  have hB2 := below2 hB1 hb2
  clear hop hb2 hB1
  go_wp2_with fail
  refine (hget tb vb vl W2 hT2).mono ?_
  rintro e W3 ⟨rfl, hb3⟩
  have hT3 := hT2.below hb3
  have hB3 := below2 hB2 hb3
  clear hget hb3 hB2 hT2
  have hN := CellAt.new W3 31 [97] [120] 2 false []
  have hb4 : Below W3.heap.size W3 (W3.alloc (.cells #[.string (bstr [97]), .string (bstr [120]), .int .u64 2, .bool false, .string (bstr [])] 31)) := (Below.refl _ _).alloc (Nat.le_refl _) _
  have hl4 : W3.heap.size < (W3.alloc (.cells #[.string (bstr [97]), .string (bstr [120]), .int .u64 2, .bool false, .string (bstr [])] 31)).heap.size := by simp
  go_wp2_with fail
  generalize W3.alloc (.cells #[.string (bstr [97]), .string (bstr [120]), .int .u64 2, .bool false, .string (bstr [])] 31) = W4 at *
  have hT4 := hT3.below hb4
  have hB4 := below2 hB3 hb4
  refine (hget2 tb vb vl W4 hT4).mono ?_
  rintro e W5 ⟨rfl, hb5⟩
  have hT5 := hT4.below hb5
  have hB5 := below2 hB4 hb5
  have c5 : W5.cell? ⟨W3.heap.size, 2, none⟩ = some (.int .u64 2) := by rw [(bcell hb5).1 _ _ hl4]; exact hN.c2
  have hl5 : W3.heap.size < W5.heap.size := Nat.lt_of_lt_of_le hl4 hb5.size
  clear hget2 hb5 hB4 hT4 hT3 hN hb4 hB3
  have hN6 := hB5
  go_wp2_with fail
  have hb6 : Below W5.heap.size W5 (W5.alloc (.cells #[.string (bstr (optC none).row), .string (bstr (optC none).col), .int .u64 (optC none).ver, .bool (optC none).gone, .string (bstr (optC none).val)] 31)) := (Below.refl _ _).alloc (Nat.le_refl _) _
  generalize W5.alloc (.cells #[.string (bstr (optC none).row), .string (bstr (optC none).col), .int .u64 (optC none).ver, .bool (optC none).gone, .string (bstr (optC none).val)] 31) = W6 at *
  have hT6 := hT5.below hb6
  have hB6 := below2 hB5 hb6
  have hL := TLen_any tb vb vl Bs11 W6 hT6
  rw [show ((Bs11.flatten.length : Nat) : Int) = 3 from rfl] at hL
  refine hL.mono ?_
  rintro e W7 ⟨rfl, hb7⟩
  have hT7 := hT6.below hb7
  have hB7 := below2 hB6 hb7
  have hK := TBlocks_any tb vb vl Bs11 W7 hT7
  rw [show ((Bs11.length : Nat) : Int) = 3 from rfl] at hK
  clear hL hT6 hT5 hb7 hB6
  go_wp2_with fail
  refine hK.mono ?_
  rintro e W8 ⟨rfl, hb8⟩
  have hB8 := below2 hB7 hb8
  clear hK
  go_wp2_with fail
  go_ret
  exact ⟨rfl, hB8⟩

end Go.Proofs.YtefmplmbalfmiaaDoor

namespace Go.Proofs.YtefmplmbalfmiaaDoor
open Go.RowKit
attribute [local go_sem] Oper.semAt_some
attribute [local go_sem] size_bstr getElem_bstr toList_bstr append_bstr

/-- Where the law stands: the answer, the two cells, seal's tables. -/
structure KS (w W : World) (aB bB : Nat) : Prop where
  r : W.heap[w.heap.size]? = some (.cells #[.bool false] 4 (0, 0))
  a : W.heap[aB]? = some (.cells (clC kA) 31 (0, 0))
  b : W.heap[bB]? = some (.cells (clC kB) 31 (0, 0))
  be : Below w.heap.size w W
  t : Tabs W
theorem KS.below {w W W' : World} {aB bB : Nat} (h : KS w W aB bB) (hb : Below W.heap.size W W') : KS w W' aB bB :=
  ⟨(hb.block _ (blk_lt h.r)).trans h.r, (hb.block _ (blk_lt h.a)).trans h.a, (hb.block _ (blk_lt h.b)).trans h.b, below2 h.be hb, h.t.below hb⟩
theorem KS.fa {w W : World} {aB bB : Nat} (h : KS w W aB bB) : W.cell? ⟨aB, 0, none⟩ = some (.string (bstr [97])) ∧ W.cell? ⟨aB, 1, none⟩ = some (.string (bstr [120])) ∧ W.cell? ⟨aB, 2, none⟩ = some (.int .u64 1) ∧ W.cell? ⟨aB, 3, none⟩ = some (.bool false) ∧ W.cell? ⟨aB, 4, none⟩ = some (.string (bstr [])) := cells5 h.a
theorem KS.fb {w W : World} {aB bB : Nat} (h : KS w W aB bB) : W.cell? ⟨bB, 0, none⟩ = some (.string (bstr [98])) ∧ W.cell? ⟨bB, 1, none⟩ = some (.string (bstr [120])) ∧ W.cell? ⟨bB, 2, none⟩ = some (.int .u64 1) ∧ W.cell? ⟨bB, 3, none⟩ = some (.bool false) ∧ W.cell? ⟨bB, 4, none⟩ = some (.string (bstr [])) := cells5 h.b
theorem TB.kept {w w' : World} {g : Nat} {vb vl : Value} {Bs : List (List Cl)} (h : TB w g vb vl Bs) (h1 : w'.heap[g]? = w.heap[g]?) (h2 : ∀ i, vb.ownBlock = some i → w'.heap[i]? = w.heap[i]?) (h3 : ∀ i, vl.ownBlock = some i → w'.heap[i]? = w.heap[i]?) : TB w' g vb vl Bs :=
  ⟨h1.trans h.t, own_kept h.rb h2, own_kept h.rl h3⟩
/-- Going through a table, nothing told yet. -/
structure KJ (w : World) (aB bB D b pb tb : Nat) (vb vl : Value) (R : Loop) (Bs : List (List Cl)) (X : Nat → Prop) (W : World) : Prop where
  k : KS w W aB bB
  d : W.heap[D]? = some (.deferred (some []))
  c : W.heap[D + 1]? = some (.loop R)
  f : FrX W b pb (some ⟨tb, 0, none⟩) [] [] ∧ TB W tb vb vl Bs
  x : ∀ i, X i → D + 2 ≤ i
structure KD (w : World) (aB bB D b pb tb : Nat) (vb vl : Value) : Prop where
  r : w.heap.size < D
  a : aB < D
  bb : bB < D
  b : b < D
  p : pb < D
  t : tb < D
  vb : ∀ i, vb.ownBlock = some i → i < D
  vl : ∀ i, vl.ownBlock = some i → i < D
theorem KJ.kept {w : World} {aB bB D b pb tb : Nat} {vb vl : Value} {R R' : Loop} {Bs : List (List Cl)} {X : Nat → Prop} {W W' : World} (ht : Tabs w) (u : KD w aB bB D b pb tb vb vl) (h : KJ w aB bB D b pb tb vb vl R Bs X W) (hn : ∀ i, i < D + 1 → W'.heap[i]? = W.heap[i]?) (hc : W'.heap[D + 1]? = some (.loop R')) (hb : Below w.heap.size w W') : KJ w aB bB D b pb tb vb vl R' Bs X W' := by
  have h1 := u.r
  have h2 := u.a
  have h3 := u.bb
  have h4 := u.b
  have h5 := u.p
  have h6 := u.t
  exact ⟨⟨(hn _ (by omega)).trans h.k.r, (hn _ (by omega)).trans h.k.a, (hn _ (by omega)).trans h.k.b, hb, ht.below hb⟩, (hn _ (by omega)).trans h.d, hc, ⟨⟨(hn _ (by omega)).trans h.f.1.t, (hn _ (by omega)).trans h.f.1.p⟩, h.f.2.kept (hn _ (by omega)) (fun i hi => hn i (by have := u.vb i hi; omega)) (fun i hi => hn i (by have := u.vl i hi; omega))⟩, h.x⟩
theorem KJ.abd {w : World} {aB bB D b pb tb : Nat} {vb vl : Value} {R : Loop} {Bs : List (List Cl)} {X : Nat → Prop} {W W' : World} (ht : Tabs w) (u : KD w aB bB D b pb tb vb vl) (h : KJ w aB bB D b pb tb vb vl R Bs X W) (hk : Kp W W' X) : KJ w aB bB D b pb tb vb vl R Bs X W' := by
  have hc := blk_lt h.c
  have h1 := u.r
  have hn : ∀ i, i < D + 2 → W'.heap[i]? = W.heap[i]? := fun i hi => hk.block i (by omega) (fun hx => by have := h.x i hx; omega)
  exact h.kept ht u (fun i hi => hn i (by omega)) ((hn _ (by omega)).trans h.c) (Kp.below0 h.k.be hk fun i hi => by have := h.x i hi; omega)
theorem KS.put {w W : World} {aB bB g : Nat} (ht : Tabs w) (h : KS w W aB bB) (h1 : w.heap.size < g) (h2 : aB < g) (h3 : bB < g) (o : Obj) : KS w (W.putObj g o) aB bB := by
  have hb : Below w.heap.size w (W.putObj g o) := Bl.below_put h.be (by omega) _
  exact ⟨(World.putObj_heap_other (by omega)).trans h.r, (World.putObj_heap_other (by omega)).trans h.a, (World.putObj_heap_other (by omega)).trans h.b, hb, ht.below hb⟩
/-- A list that is written out is written. -/
theorem wri_lit (W : World) (cs : List Cl) (m : Int) (hL : cs.length ≤ 10) (ht : Tabs W) :
    Calls Tryd.prog 4 #[.slice (some ⟨W.heap.size, 0, none⟩) cs.length cs.length, .int .i64 m] (W.alloc (.cells (ccells cs).toArray 31)) fun e w' => ∃ x, e = .returned (.tuple #[.string (bstr x), .int .i64 (chkE cs m)]) ∧ Hid (x = wriT cs m) ∧ Below W.heap.size W w' := by
  have hb0 : Below W.heap.size W (W.alloc (.cells (ccells cs).toArray 31)) := (Below.refl _ _).alloc (Nat.le_refl _) _
  refine (TWrite_any (some ⟨W.heap.size, 0, none⟩) W.heap.size 0 cs.length cs m _ (fun _ => ⟨rfl, CRow.lit W cs _, ⟨_, _, heap_alloc_new W _⟩⟩) (Nat.le_refl _) (by omega) (ht.below hb0) (fun h => room_cut (by omega) h)).mono ?_
  rintro e w' ⟨rfl, hb⟩
  exact ⟨_, rfl, rfl, below2 hb0 hb⟩
/-- What is written is opened. -/
theorem open_lay (W : World) (cs : List Cl) (m : Int) (hL : cs.length ≤ 10) (ht : Tabs W) (h : chkE cs m = 0) (hl : (wriT cs m).length ≤ 35184372088832) :
    Calls Tryd.prog 5 #[.string (bstr (wriT cs m))] W fun e w' => ∃ tb vb vl, e = .returned (.tuple #[.pointer (some ⟨tb, 0, none⟩), .int .i64 0]) ∧ TB w' tb vb vl (cutB cs m.toNat) ∧ Below W.heap.size W w' := by
  have hw : wriT cs m = layT (cutB cs m.toNat) := by unfold wriT; rw [if_pos h]
  have hr := room_cut (l := cs) (m := m) (by omega) h
  have hc := chk_iff.1 h
  have hg := cutB_gb (l := cs) (m := m.toNat) (by omega) hc.2.1 hc.2.2
  have ho := opB_lay hr hg.1
  rw [hw] at hl ⊢
  refine (Open_any _ W hl ht (by rw [ho]; exact hr)).mono ?_
  rw [ho]
  rintro e w' ⟨hb, ⟨_, tb, vb, vl, rfl, hT⟩ | ⟨h2, _⟩⟩
  · exact ⟨tb, vb, vl, rfl, hT, hb⟩
  · exact absurd rfl h2
theorem wri_short {cs : List Cl} {m : Int} (h : chkE cs m = 0) (hL : cs.length ≤ 10) : (wriT cs m).length ≤ 35184372088832 := by
  have hw : wriT cs m = layT (cutB cs m.toNat) := by unfold wriT; rw [if_pos h]
  have hr := room_cut (l := cs) (m := m) (by omega) h
  have h1 := flt_long hr
  have h2 := hr.i
  have h3 := hr.f
  rw [hw]
  unfold layT
  simp only [List.length_append, frm_length, be8_length]
  omega

set_option maxHeartbeats 8000000 in
set_option maxRecDepth 100000 in
theorem Known11_any (w : World) (ht : Tabs w) : Calls Tryd.prog 3 #[] w fun e w' => e = .returned (.bool true) ∧ Below w.heap.size w w' := by
  obtain ⟨w1, hw1⟩ : ∃ w1, w1 = w.alloc (.cells #[.bool false] 4) := ⟨_, rfl⟩
  have hb1 : Below w.heap.size w w1 := by rw [hw1]; exact (Below.refl _ _).alloc (Nat.le_refl _) _
  have hR1 : w1.heap[w.heap.size]? = some (.cells #[.bool false] 4 (0, 0)) := by rw [hw1]; exact heap_alloc_new w _
  have hwr := TWrite_any none 0 0 0 [] 1 w1 (fun h => absurd h (by simp)) (by simp) (by simp) (ht.below hb1) (fun _ => kn_room0)
  rw [kn_none.1, kn_none.2] at hwr
  have h42 := kn_42
  have hft := kn_foot
  have h6 := kn_six
  have hopn : opB (layT []) = [] := opB_lay kn_room0 GB.nil
  have hoA := fun W (h : Tabs W) => Open_any (layT []) W (by omega) h (by rw [hopn]; exact kn_room0)
  rw [hopn] at hoA
  have ho1 : ∀ W, Tabs W → Calls Tryd.prog 5 #[.string (bstr (layT []))] W fun e w' => ∃ tb vb vl, e = .returned (.tuple #[.pointer (some ⟨tb, 0, none⟩), .int .i64 0]) ∧ TB w' tb vb vl [] ∧ Below W.heap.size W w' := fun W h => by
    refine (hoA W h).mono ?_
    rintro e w' ⟨hb, ⟨_, tb, vb, vl, rfl, hT⟩ | ⟨h2, _⟩⟩
    · exact ⟨tb, vb, vl, rfl, hT, hb⟩
    · exact absurd rfl h2
  clear hoA
  generalize layT [] = s at *
  have hsi : (s.length : Int) = 42 := by omega
  have hs26 : ∀ W, (Instr.slice 9 (.string (bstr s)) (some (.int .i64 26)) none none).run Tryd.prog W = .ok (.string (bstr [0, 0, 0, 0, 0, 0, 0, 0, 0, 0, 0, 0, 0, 0, 0, 9])) W := fun W => by
    have := run_from (P := Tryd.prog) 9 s 26 (by omega) W Tryd.underlying9
    rw [hft] at this
    exact this
  have hE1 : (⟨#[0, 0, 0, 0, 0, 0, 0, 0, 0, 0, 0, 0, 0, 0, 0, 9]⟩ : ByteArray) = bstr [0, 0, 0, 0, 0, 0, 0, 0, 0, 0, 0, 0, 0, 0, 0, 9] := rfl
  have HSI : Hid _ := h42
  clear h42 hft hopn
  refine calls_marks Tryd.func3 rfl ?_
  simp only [Tryd.ntmps3, List.size_toArray, List.length_nil, Nat.reduceSub, Array.replicate_succ, Array.replicate_zero, List.push_toArray, List.append_toArray, List.nil_append, List.cons_append]
  gi_wp2_with fail
  rw [← hw1]
  refine ⟨trivial, (callsIn_wide.2 hwr).mono ?_⟩
  rintro e w2 ⟨rfl, hb2⟩
  have hb12 := below2 hb1 hb2
  have hR2 := (hb2.block _ (blk_lt hR1)).trans hR1
  have ht2 := ht.below hb12
  have HT0 : Hid _ := ht
  clear hwr hw1 hb1 hb2 hR1 ht
  gi_wp2_with fail
  refine ⟨trivial, (callsIn_wide.2 (ho1 w2 ht2)).mono ?_⟩
  rintro e w3 ⟨tb, vb, vl, rfl, hT3, hb3⟩
  have hL := TLen_any tb vb vl [] w3 hT3
  rw [show ((([] : List (List Cl)).flatten.length : Nat) : Int) = 0 from rfl] at hL
  gi_wp2_with fail
  refine ⟨trivial, (callsIn_wide.2 hL).mono ?_⟩
  rintro e w4 ⟨rfl, hb4⟩
  have hK := TBlocks_any tb vb vl [] w4 (hT3.below hb4)
  rw [show ((([] : List (List Cl)).length : Nat) : Int) = 0 from rfl] at hK
  clear hL
  gi_wp2_with fail
  refine ⟨trivial, (callsIn_wide.2 hK).mono ?_⟩
  rintro e w5 ⟨rfl, hb5⟩
  have hb25 := below2 hb3 (below2 hb4 hb5)
  have hb05 := below2 hb12 hb25
  have hR5 := (hb25.block _ (blk_lt hR2)).trans hR2
  have ht5 := ht2.below hb25
  clear hK hT3 hb3 hb4 hb5 hb25 hb12 hR2 ht2 hs26 ho1
  have hz0 : (⟨#[]⟩ : ByteArray) = bstr [] := rfl
  have hEa : (⟨#[97]⟩ : ByteArray) = bstr [97] := rfl
  have hEb : (⟨#[98]⟩ : ByteArray) = bstr [98] := rfl
  have hEx : (⟨#[120]⟩ : ByteArray) = bstr [120] := rfl
  obtain ⟨w6, hw6⟩ : ∃ w6, w6 = (w5.alloc (.cells #[.string (bstr [97]), .string (bstr [120]), .int .u64 1, .bool false, .string (bstr [])] 31)).alloc (.cells #[.string (bstr [98]), .string (bstr [120]), .int .u64 1, .bool false, .string (bstr [])] 31) := ⟨_, rfl⟩
  have hb56 : Below w5.heap.size w5 w6 := by rw [hw6]; exact ((Below.refl _ _).alloc (Nat.le_refl _) _).alloc (by simp) _
  have hs6 : w6.heap.size = w5.heap.size + 1 + 1 := by rw [hw6]; simp
  have hk6 : KS w w6 w5.heap.size (w5.heap.size + 1) := by
    refine ⟨(hb56.block _ (blk_lt hR5)).trans hR5, ?_, ?_, below2 hb05 hb56, ht5.below hb56⟩
    · rw [hw6]; exact (Below.heap_alloc _ _ _ (by simp)).trans (heap_alloc_new w5 _)
    · rw [hw6]
      have := heap_alloc_new (w5.alloc (.cells #[.string (bstr [97]), .string (bstr [120]), .int .u64 1, .bool false, .string (bstr [])] 31)) (.cells #[.string (bstr [98]), .string (bstr [120]), .int .u64 1, .bool false, .string (bstr [])] 31)
      rw [World.size_alloc] at this
      exact this
  have hwa := wri_lit w6 [kB, kA] 1 (by decide) hk6.t
  rw [kn_ba, hs6] at hwa
  have HS6 : Hid _ := hs6
  clear hs6 hb05 hR5 ht5 hb56
  gi_wp2_with fail
  rw [← hw6]
  refine ⟨trivial, (callsIn_wide.2 hwa).mono ?_⟩
  rintro e w7 ⟨x7, rfl, HX7, hb7⟩
  rw [← HS6.out] at hb7
  have hk7 := hk6.below hb7
  clear hwa hw6 hk6 hb7
  generalize w5.heap.size = aB at *
  obtain ⟨a0, a1, a2, a3, a4⟩ := hk7.fa
  have hw7 := wri_lit w7 [kA] 0 (by decide) hk7.t
  rw [kn_a0] at hw7
  gi_wp2_with fail
  refine ⟨trivial, (callsIn_wide.2 hw7).mono ?_⟩
  rintro e w8 ⟨x8, rfl, HX8, hb8⟩
  have hk8 := hk7.below hb8
  clear hw7 hk7 hb8 a0 a1 a2 a3 a4
  obtain ⟨a0, a1, a2, a3, a4⟩ := hk8.fa
  have hw8 := wri_lit w8 [kA] 32769 (by decide) hk8.t
  rw [kn_a3] at hw8
  gi_wp2_with fail
  refine ⟨trivial, (callsIn_wide.2 hw8).mono ?_⟩
  rintro e w9 ⟨x9, rfl, HX9, hb9⟩
  have hk9 := hk8.below hb9
  clear hw8 hk8 hb9 a0 a1 a2 a3 a4
  obtain ⟨a0, a1, a2, a3, a4⟩ := hk9.fa
  have hw9 := wri_lit w9 [kA, kA] 1 (by decide) hk9.t
  rw [kn_aa] at hw9
  gi_wp2_with fail
  refine ⟨trivial, (callsIn_wide.2 hw9).mono ?_⟩
  rintro e w10 ⟨x10, rfl, HX10, hb10⟩
  have hk10 := hk9.below hb10
  clear hw9 hk9 hb10 a0 a1 a2 a3 a4
  obtain ⟨z, hz⟩ : ∃ z, z = zeros 65536 := ⟨_, rfl⟩
  have hzl : z.length = 65536 := by rw [hz]; exact zeros_length _
  have hm1 : ∀ W : World, (Instr.makeSlice 33 (.int .i64 65536) (.int .i64 65536)).run Tryd.prog W = .ok (.slice (some ⟨W.heap.size, 0, none⟩) 65536 65536) (W.alloc (.cells (zs 65536) 5)) := fun W => make_run .i64 65536 (by decide) W
  have hm2 : ∀ W : World, (convert 33 9 (.slice (some ⟨W.heap.size, 0, none⟩) 65536 65536)).run Tryd.prog (W.alloc (.cells (zs 65536) 5)) = .ok (.string (bstr z)) (W.alloc (.cells (zs 65536) 5)) := fun W => by rw [hz]; exact made_run 65536 (by decide) W
  have hlg := kn_long hzl
  have HZL : Hid _ := hzl
  clear hz hzl
  generalize zs 65536 = zz at *
  have hbz : Below w10.heap.size w10 (w10.alloc (.cells zz 5)) := (Below.refl _ _).alloc (Nat.le_refl _) _
  have hw10 := wri_lit (w10.alloc (.cells zz 5)) [⟨[97], [120], 1, false, z⟩] 1 (by simp) (hk10.t.below hbz)
  rw [hlg, World.size_alloc] at hw10
  gi_wp2_with fail
  refine ⟨trivial, (callsIn_wide.2 hw10).mono ?_⟩
  rintro e w11 ⟨x11, rfl, HX11, hb11⟩
  have hb11' : Below w10.heap.size w10 w11 := below2 hbz (by rw [World.size_alloc]; exact hb11)
  have hk11 := hk10.below hb11'
  clear hw10 hk10 hb11 hb11' hbz hm1 hm2 hlg HZL
  have hw11 := wri_lit w11 [kZ] 1 (by decide) hk11.t
  rw [kn_z] at hw11
  gi_wp2_with fail
  refine ⟨trivial, (callsIn_wide.2 hw11).mono ?_⟩
  rintro e w12 ⟨x12, rfl, HX12, hb12⟩
  have hk12 := hk11.below hb12
  clear hw11 hk11 hb12
  obtain ⟨a0, a1, a2, a3, a4⟩ := hk12.fa
  obtain ⟨b0, b1, b2, b3, b4⟩ := hk12.fb
  have hw12 := wri_lit w12 [kA, kB] 12 (by decide) hk12.t
  rw [kn_ab.1] at hw12
  gi_wp2_with fail
  refine ⟨trivial, (callsIn_wide.2 hw12).mono ?_⟩
  rintro e w13 ⟨x13, rfl, HX13, hb13⟩
  have hk13 := hk12.below hb13
  have ho13 := open_lay w13 [kA, kB] 12 (by decide) hk13.t kn_ab.1 (wri_short kn_ab.1 (by decide))
  rw [show (12 : Int).toNat = 12 from rfl, kn_ab.2, ← HX13.out] at ho13
  clear hw12 hk12 hb13 a0 a1 a2 a3 a4 b0 b1 b2 b3 b4
  gi_wp2_with fail
  refine ⟨trivial, (callsIn_wide.2 ho13).mono ?_⟩
  rintro e w14 ⟨tb1, vb1, vl1, rfl, hT14, hb14⟩
  have hk14 := hk13.below hb14
  have hK := TBlocks_any tb1 vb1 vl1 _ w14 hT14
  rw [show ((([[kA], [kB]] : List (List Cl)).length : Nat) : Int) = 2 from rfl] at hK
  clear ho13 hk13 hb14 hT14
  gi_wp2_with fail
  refine ⟨trivial, (callsIn_wide.2 hK).mono ?_⟩
  rintro e w15 ⟨rfl, hb15⟩
  have hk15 := hk14.below hb15
  clear hK hk14 hb15
  obtain ⟨y, hy⟩ : ∃ y, y = zeros 20000 := ⟨_, rfl⟩
  have hyl : y.length = 20000 := by rw [hy]; exact zeros_length _
  have hm1 : ∀ W : World, (Instr.makeSlice 33 (.int .i64 20000) (.int .i64 20000)).run Tryd.prog W = .ok (.slice (some ⟨W.heap.size, 0, none⟩) 20000 20000) (W.alloc (.cells (zs 20000) 5)) := fun W => make_run .i64 20000 (by decide) W
  have hm2 : ∀ W : World, (convert 33 9 (.slice (some ⟨W.heap.size, 0, none⟩) 20000 20000)).run Tryd.prog (W.alloc (.cells (zs 20000) 5)) = .ok (.string (bstr y)) (W.alloc (.cells (zs 20000) 5)) := fun W => by rw [hy]; exact made_run 20000 (by decide) W
  have htw := kn_two hyl
  clear hy hyl
  generalize zs 20000 = yz at *
  obtain ⟨w16, hw16⟩ : ∃ w16, w16 = ((w15.alloc (.cells yz 5)).alloc (.cells #[.string (bstr [97]), .string (bstr [120]), .int .u64 1, .bool false, .string (bstr y)] 31)).alloc (.cells #[.string (bstr [98]), .string (bstr [120]), .int .u64 1, .bool false, .string (bstr y)] 31) := ⟨_, rfl⟩
  have hb16 : Below w15.heap.size w15 w16 := by rw [hw16]; exact (((Below.refl _ _).alloc (Nat.le_refl _) _).alloc (by simp) _).alloc (by simp; omega) _
  have hs16 : w16.heap.size = w15.heap.size + 1 + 1 + 1 := by rw [hw16]; simp
  have hk16 := hk15.below hb16
  obtain ⟨a0, a1, a2, a3, a4⟩ := hk15.fa
  obtain ⟨b0, b1, b2, b3, b4⟩ := hk15.fb
  have hla := blk_lt hk15.a
  have hlb := blk_lt hk15.b
  obtain ⟨d0, d1, d2, d3, d4⟩ : (((w15.alloc (.cells yz 5)).alloc (.cells #[.string (bstr [97]), .string (bstr [120]), .int .u64 1, .bool false, .string (bstr y)] 31)).cell? ⟨aB + 1, 0, none⟩ = some (.string (bstr [98])) ∧ ((w15.alloc (.cells yz 5)).alloc (.cells #[.string (bstr [97]), .string (bstr [120]), .int .u64 1, .bool false, .string (bstr y)] 31)).cell? ⟨aB + 1, 1, none⟩ = some (.string (bstr [120])) ∧ ((w15.alloc (.cells yz 5)).alloc (.cells #[.string (bstr [97]), .string (bstr [120]), .int .u64 1, .bool false, .string (bstr y)] 31)).cell? ⟨aB + 1, 2, none⟩ = some (.int .u64 1) ∧ ((w15.alloc (.cells yz 5)).alloc (.cells #[.string (bstr [97]), .string (bstr [120]), .int .u64 1, .bool false, .string (bstr y)] 31)).cell? ⟨aB + 1, 3, none⟩ = some (.bool false) ∧ ((w15.alloc (.cells yz 5)).alloc (.cells #[.string (bstr [97]), .string (bstr [120]), .int .u64 1, .bool false, .string (bstr y)] 31)).cell? ⟨aB + 1, 4, none⟩ = some (.string (bstr []))) := by
    have hbx : Below w15.heap.size w15 ((w15.alloc (.cells yz 5)).alloc (.cells #[.string (bstr [97]), .string (bstr [120]), .int .u64 1, .bool false, .string (bstr y)] 31)) := ((Below.refl _ _).alloc (Nat.le_refl _) _).alloc (by simp) _
    exact (hk15.below hbx).fb
  obtain ⟨c0, c1, c2, c3, c4⟩ : ((w15.alloc (.cells yz 5)).cell? ⟨aB, 0, none⟩ = some (.string (bstr [97])) ∧ (w15.alloc (.cells yz 5)).cell? ⟨aB, 1, none⟩ = some (.string (bstr [120])) ∧ (w15.alloc (.cells yz 5)).cell? ⟨aB, 2, none⟩ = some (.int .u64 1) ∧ (w15.alloc (.cells yz 5)).cell? ⟨aB, 3, none⟩ = some (.bool false) ∧ (w15.alloc (.cells yz 5)).cell? ⟨aB, 4, none⟩ = some (.string (bstr []))) := by
    have hbx : Below w15.heap.size w15 (w15.alloc (.cells yz 5)) := (Below.refl _ _).alloc (Nat.le_refl _) _
    exact (hk15.below hbx).fa
  have hw17 := wri_lit w16 [⟨[97], [120], 1, false, y⟩, ⟨[98], [120], 1, false, y⟩] 32768 (by simp) hk16.t
  rw [htw.1, hs16] at hw17
  have HS16 : Hid _ := hs16
  have HTW : Hid _ := htw
  clear hs16 htw hla hlb
  gi_wp2_with fail
  rw [← hw16]
  refine ⟨trivial, (callsIn_wide.2 hw17).mono ?_⟩
  rintro e w17 ⟨x17, rfl, HX17, hb17⟩
  rw [← HS16.out] at hb17
  have hk17 := hk16.below hb17
  have ho17 := open_lay w17 [⟨[97], [120], 1, false, y⟩, ⟨[98], [120], 1, false, y⟩] 32768 (by simp) hk17.t HTW.out.1 (wri_short HTW.out.1 (by simp))
  rw [show (32768 : Int).toNat = 32768 from rfl, ← HX17.out] at ho17
  have hG2 : GB (cutB [⟨[97], [120], 1, false, y⟩, ⟨[98], [120], 1, false, y⟩] 32768) := by
    have hc := chk_iff.1 HTW.out.1
    exact (cutB_gb (by decide) hc.2.1 hc.2.2).1
  have h2l := HTW.out.2
  generalize cutB [⟨[97], [120], 1, false, y⟩, ⟨[98], [120], 1, false, y⟩] 32768 = Bs2 at *
  clear hw17 hk16 hb17 hw16 hk15 hb16 a0 a1 a2 a3 a4 b0 b1 b2 b3 b4 c0 c1 c2 c3 c4 d0 d1 d2 d3 d4 hm1 hm2
  gi_wp2_with fail
  refine ⟨trivial, (callsIn_wide.2 ho17).mono ?_⟩
  rintro e w18 ⟨tb, vb, vl, rfl, hT18, hb18⟩
  have hk18 := hk17.below hb18
  have hK := TBlocks_any tb vb vl _ w18 hT18
  rw [show ((Bs2.length : Nat) : Int) = 2 by rw [h2l]; rfl] at hK
  clear ho17 hk17 hb18
  gi_wp2_with fail
  refine ⟨trivial, (callsIn_wide.2 hK).mono ?_⟩
  rintro e w19 ⟨rfl, hb19⟩
  have hk19 := hk18.below hb19
  have hT19 := hT18.below hb19
  clear hK hk18 hb19 hT18
  have hA41 : ∀ W : World, (Instr.slice 9 (.string (bstr s)) none (some (.int .i64 41)) none).run Tryd.prog W = .ok (.string (bstr (s.take 41))) W := fun W => run_head _ s 41 (by have := HSI.out; omega) W Tryd.underlying9
  have hA33 : ∀ W : World, (Instr.slice 9 (.string (bstr s)) none (some (.int .i64 33)) none).run Tryd.prog W = .ok (.string (bstr (s.take 33))) W := fun W => run_head _ s 33 (by have := HSI.out; omega) W Tryd.underlying9
  have hA1 : ∀ W : World, (Instr.slice 9 (.string (bstr s)) (some (.int .i64 1)) none none).run Tryd.prog W = .ok (.string (bstr (s.drop 1))) W := fun W => run_from _ s 1 (by have := HSI.out; omega) W Tryd.underlying9
  have hA34 : ∀ W : World, (Instr.slice 9 (.string (bstr s)) (some (.int .i64 34)) none none).run Tryd.prog W = .ok (.string (bstr (s.drop 34))) W := fun W => run_from _ s 34 (by have := HSI.out; omega) W Tryd.underlying9
  have hl41 : (s.take 41).length = 41 := by rw [List.length_take]; have := HSI.out; omega
  have hl33 : (s.take 33).length = 33 := by rw [List.length_take]; have := HSI.out; omega
  have hl34 : (s.drop 34).length = 8 := by rw [List.length_drop]; have := HSI.out; omega
  have hl6 : l6 s = [[], s ++ [0], s.drop 1, s.take 41, s.take 41 ++ [8], s.take 33 ++ [1] ++ s.drop 34] := rfl
  rw [hl6, List.append_assoc, List.singleton_append] at h6
  clear hl6
  generalize s.take 41 = t41 at *
  generalize s.take 33 = t33 at *
  generalize s.drop 1 = s1 at *
  generalize s.drop 34 = d34 at *
  have hn1 : ¬ (9223372036854775807 < s.length + 1) := by have := HSI.out; omega
  have hn2 : ¬ (9223372036854775807 < t41.length + 1) := by omega
  have hn3 : ¬ (9223372036854775807 < t33.length + 1) := by omega
  have hn4 : ¬ (9223372036854775807 < t33.length + 1 + d34.length) := by omega
  have hn5 : ¬ (9223372036854775807 < t33.length + (1 + d34.length)) := by omega
  have hC0 : (⟨#[0]⟩ : ByteArray) = bstr [0] := rfl
  have hC1 : (⟨#[1]⟩ : ByteArray) = bstr [1] := rfl
  have hC8 : (⟨#[8]⟩ : ByteArray) = bstr [8] := rfl
  clear hl41 hl33 hl34
  have q1 : wrap64 ((s.length : Int) - 1) = 41 := by unfold wrap64; omega
  have q9 : wrap64 ((s.length : Int) - 9) = 33 := by unfold wrap64; omega
  have q8 : wrap64 ((s.length : Int) - 8) = 34 := by unfold wrap64; omega
  have r1 : IntKind.i64.wrap ((s.length : Int) - 1) = 41 := by rw [IntKind.wrap_i64]; omega
  have r9 : IntKind.i64.wrap ((s.length : Int) - 9) = 33 := by rw [IntKind.wrap_i64]; omega
  have r8 : IntKind.i64.wrap ((s.length : Int) - 8) = 34 := by rw [IntKind.wrap_i64]; omega
  clear hsi
  have HK19 : Hid _ := hk19
  have HT19 : Hid _ := hT19
  have HG2 : Hid _ := hG2
  have H2L : Hid _ := h2l
  have H6 : Hid _ := h6
  clear hk19 hT19 hG2 h2l h6
  gi_wp2_with fail
  refine wpIn_wide.2 ?_
  go_region_held3 (fun _ => True) (first | trivial) (fail)
  have hb20 : Below w19.heap.size w19 (w19.alloc (.cells #[.string (bstr []), .string (bstr (s ++ [0])), .string (bstr s1), .string (bstr t41), .string (bstr (t41 ++ [8])), .string (bstr (t33 ++ 1 :: d34))] 9)).drew := ((Below.refl _ _).alloc (Nat.le_refl _) _).drew
  have hg20 : (w19.alloc (.cells #[.string (bstr []), .string (bstr (s ++ [0])), .string (bstr s1), .string (bstr t41), .string (bstr (t41 ++ [8])), .string (bstr (t33 ++ 1 :: d34))] 9)).drew.heap[w19.heap.size]? = some (.cells #[.string (bstr []), .string (bstr (s ++ [0])), .string (bstr s1), .string (bstr t41), .string (bstr (t41 ++ [8])), .string (bstr (t33 ++ 1 :: d34))] 9 (0, 0)) := heap_alloc_new w19 _
  have hk20 := HK19.out.below hb20
  have hT20 := HT19.out.below hb20
  generalize (w19.alloc (.cells #[.string (bstr []), .string (bstr (s ++ [0])), .string (bstr s1), .string (bstr t41), .string (bstr (t41 ++ [8])), .string (bstr (t33 ++ 1 :: d34))] 9)).drew = w20 at *
  generalize w19.heap.size = g at *
  have HI : Hid _ := (⟨hk20, hT20, hg20⟩ : KS w w20 aB (aB + 1) ∧ TB w20 tb vb vl Bs2 ∧ w20.heap[g]? = some (.cells #[.string (bstr []), .string (bstr (s ++ [0])), .string (bstr s1), .string (bstr t41), .string (bstr (t41 ++ [8])), .string (bstr (t33 ++ 1 :: d34))] 9 (0, 0)))
  clear hk20 hT20 hg20 hb20 HK19 HT19 hA41 hA33 hA1 hA34 hn1 hn2 hn3 hn4 hn5 q1 q9 q8 r1 r9 r8
  gi_wp2_with fail
  refine wpIn_wide.2 ?_
  go_loopw [232] (fun s232 wr => ∃ i : Nat, s232 = .int .i64 (i : Int) ∧ i ≤ 6 ∧ Hid (KS w wr aB (aB + 1) ∧ TB wr tb vb vl Bs2 ∧ wr.heap[g]? = some (.cells #[.string (bstr []), .string (bstr (s ++ [0])), .string (bstr s1), .string (bstr t41), .string (bstr (t41 ++ [8])), .string (bstr (t33 ++ 1 :: d34))] 9 (0, 0)))) (fun s232 _ => 6 - (intOf s232).toNat)
  case atStart => exact ⟨0, rfl, by omega, HI⟩
  case round =>
    obtain ⟨i, rfl, hi, HW⟩ := hrel
    obtain ⟨hk, hT, hg⟩ := HW.out
    by_cases hlt : i < 6
    · have hgo : (i : Int) < 6 := by omega
      obtain ⟨x, hx, hc⟩ : ∃ x, x ∈ [[], s ++ [0], s1, t41, t41 ++ [8], t33 ++ 1 :: d34] ∧ wr.cell? ⟨g, i, none⟩ = some (.string (bstr x)) := by
        rw [(Bl.cells_block hg).1 i]
        rcases i with _ | _ | _ | _ | _ | _ | i
        · exact ⟨_, .head _, rfl⟩
        · exact ⟨_, .tail _ (.head _), rfl⟩
        · exact ⟨_, .tail _ (.tail _ (.head _)), rfl⟩
        · exact ⟨_, .tail _ (.tail _ (.tail _ (.head _))), rfl⟩
        · exact ⟨_, .tail _ (.tail _ (.tail _ (.tail _ (.head _)))), rfl⟩
        · exact ⟨_, .tail _ (.tail _ (.tail _ (.tail _ (.tail _ (.head _))))), rfl⟩
        · omega
      obtain ⟨hne, hl⟩ := H6.out x hx
      have hop := Open_any x wr (by omega) hk.t (room_open (by omega))
      clear hx hl
      go_wp2_with fail
      refine hop.mono ?_
      rintro e wo ⟨hbo, ⟨h, _⟩ | ⟨_, rfl⟩⟩
      · exact absurd h hne
      have HW2 : Hid _ := (⟨hk.below hbo, hT.below hbo, (hbo.block _ (blk_lt hg)).trans hg⟩ : KS w wo aB (aB + 1) ∧ TB wo tb vb vl Bs2 ∧ wo.heap[g]? = some (.cells #[.string (bstr []), .string (bstr (s ++ [0])), .string (bstr s1), .string (bstr t41), .string (bstr (t41 ++ [8])), .string (bstr (t33 ++ 1 :: d34))] 9 (0, 0)))
      clear hop hk hT hg hc HW hbo hne
      go_wp2
      go_roundw
      case rel => exact ⟨i + 1, by go_num, by omega, HW2⟩
      case measure => simp [intOf]; omega
    · have hgo : ¬ ((i : Int) < 6) := by omega
      clear hg
      have hall := TAll_any (some ⟨tb, 0, none⟩) wr
      go_wp2_with fail
      gi_wp2_with fail
      refine ⟨trivial, (callsIn_wide.2 hall).mono ?_⟩
      rintro e wa ⟨b, pb, rfl, hX, hB1, hB2, hba⟩
      have hka := hk.below hba
      have hTa := hT.below hba
      clear hall hk hT hba HW
      gi_wp2_with fail
      refine wp_range2 (by omega) rfl (enters_of Tryd.func19 (by kernel_rfl) rfl) ?_
      intro RR hRR
      have hbW : Below wa.heap.size wa ((wa.alloc (.deferred (some []))).alloc (.loop RR)) := ((Below.refl _ _).alloc (Nat.le_refl _) _).alloc (by simp) _
      have hWa : ((wa.alloc (.deferred (some []))).alloc (.loop RR)).heap[wa.heap.size + 1]? = some (.loop RR) := by
        have := World.alloc_heap_new (wa.alloc (.deferred (some []))) (.loop RR)
        rwa [World.size_alloc] at this
      have hWb : ((wa.alloc (.deferred (some []))).alloc (.loop RR)).heap[wa.heap.size]? = some (.deferred (some [])) := (Below.heap_alloc _ _ _ (by simp)).trans (World.alloc_heap_new wa _)
      obtain ⟨W1, hWW⟩ : ∃ W1, W1 = (wa.alloc (.deferred (some []))).alloc (.loop RR) := ⟨_, rfl⟩
      rw [← hWW] at hbW hWa hWb ⊢
      clear hWW
      have hu : KD w aB (aB + 1) wa.heap.size b pb tb vb vl := ⟨blk_lt hka.r, blk_lt hka.a, blk_lt hka.b, blk_lt hX.t, blk_lt hX.p, blk_lt hTa.t, fun i hi => (own_blk_lt hTa.rb hi).1, fun i hi => (own_blk_lt hTa.rl hi).1⟩
      have hJ0 : KJ w aB (aB + 1) wa.heap.size b pb tb vb vl RR Bs2 (fun _ => False) W1 := ⟨hka.below hbW, hWb, hWa, ⟨hX.below hbW, hTa.below hbW⟩, fun _ h => h.elim⟩
      have hne : 0 < Bs2.flatten.length := by
        have h1 := flat_few (Bs := Bs2) fun B hB => (HG2.out.good B hB).2
        have h2 := H2L.out
        omega
      have hct := from1_tells b pb tb vb vl Bs2 [] [] HG2.out (by have := H2L.out; omega)
      rw [frmL_all] at hct
      have hsz : wa.heap.size + 1 < W1.heap.size := blk_lt hWa
      clear hWa hWb hbW hX hTa hka hB1 hB2
      have hte := hct (wa.heap.size + 1) W1 (fun X j W => KJ w aB (aB + 1) wa.heap.size b pb tb vb vl RR Bs2 X W ∧ j = 0) (fun X W => KJ w aB (aB + 1) wa.heap.size b pb tb vb vl { RR with state := .done, pending := some (.exit 2) } Bs2 X W) (fun X j W W' h hk => ⟨h.1.abd HT0.out hu hk, h.2⟩) (fun X X' j W h hx => ⟨⟨h.1.k, h.1.d, h.1.c, h.1.f, fun i hi => by
        rcases hx i hi with hi | hi
        · exact h.1.x i hi
        · have := blk_lt h.1.c; omega⟩, h.2⟩) (fun X j W h => h.1.f) (fun X W W' h hk => h.abd HT0.out hu hk) ⟨hJ0, rfl⟩ ?_
      · refine hte.mono ?_
        clear hte hct hJ0
        rintro e W2 ⟨⟨u, rfl⟩, ⟨X, _, h0⟩ | ⟨X, hj⟩⟩
        · omega
        refine ⟨⟨_, rfl⟩, Or.inr ⟨.exit 2, hj.c, ?_⟩⟩
        have hD := hu.r
        have hb3 : Below w.heap.size w (W2.putObj (wa.heap.size + 1) (.loop { RR with state := .exhausted, pending := some (.exit 2) })) := Bl.below_put hj.k.be (by omega) _
        have hj3 := hj.kept (R' := { RR with state := .exhausted, pending := some (.exit 2) }) HT0.out hu (W' := W2.putObj (wa.heap.size + 1) (.loop { RR with state := .exhausted, pending := some (.exit 2) })) (fun i hi => World.putObj_heap_other (by omega)) (World.putObj_heap_same (blk_lt hj.c)) hb3
        generalize W2.putObj (wa.heap.size + 1) (.loop { RR with state := .exhausted, pending := some (.exit 2) }) = W3 at *
        have hk3 := hj3.k
        have hd3 := hj3.d
        clear hj hj3 hb3
        have hall := TAll_any none W3
        gi_wp2_with fail
        refine ⟨trivial, (callsIn_wide.2 hall).mono ?_⟩
        rintro e v4 ⟨b4, pb4, rfl, hX4, _, _, hbn⟩
        have hkn := hk3.below hbn
        have he3 := (hbn.block _ (blk_lt hd3)).trans hd3
        clear hall hk3
        gi_wp2_with fail
        refine wp_range2 (by omega) rfl (enters_of Tryd.func19 (by kernel_rfl) rfl) ?_
        intro RR4 _
        have hbW : Below v4.heap.size v4 ((v4.alloc (.deferred (some []))).alloc (.loop RR4)) := ((Below.refl _ _).alloc (Nat.le_refl _) _).alloc (by simp) _
        have hWa : ((v4.alloc (.deferred (some []))).alloc (.loop RR4)).heap[v4.heap.size + 1]? = some (.loop RR4) := by
          have := World.alloc_heap_new (v4.alloc (.deferred (some []))) (.loop RR4)
          rwa [World.size_alloc] at this
        have hWb : ((v4.alloc (.deferred (some []))).alloc (.loop RR4)).heap[v4.heap.size]? = some (.deferred (some [])) := (Below.heap_alloc _ _ _ (by simp)).trans (World.alloc_heap_new v4 _)
        obtain ⟨U4, hWW⟩ : ∃ U, U = (v4.alloc (.deferred (some []))).alloc (.loop RR4) := ⟨_, rfl⟩
        rw [← hWW] at hbW hWa hWb ⊢
        clear hWW
        have hnil := from1_nil b4 pb4 (v4.heap.size + 1) [] [] U4 (hX4.below hbW)
        refine hnil.mono ?_
        rintro e Y4 ⟨⟨u, rfl⟩, hbY⟩
        refine ⟨⟨_, rfl⟩, Or.inl ⟨(hbY.block _ (blk_lt hWa)).trans hWa, ?_⟩⟩
        have hbb := below2 hbW hbY
        have z1 := blk_lt hkn.r
        have z2 := blk_lt hkn.a
        have z3 := blk_lt hkn.b
        have hk4 := (hkn.below hbb).put HT0.out (g := v4.heap.size + 1) (by omega) (by omega) (by omega) (.loop { RR4 with state := .exhausted })
        have hd4 : (Y4.putObj (v4.heap.size + 1) (.loop { RR4 with state := .exhausted })).heap[v4.heap.size]? = some (.deferred (some [])) := (World.putObj_heap_other (by omega)).trans ((hbY.block _ (blk_lt hWb)).trans hWb)
        have hd3' : (Y4.putObj (v4.heap.size + 1) (.loop { RR4 with state := .exhausted })).heap[wa.heap.size]? = some (.deferred (some [])) := (World.putObj_heap_other (by have := blk_lt he3; omega)).trans ((hbb.block _ (blk_lt he3)).trans he3)
        have hlt4 : wa.heap.size < v4.heap.size := blk_lt he3
        generalize Y4.putObj (v4.heap.size + 1) (.loop { RR4 with state := .exhausted }) = W4 at *
        clear hnil hbY hbb hbW hWa hWb hkn hX4 hbn z1 z2 z3 he3
        clear hd3
        have hall := TFrom_any none [] [] W4 (by simp) (by simp)
        gi_wp2_with fail
        refine ⟨trivial, (callsIn_wide.2 hall).mono ?_⟩
        rintro e v5 ⟨b5, pb5, rfl, hX5, _, _, hbn⟩
        have hkn := hk4.below hbn
        have he3 := (hbn.block _ (blk_lt hd3')).trans hd3'
        have he4 := (hbn.block _ (blk_lt hd4)).trans hd4
        clear hall hk4
        gi_wp2_with fail
        refine wp_range2 (by omega) rfl (enters_of Tryd.func19 (by kernel_rfl) rfl) ?_
        intro RR5 _
        have hbW : Below v5.heap.size v5 ((v5.alloc (.deferred (some []))).alloc (.loop RR5)) := ((Below.refl _ _).alloc (Nat.le_refl _) _).alloc (by simp) _
        have hWa : ((v5.alloc (.deferred (some []))).alloc (.loop RR5)).heap[v5.heap.size + 1]? = some (.loop RR5) := by
          have := World.alloc_heap_new (v5.alloc (.deferred (some []))) (.loop RR5)
          rwa [World.size_alloc] at this
        have hWb : ((v5.alloc (.deferred (some []))).alloc (.loop RR5)).heap[v5.heap.size]? = some (.deferred (some [])) := (Below.heap_alloc _ _ _ (by simp)).trans (World.alloc_heap_new v5 _)
        obtain ⟨U5, hWW⟩ : ∃ U, U = (v5.alloc (.deferred (some []))).alloc (.loop RR5) := ⟨_, rfl⟩
        rw [← hWW] at hbW hWa hWb ⊢
        clear hWW
        have hnil := from1_nil b5 pb5 (v5.heap.size + 1) [] [] U5 (hX5.below hbW)
        refine hnil.mono ?_
        rintro e Y5 ⟨⟨u, rfl⟩, hbY⟩
        refine ⟨⟨_, rfl⟩, Or.inl ⟨(hbY.block _ (blk_lt hWa)).trans hWa, ?_⟩⟩
        have hbb := below2 hbW hbY
        have z1 := blk_lt hkn.r
        have z2 := blk_lt hkn.a
        have z3 := blk_lt hkn.b
        have hk5 := (hkn.below hbb).put HT0.out (g := v5.heap.size + 1) (by omega) (by omega) (by omega) (.loop { RR5 with state := .exhausted })
        have hd5 : (Y5.putObj (v5.heap.size + 1) (.loop { RR5 with state := .exhausted })).heap[v5.heap.size]? = some (.deferred (some [])) := (World.putObj_heap_other (by omega)).trans ((hbY.block _ (blk_lt hWb)).trans hWb)
        have hd3'' : (Y5.putObj (v5.heap.size + 1) (.loop { RR5 with state := .exhausted })).heap[wa.heap.size]? = some (.deferred (some [])) := (World.putObj_heap_other (by have := blk_lt he3; omega)).trans ((hbb.block _ (blk_lt he3)).trans he3)
        have hd4' : (Y5.putObj (v5.heap.size + 1) (.loop { RR5 with state := .exhausted })).heap[v4.heap.size]? = some (.deferred (some [])) := (World.putObj_heap_other (by have := blk_lt he4; omega)).trans ((hbb.block _ (blk_lt he4)).trans he4)
        have hlt5 : wa.heap.size < v5.heap.size ∧ v4.heap.size < v5.heap.size := ⟨blk_lt he3, blk_lt he4⟩
        generalize Y5.putObj (v5.heap.size + 1) (.loop { RR5 with state := .exhausted }) = W5 at *
        clear hnil hbY hbb hbW hWa hWb hkn hX5 hbn z1 z2 z3 he3 he4
        clear hd3' hd4
        have hwr := blk_lt hk5.r
        have hwl : w.heap.size < wa.heap.size := hD
        have hge := Get_nil [97] [120] W5
        gi_wp2_with fail
        refine ⟨trivial, (callsIn_wide.2 hge).mono ?_⟩
        rintro e W6 ⟨rfl, hb6⟩
        have hb7 : Below W6.heap.size W6 (W6.alloc (.cells #[.string (bstr []), .string (bstr []), .int .u64 0, .bool false, .string (bstr [])] 31)) := (Below.refl _ _).alloc (Nat.le_refl _) _
        have hL := fun W => TLen_nil W
        have hB := fun W => TBlocks_nil W
        clear hge
        gi_wp2_with fail
        generalize W6.alloc (.cells #[.string (bstr []), .string (bstr []), .int .u64 0, .bool false, .string (bstr [])] 31) = W7 at *
        refine ⟨trivial, (callsIn_wide.2 (hL W7)).mono ?_⟩
        rintro e W8 ⟨rfl, hb8⟩
        gi_wp2_with fail
        refine ⟨trivial, (callsIn_wide.2 (hB W8)).mono ?_⟩
        rintro e W9 ⟨rfl, hb9⟩
        have hb59 := below2 (below2 hb6 hb7) (below2 hb8 hb9)
        have hk9 := hk5.below hb59
        have hwk := works11_any W9 hk9.t
        clear hL hB
        gi_wp2_with fail
        refine ⟨trivial, (callsIn_wide.2 hwk).mono ?_⟩
        rintro e W10 ⟨rfl, hb10⟩
        have hb510 := below2 hb59 hb10
        have hk10 := hk9.below hb10
        have m1 := (hb510.block _ (blk_lt hd3'')).trans hd3''
        have m2 := (hb510.block _ (blk_lt hd4')).trans hd4'
        have m3 := (hb510.block _ (blk_lt hd5)).trans hd5
        have d1 : W10.cell? ⟨w.heap.size, 0, none⟩ = some (.bool false) := (Bl.cells_block hk10.r).1 0
        have d2 : W10.frozen? ⟨w.heap.size, 0, none⟩ = false := (Bl.cells_block hk10.r).2 0
        have hb11 : Below w.heap.size w (W10.setCell ⟨w.heap.size, 0, none⟩ (.bool true)) := Bl.below_set0 hk10.be (Nat.le_refl _) _
        have r11 := heap_set_same hk10.r (o := 0) (.bool true)
        have n1 : (W10.setCell ⟨w.heap.size, 0, none⟩ (.bool true)).heap[wa.heap.size]? = some (.deferred (some [])) := (heap_set_other _ (by omega)).trans m1
        have n2 : (W10.setCell ⟨w.heap.size, 0, none⟩ (.bool true)).heap[v4.heap.size]? = some (.deferred (some [])) := (heap_set_other _ (by omega)).trans m2
        have n3 : (W10.setCell ⟨w.heap.size, 0, none⟩ (.bool true)).heap[v5.heap.size]? = some (.deferred (some [])) := (heap_set_other _ (by omega)).trans m3
        clear hwk m1 m2 m3
        gi_wp2
        generalize W10.setCell ⟨w.heap.size, 0, none⟩ (.bool true) = Z at *
        have n2' : (Z.putObj v5.heap.size (.deferred none)).heap[v4.heap.size]? = some (.deferred (some [])) := (World.putObj_heap_other (by omega)).trans n2
        have n1' : ((Z.putObj v5.heap.size (.deferred none)).putObj v4.heap.size (.deferred none)).heap[wa.heap.size]? = some (.deferred (some [])) := (World.putObj_heap_other (by omega)).trans ((World.putObj_heap_other (by omega)).trans n1)
        have r12 : (((Z.putObj v5.heap.size (.deferred none)).putObj v4.heap.size (.deferred none)).putObj wa.heap.size (.deferred none)).heap[w.heap.size]? = _ := (World.putObj_heap_other (by omega)).trans ((World.putObj_heap_other (by omega)).trans ((World.putObj_heap_other (by omega)).trans r11))
        have c12 := (Bl.cells_block r12).1 0
        refine ⟨by simp, .inl ⟨_, _, rfl, run_takeDeferred n3, ?_⟩⟩
        refine ⟨by simp, .inl ⟨_, _, rfl, run_takeDeferred n2', ?_⟩⟩
        refine ⟨by simp, .inl ⟨_, _, rfl, run_takeDeferred n1', ?_⟩⟩
        exact ⟨.bool true, by simp [results, Tryd.results3, go_sem, c12], rfl, Bl.below_put (Bl.below_put (Bl.below_put hb11 (by omega) _) (by omega) _) (by omega) _⟩
      · clear hct hJ0
        rintro m X j W c hc hXl ⟨hj, rfl⟩
        have key : ∀ RP : Ending → World → Prop, Hid (∀ W', KJ w aB (aB + 1) wa.heap.size b pb tb vb vl { RR with state := .done, pending := some (.exit 2) } Bs2 X W' → (∀ i, X i → W'.heap[i]? = W.heap[i]?) → RP (.returned (.bool false)) W') → YieldAt Fence.wide m Tryd.prog (wa.heap.size + 1) #[clV c] W RP := by
          intro RP hF
          have hD := hu.r
          have hjc := hj.c
          have hlt := blk_lt hjc
          have hbe := hj.k.be
          have HJ : Hid _ := hj
          have HRR : Hid _ := hRR
          refine yield_round2 hjc hRR rfl ?_
          clear hRR hj
          gi_wp2
          refine ⟨_, run_beginRound hjc HRR.out.s, ?_⟩
          gi_wp2
          have hrB : (W.putObj (wa.heap.size + 1) (.loop { RR with state := .busy })).heap[wa.heap.size + 1]? = some (.loop { RR with state := .busy }) := World.putObj_heap_same hlt
          refine ⟨_, _, run_endRound (r := { RR with state := .busy }) (some (.exit 2)) hrB, ?_⟩
          refine hF.out _ (HJ.out.kept HT0.out hu (fun i hi => (World.putObj_heap_other (by omega)).trans (World.putObj_heap_other (by omega))) (World.putObj_heap_same (blk_lt hrB)) (Bl.below_put (Bl.below_put hbe (by omega) _) (by omega) _)) (fun i hi => (World.putObj_heap_other (by have := HJ.out.x i hi; omega)).trans (World.putObj_heap_other (by have := HJ.out.x i hi; omega)))
        exact key _ (fun W' h1 h2 => Or.inr ⟨rfl, h1, h2⟩)

end Go.Proofs.YtefmplmbalfmiaaDoor
