/-
  '==' of two cells.
  The law's 'works'.
  TableRefuses: one who is told cells, and holds them to their order.
-/
import Derived.Test.YtefmplmbalfmiaaGreatDoorGEOpen
import Derived.Test.YtefmplmbalfmiaaGreatDoorGTGetM
import Derived.Test.YtefmplmbalfmiaaGreatDoorTFr1
import Derived.Test.YtefmplmbalfmiaaGreatDoorGTRfM
import Derived.Lib.ConvBytes
import Derived.OpenShut
import Derived.Laws.IdiomStrings
namespace Go.Proofs.YtefmplmbalfmiaaGreatDoor
open Go.RowKit Go.BigFrame Go.Sort
attribute [local go_sem] size_bstr toList_bstr ls_def
theorem cell_eql5 (r k : List UInt8) (v : Int) (z : Bool) (x r' k' : List UInt8) (v' : Int) (z' : Bool) (x' : List UInt8) (w : World) : (binOp .eql 39 (.agg #[.string (bstr r), .string (bstr k), .int .u64 v, .bool z, .string (bstr x)]) (.agg #[.string (bstr r'), .string (bstr k'), .int .u64 v', .bool z', .string (bstr x')])).run Tryz.prog w = .ok (.bool (eqC ⟨r, k, v, z, x⟩ ⟨r', k', v', z', x'⟩)) w := cell_eql ⟨r, k, v, z, x⟩ ⟨r', k', v', z', x'⟩ w
theorem cell_neq5 (r k : List UInt8) (v : Int) (z : Bool) (x r' k' : List UInt8) (v' : Int) (z' : Bool) (x' : List UInt8) (w : World) : (binOp .neq 39 (.agg #[.string (bstr r), .string (bstr k), .int .u64 v, .bool z, .string (bstr x)]) (.agg #[.string (bstr r'), .string (bstr k'), .int .u64 v', .bool z', .string (bstr x')])).run Tryz.prog w = .ok (.bool (!eqC ⟨r, k, v, z, x⟩ ⟨r', k', v', z', x'⟩)) w := cell_neq ⟨r, k, v, z, x⟩ ⟨r', k', v', z', x'⟩ w
theorem CRow.lit (W : World) (cs : List Cl) (t : TypeId) : CRow (W.alloc (.cells (ccells cs).toArray t)) W.heap.size 0 cs := by
  refine CRow.of_cells fun j u hj => ?_
  rw [Addr.add_lit, Nat.zero_add, World.cell?_alloc_at _ t W.heap.size j rfl]
  simpa using hj
def xc (r : List UInt8) (v : Int) (z : Bool) : Cl := ⟨r, [120], v, z, []⟩
def wk3 : List Cl := [xc [97] 2 false, xc [97] 1 false, xc [98] 1 false]

end Go.Proofs.YtefmplmbalfmiaaGreatDoor

namespace Go.Proofs.YtefmplmbalfmiaaGreatDoor
open Go.RowKit
attribute [local go_sem] size_bstr toList_bstr

theorem flt_long {Bs : List (List Cl)} (hR : Room Bs) : (flt Bs).length ≤ 1048576 := by
  unfold flt
  rw [Bl.mkF_length]
  have := Bl.szz_le (b := 10) (n := (names Bs.flatten).length) (by decide) hR.n
  omega
abbrev w1C : Cl := ⟨[97], [120], 2, false, []⟩
abbrev w2C : Cl := ⟨[97], [120], 1, false, []⟩
abbrev w3C : Cl := ⟨[98], [120], 1, false, []⟩
def cs11 : List Cl := [w1C, w2C, w3C]
def Bs11 : List (List Cl) := [[w1C], [w2C], [w3C]]
theorem chk11 : chkE cs11 1 = 0 := by decide +kernel
theorem cut11 : cutB cs11 (1 : Int).toNat = Bs11 := by kernel_rfl
theorem room11 : Room Bs11 := ⟨by decide +kernel, by decide +kernel, by decide +kernel⟩
theorem gb11 : GB Bs11 := by
  have h := chk_iff.1 chk11
  rw [← cut11]
  exact (cutB_gb (by decide) h.2.1 h.2.2).1
theorem wri11 : wriT cs11 1 = layT Bs11 := by unfold wriT; rw [if_pos chk11, cut11]
theorem len11 : (layT Bs11).length ≤ 1000000 := by
  have h1 := room11.i
  have h2 := flt_long room11
  have h3 : (frs Bs11).length ≤ 1000 := by decide +kernel
  have h4 : (idx Bs11).length ≤ 1000 := by decide +kernel
  have h5 : (flt Bs11).length ≤ 1000 := by decide +kernel
  unfold layT
  simp only [List.length_append, frm_length, be8_length]
  omega
theorem fndA : fnd [97] [120] Bs11.flatten = some w1C := rfl
theorem fndB : fnd [97] [121] Bs11.flatten = none := rfl

set_option maxHeartbeats 4000000 in
set_option maxRecDepth 100000 in
theorem works11_any (w : World) (ht : Tabs w) : Calls Tryz.prog 11 #[] w fun e w' => e = .returned (.bool true) ∧ Below w.heap.size w w' := by
  have hopB := opB_lay room11 gb11
  have hlen := len11
  have hop : ∀ W, Below w.heap.size w W → Calls Tryz.prog 12 #[.string (bstr (layT Bs11))] W fun e w' => Below W.heap.size W w' ∧ ∃ tb vb vl, e = .returned (.tuple #[.pointer (some ⟨tb, 0, none⟩), .int .i64 0]) ∧ TB w' tb vb vl Bs11 := fun W hb => by
    refine (Open_any (layT Bs11) W (by omega) (ht.below hb) (by rw [hopB]; exact room11)).mono ?_
    rintro e w' ⟨hb1, ⟨_, tb, vb, vl, h2, h3⟩ | ⟨h2, _⟩⟩
    · rw [hopB] at h3
      exact ⟨hb1, tb, vb, vl, h2, h3⟩
    · rw [hopB] at h2
      exact absurd rfl h2
  have hget : ∀ (tb : Nat) (vb vl : Value) (W : World), TB W tb vb vl Bs11 → Calls Tryz.prog 15 #[.pointer (some ⟨tb, 0, none⟩), .string (bstr [97]), .string (bstr [120])] W fun e w' => e = .returned (.tuple #[clV w1C, .bool true]) ∧ Below W.heap.size W w' := fun tb vb vl W h => by
    refine (Get_any tb vb vl Bs11 [97] [120] W h gb11 (by decide) (by have := flt_long room11; omega) (by decide)).mono ?_
    rintro e w' ⟨o, rfl, hO, hb⟩
    rw [get_math gb11 hO, fndA]
    exact ⟨rfl, hb⟩
  have hget2 : ∀ (tb : Nat) (vb vl : Value) (W : World), TB W tb vb vl Bs11 → Calls Tryz.prog 15 #[.pointer (some ⟨tb, 0, none⟩), .string (bstr [97]), .string (bstr [121])] W fun e w' => e = .returned (.tuple #[clV (optC none), .bool false]) ∧ Below W.heap.size W w' := fun tb vb vl W h => by
    refine (Get_any tb vb vl Bs11 [97] [121] W h gb11 (by decide) (by have := flt_long room11; omega) (by decide)).mono ?_
    rintro e w' ⟨o, rfl, hO, hb⟩
    rw [get_math gb11 hO, fndB]
    exact ⟨rfl, hb⟩
  obtain ⟨W0, hW0⟩ : ∃ W0, W0 = w.alloc (.cells (ccells cs11).toArray 39) := ⟨_, rfl⟩
  have hb0 : Below w.heap.size w W0 := by rw [hW0]; exact (Below.refl _ _).alloc (Nat.le_refl _) _
  have hcr : CRow W0 w.heap.size 0 cs11 := by rw [hW0]; exact CRow.lit w cs11 _
  have hcb : CBlk W0 w.heap.size := by rw [hW0]; exact ⟨_, _, heap_alloc_new w _⟩
  have hwr := TWrite_any (some ⟨w.heap.size, 0, none⟩) w.heap.size 0 3 cs11 1 W0 (fun _ => ⟨rfl, hcr, hcb⟩) (by decide) (by decide) (ht.below hb0) (fun _ => by rw [cut11]; exact room11)
  rw [wri11, chk11] at hwr
  go_enter Tryz.func11, Tryz.ntmps11
  go_wp2_with fail
  rw [hW0] at hwr hb0
  refine hwr.mono ?_
  rintro e W1 ⟨rfl, hb1⟩
  have hB1 := below2 hb0 hb1
  clear hwr hcr hcb hb0 hb1 hW0
  go_wp2_with fail
  refine (hop W1 hB1).mono ?_
  rintro e W2 ⟨hb2, tb, vb, vl, rfl, hT2⟩
  have hB2 := below2 hB1 hb2
  clear hop hb2 hB1
  go_wp2_with fail
  refine (hget tb vb vl W2 hT2).mono ?_
  rintro e W3 ⟨rfl, hb3⟩
  have hT3 := hT2.below hb3
  have hB3 := below2 hB2 hb3
  clear hget hb3 hB2 hT2
  have hN := CellAt.new W3 39 [97] [120] 2 false []
  have hb4 : Below W3.heap.size W3 (W3.alloc (.cells #[.string (bstr [97]), .string (bstr [120]), .int .u64 2, .bool false, .string (bstr [])] 39)) := (Below.refl _ _).alloc (Nat.le_refl _) _
  have hl4 : W3.heap.size < (W3.alloc (.cells #[.string (bstr [97]), .string (bstr [120]), .int .u64 2, .bool false, .string (bstr [])] 39)).heap.size := by simp
  go_wp2_with fail
  generalize W3.alloc (.cells #[.string (bstr [97]), .string (bstr [120]), .int .u64 2, .bool false, .string (bstr [])] 39) = W4 at *
  have hT4 := hT3.below hb4
  have hB4 := below2 hB3 hb4
  refine (hget2 tb vb vl W4 hT4).mono ?_
  rintro e W5 ⟨rfl, hb5⟩
  have hT5 := hT4.below hb5
  have hB5 := below2 hB4 hb5
  have c5 : W5.cell? ⟨W3.heap.size, 2, none⟩ = some (.int .u64 2) := by rw [(bcell hb5).1 _ _ hl4]; exact hN.c2
  have hl5 : W3.heap.size < W5.heap.size := Nat.lt_of_lt_of_le hl4 hb5.size
  clear hget2 hb5 hB4 hT4 hT3 hN hb4 hB3
  have hN6 := hB5
  go_wp2_with fail
  have hb6 : Below W5.heap.size W5 (W5.alloc (.cells #[.string (bstr (optC none).row), .string (bstr (optC none).col), .int .u64 (optC none).ver, .bool (optC none).gone, .string (bstr (optC none).val)] 39)) := (Below.refl _ _).alloc (Nat.le_refl _) _
  generalize W5.alloc (.cells #[.string (bstr (optC none).row), .string (bstr (optC none).col), .int .u64 (optC none).ver, .bool (optC none).gone, .string (bstr (optC none).val)] 39) = W6 at *
  have hT6 := hT5.below hb6
  have hB6 := below2 hB5 hb6
  have hL := TLen_any tb vb vl Bs11 W6 hT6
  rw [show ((Bs11.flatten.length : Nat) : Int) = 3 from rfl] at hL
  refine hL.mono ?_
  rintro e W7 ⟨rfl, hb7⟩
  have hT7 := hT6.below hb7
  have hB7 := below2 hB6 hb7
  have hK := TBlocks_any tb vb vl Bs11 W7 hT7
  rw [show ((Bs11.length : Nat) : Int) = 3 from rfl] at hK
  clear hL hT6 hT5 hb7 hB6
  go_wp2_with fail
  refine hK.mono ?_
  rintro e W8 ⟨rfl, hb8⟩
  have hB8 := below2 hB7 hb8
  clear hK
  go_wp2_with fail
  go_ret
  exact ⟨rfl, hB8⟩

end Go.Proofs.YtefmplmbalfmiaaGreatDoor

namespace Go.Proofs.YtefmplmbalfmiaaGreatDoor
open Go.RowKit
attribute [local go_sem] Oper.semAt_some
attribute [local go_sem] size_bstr getElem_bstr toList_bstr append_bstr

/-- Bytes that lie in a block of their own, the mark behind them. -/
def Bts (W : World) (g : Nat) (lst : List UInt8) : Prop := ∃ cur, W.heap[g]? = some (.cells cur 5 (cur.size, cur.size + 1)) ∧ lst.length ≤ cur.size ∧ ∀ (j : Nat) (h : j < lst.length), cur[j]? = some (.int .u8 (lst[j].toNat : Int))
theorem Bts.cell {W : World} {g : Nat} {lst : List UInt8} (h : Bts W g lst) (j : Nat) (hj : j < lst.length) : W.cell? ⟨g, j, none⟩ = some (.int .u8 (lst[j].toNat : Int)) := by
  obtain ⟨cur, h1, h2, h3⟩ := h
  unfold World.cell?
  rw [h1]
  exact h3 j hj
theorem Bts.frozen {W : World} {g : Nat} {lst : List UInt8} (h : Bts W g lst) (j : Nat) (hj : j < lst.length) : W.frozen? ⟨g, j, none⟩ = false := by
  obtain ⟨cur, h1, h2, h3⟩ := h
  unfold World.frozen?
  rw [h1]
  simp
  omega
theorem Bts.set {W : World} {g : Nat} {lst : List UInt8} (h : Bts W g lst) (j : Nat) (v : UInt8) : Bts (W.setCell ⟨g, j, none⟩ (.int .u8 (v.toNat : Int))) g (lst.set j v) := by
  obtain ⟨cur, h1, h2, h3⟩ := h
  refine ⟨cur.setIfInBounds j (.int .u8 (v.toNat : Int)), ?_, by rw [List.length_set, Array.size_setIfInBounds]; exact h2, ?_⟩
  · simp [World.setCell, Array.getElem?_modify, h1]
  · intro k hk
    rw [List.length_set] at hk
    rw [Array.getElem?_setIfInBounds, List.getElem_set]
    by_cases hjk : j = k
    · subst hjk
      simp
      omega
    · simp only [hjk, if_false]
      exact h3 k hk
theorem Bts.drawn {W : World} {g : Nat} {lst : List UInt8} (h : Bts W g lst) : Bts W.drew g lst := h
theorem bts_conv (W : World) (L : List UInt8) : Bts (Lib.bytesWorld W 5 (bstr L)) W.heap.size L := by
  refine ⟨Lib.bytesCells W 5 (bstr L), Lib.bytesWorld_at_new W _ _, ?_, ?_⟩
  · unfold Lib.bytesCells
    rw [Array.size_append, Array.size_map, show (bstr L).data.size = L.length from size_bstr L]
    omega
  · intro j hj
    have := Lib.bytesWorld_cell W 5 (bstr L) j (by rw [size_bstr]; exact hj)
    unfold World.cell? at this
    rw [Lib.bytesWorld_at_new] at this
    rw [data_bstr, List.getD_eq_getElem?_getD, List.getElem?_eq_getElem hj] at this
    exact this
theorem below_conv (W : World) (L : List UInt8) : Below W.heap.size W (Lib.bytesWorld W 5 (bstr L)) :=
  ⟨rfl, rfl, rfl, by rw [Lib.bytesWorld_size]; omega, fun k hk => Lib.bytesWorld_at_old W _ _ k hk⟩
theorem mod_fact (x : Int) (m : Nat) (hm : 0 < m) (hm2 : m ≤ 1000000) : ∃ r : Nat, r < m ∧ (wrap64 (x.tmod (m : Int) + (m : Int))).tmod (m : Int) = (r : Int) := by
  have h1 : x.tmod (m : Int) < (m : Int) := Int.tmod_lt_of_pos x (by omega)
  have h2 : -(m : Int) < x.tmod (m : Int) := Int.lt_tmod_of_pos x (by omega)
  generalize x.tmod (m : Int) = y at *
  have e : wrap64 (y + (m : Int)) = y + (m : Int) := by unfold wrap64; omega
  rw [e]
  have h3 := Int.tmod_eq_emod_of_nonneg (a := y + (m : Int)) (b := (m : Int)) (by omega)
  rw [h3]
  have h4 := Int.emod_nonneg (y + (m : Int)) (b := (m : Int)) (by omega)
  have h5 := Int.emod_lt_of_pos (y + (m : Int)) (b := (m : Int)) (by omega)
  exact ⟨((y + (m : Int)) % (m : Int)).toNat, by omega, by omega⟩


theorem wrap_succ {j : Nat} (h : j < 100000) : wrap64 ((j : Int) + 1) = (j : Int) + 1 := by unfold wrap64; omega
theorem own_arg {w : World} {B : Nat} {v : Value} {cs : List Cl} (h : w.ownsRow B 39 5 v cs.length (ccells cs)) : ∃ q g cap, v = .slice q cs.length cap ∧ (0 < cs.length → q = some ⟨g, 0, none⟩ ∧ CRow w g 0 cs ∧ CBlk w g) ∧ cs.length ≤ cap := by
  by_cases h0 : cs = []
  · subst h0
    rcases h.2 with ⟨hv, _⟩ | ⟨g, cap, cur, hv, _, _, hnc, _⟩
    · exact ⟨none, 0, 0, hv, fun h => absurd h (by simp), by simp⟩
    · exact ⟨_, g, cap, hv, fun h => absurd h (by simp), hnc⟩
  · obtain ⟨g1, cap1, hv, hg1, hgl1, hlc, hmx, hcr, hfz⟩ := own_crow h h0
    have hcb : CBlk w g1 := own_cblk h hv
    exact ⟨_, g1, cap1, hv, fun _ => ⟨rfl, hcr, hcb⟩, hlc⟩
theorem TB.kept {w w' : World} {g : Nat} {vb vl : Value} {Bs : List (List Cl)} (h : TB w g vb vl Bs) (h1 : w'.heap[g]? = w.heap[g]?) (h2 : ∀ i, vb.ownBlock = some i → w'.heap[i]? = w.heap[i]?) (h3 : ∀ i, vl.ownBlock = some i → w'.heap[i]? = w.heap[i]?) : TB w' g vb vl Bs :=
  ⟨h1.trans h.t, own_kept h.rb h2, own_kept h.rl h3⟩
/-- The cell that was told last. -/
def lastC (cs : List Cl) : Nat → Cl
  | 0 => ⟨[], [], 0, false, []⟩
  | j + 1 => cs.getD j ⟨[], [], 0, false, []⟩
/-- What a table that is gone through lies in: blocks of P. -/
structure UnT (P : Nat → Prop) (b pb tb : Nat) (vb vl : Value) : Prop where
  b : P b
  p : P pb
  t : P tb
  vb : ∀ i, vb.ownBlock = some i → P i
  vl : ∀ i, vl.ownBlock = some i → P i
theorem UnT.keeps {P : Nat → Prop} {b pb tb : Nat} {vb vl : Value} {pt : Option Addr} {row col : List UInt8} {Bs : List (List Cl)} {W W' : World} (u : UnT P b pb tb vb vl) (h : FrX W b pb pt row col ∧ TB W tb vb vl Bs) (hk : ∀ i, P i → W'.heap[i]? = W.heap[i]?) : FrX W' b pb pt row col ∧ TB W' tb vb vl Bs :=
  ⟨⟨(hk _ u.b).trans h.1.t, (hk _ u.p).trans h.1.p⟩, h.2.kept (hk _ u.t) (fun i hi => hk i (u.vb i hi)) (fun i hi => hk i (u.vl i hi))⟩
/-- Between two cells that are told: R the answer's, lB the last one's, nB the number's, D the range's. -/
structure RJ (w : World) (R lB nB D b pb tb : Nat) (vb vl : Value) (RR : Loop) (Bs : List (List Cl)) (cs : List Cl) (X : Nat → Prop) (j : Nat) (W : World) : Prop where
  r : W.heap[R]? = some (.cells #[.bool false] 4 (0, 0))
  l : W.heap[lB]? = some (.cells (clC (lastC cs j)) 39 (0, 0))
  n : W.heap[nB]? = some (.cells #[.int .i64 (j : Int)] 3 (0, 0))
  d : W.heap[D]? = some (.deferred (some []))
  c : W.heap[D + 1]? = some (.loop RR)
  f : FrX W b pb (some ⟨tb, 0, none⟩) [] [] ∧ TB W tb vb vl Bs
  x : ∀ i, X i → D + 2 ≤ i
  be : Below w.heap.size w W
theorem RJ.abd {w : World} {R lB nB D b pb tb : Nat} {vb vl : Value} {RR : Loop} {Bs : List (List Cl)} {cs : List Cl} {X : Nat → Prop} {j : Nat} {W W' : World} {P : Nat → Prop} (u : UnT P b pb tb vb vl) (hP : ∀ i, P i → i < D) (hD : R < D ∧ lB < D ∧ nB < D ∧ w.heap.size ≤ D) (h : RJ w R lB nB D b pb tb vb vl RR Bs cs X j W) (hk : Kp W W' X) : RJ w R lB nB D b pb tb vb vl RR Bs cs X j W' := by
  have hc := blk_lt h.c
  have hn : ∀ i, i < D + 2 → W'.heap[i]? = W.heap[i]? := fun i hi => hk.block i (by omega) (fun hx => by have := h.x i hx; omega)
  exact ⟨(hn _ (by omega)).trans h.r, (hn _ (by omega)).trans h.l, (hn _ (by omega)).trans h.n, (hn _ (by omega)).trans h.d, (hn _ (by omega)).trans h.c, u.keeps h.f fun i hi => hn i (by have := hP i hi; omega), h.x, Kp.below0 h.be hk fun i hi => by have := h.x i hi; omega⟩

set_option maxHeartbeats 8000000 in
set_option maxRecDepth 100000 in
theorem Refuses_any (q : Option Addr) (b0 off cap : Nat) (xs : List Sp) (at_ : Int) (by_ : Nat) (w : World) (hq : 0 < xs.length → q = some ⟨b0, off, none⟩ ∧ SpRow w b0 off xs ∧ b0 < w.heap.size) (hx : ∀ x ∈ xs, SpOk x) (hby : by_ < 256) (ht : Tabs w) :
    Calls Tryz.prog 6 #[.slice q xs.length cap, .int .i64 at_, .int .u8 (by_ : Int)] w fun e w' => e = .returned (.bool true) ∧ Below w.heap.size w w' := by
  obtain ⟨w1, hw1⟩ : ∃ w1, w1 = w.alloc (.cells #[.bool false] 4) := ⟨_, rfl⟩
  have hb1 : Below w.heap.size w w1 := by rw [hw1]; exact (Below.refl _ _).alloc (Nat.le_refl _) _
  have hR1 : w1.heap[w.heap.size]? = some (.cells #[.bool false] 4 (0, 0)) := by rw [hw1]; exact heap_alloc_new w _
  have hof := of11_any q b0 off cap xs w1 (fun h => by
    obtain ⟨h1, h2, h3⟩ := hq h
    have hc : ∀ o, w1.cell? ⟨b0, o, none⟩ = w.cell? ⟨b0, o, none⟩ := fun o => World.cell?_of_block (hb1.block b0 h3)
    exact ⟨h1, fun i hi => ⟨by rw [hc]; exact (h2 i hi).c0, by rw [hc]; exact (h2 i hi).c1, by rw [hc]; exact (h2 i hi).c2, by rw [hc]; exact (h2 i hi).c3, by rw [hc]; exact (h2 i hi).c4⟩, Nat.lt_of_lt_of_le h3 hb1.size⟩) hx
  obtain ⟨hwri, hG, hfl, hRm, hsl, hs0⟩ := of_lay xs (m := 40) (by decide) (by decide)
  have hck := ofL_chk xs (m := 40) (by decide) (by decide)
  have hlen := ofL_len xs
  have hrow : ∀ c ∈ (cutB (ofL xs) (40 : Int).toNat).flatten, c.row ≠ [] := fun c hc => by rw [hfl] at hc; exact (ofL_mem hc).2.1
  have hcut := fun k (hk : k < _) => opn_cut hRm hG (by omega) (k := k) hk
  have hmore := opn_more hRm hG (by omega) 0
  have htail := opn_tail hG hrow hs0
  clear hrow hfl
  obtain ⟨s, hs⟩ : ∃ s, s = layT (cutB (ofL xs) (40 : Int).toNat) := ⟨_, rfl⟩
  rw [← hs] at hwri hsl hs0 hcut hmore htail
  obtain ⟨k, hkl, hke⟩ := mod_fact at_ s.length hs0 (by omega)
  have hcu := hcut k hkl
  have HW : Hid _ := hwri
  have HCK : Hid _ := hck
  have HRM : Hid _ := hRm
  clear hcut hs hG hwri hck hRm
  refine calls_marks Tryz.func6 rfl ?_
  simp only [Tryz.ntmps6, List.size_toArray, List.length_cons, List.length_nil, Nat.reduceAdd, Nat.reduceSub, Array.replicate_succ, Array.replicate_zero, List.push_toArray, List.append_toArray, List.nil_append, List.cons_append]
  gi_wp2_with fail
  rw [← hw1]
  refine ⟨trivial, (callsIn_wide.2 hof).mono ?_⟩
  rintro e w2 ⟨v, rfl, hown, hb2⟩
  obtain ⟨q2, g2, cap2, rfl, hq2, hcap2⟩ := own_arg hown
  have hb12 := below2 hb1 hb2
  have hwr := TWrite_any q2 g2 0 cap2 (ofL xs) 40 w2 hq2 hcap2 (by omega) (ht.below hb12) (fun _ => HRM.out)
  rw [HW.out, HCK.out] at hwr
  clear hof hq2 hown
  gi_wp2_with fail
  refine ⟨trivial, (callsIn_wide.2 hwr).mono ?_⟩
  rintro e w3 ⟨rfl, hb3⟩
  have hb23 := below2 hb12 hb3
  have hR3 : w3.heap[w.heap.size]? = some (.cells #[.bool false] 4 (0, 0)) := ((below2 hb2 hb3).block _ (blk_lt hR1)).trans hR1
  have ht3 := ht.below hb23
  clear hwr hb12 hb2 hb3 hR1 hw1 hb1 hq hx ht
  have hsi : ¬ ((s.length : Int) = 0) := by omega
  have hsh : ∀ W, (Instr.slice 9 (.string (bstr s)) none (some (.int .i64 (k : Int))) none).run Tryz.prog W = .ok (.string (bstr (s.take k))) W := fun W => run_head _ s k (by omega) W Tryz.underlying9
  have hsf : ∀ W, (Instr.slice 9 (.string (bstr s)) (some (.int .i64 1)) none none).run Tryz.prog W = .ok (.string (bstr (s.drop 1))) W := fun W => run_from _ s 1 (by omega) W Tryz.underlying9
  have hs1l : (s.drop 1).length ≤ 40000 := by rw [List.length_drop]; omega
  generalize s.drop 1 = s1 at *
  have hz1 : (⟨#[0]⟩ : ByteArray) = bstr [0] := rfl
  have hadd : ¬ (9223372036854775807 < s.length + 1) := by omega
  have ho1 := Open_any (s.take k) w3 (by rw [List.length_take]; omega) ht3 (room_open (by rw [List.length_take]; omega))
  gi_wp2_with fail
  refine ⟨trivial, (callsIn_wide.2 ho1).mono ?_⟩
  rintro e w4 ⟨hb4, ⟨h, _⟩ | ⟨_, rfl⟩⟩
  · exact absurd h hcu
  have ho2 := Open_any (s ++ [0]) w4 (by rw [List.length_append, List.length_singleton]; omega) (ht3.below hb4) (room_open (by rw [List.length_append, List.length_singleton]; omega))
  clear ho1 hcu hsh
  gi_wp2_with fail
  refine ⟨trivial, (callsIn_wide.2 ho2).mono ?_⟩
  rintro e w5 ⟨hb5, ⟨h, _⟩ | ⟨_, rfl⟩⟩
  · exact absurd h hmore
  have hb45 := below2 hb4 hb5
  have ho3 := Open_any s1 w5 (by omega) (ht3.below hb45) (room_open (by omega))
  clear ho2 hmore hz1
  gi_wp2_with fail
  refine ⟨trivial, (callsIn_wide.2 ho3).mono ?_⟩
  rintro e w6 ⟨hb6, ⟨h, _⟩ | ⟨_, rfl⟩⟩
  · exact absurd h htail
  have hb46 := below2 hb45 hb6
  have hb06 := below2 hb23 hb46
  have hR6 := (hb46.block _ (blk_lt hR3)).trans hR3
  have ht6 := ht3.below hb46
  clear ho3 htail hsf hb4 hb5 hb45 hb6 hb46 hR3 ht3 hb23
  -- the answer
  have done : ∀ (W : World) (K : World → Prop), W.heap[w.heap.size]? = some (.cells #[.bool false] 4 (0, 0)) → Below w.heap.size w W → W.cell? ⟨w.heap.size, 0, none⟩ = some (.bool false) ∧ W.frozen? ⟨w.heap.size, 0, none⟩ = false ∧ (W.setCell ⟨w.heap.size, 0, none⟩ (.bool true)).cell? ⟨w.heap.size, 0, none⟩ = some (.bool true) ∧ Below w.heap.size w (W.setCell ⟨w.heap.size, 0, none⟩ (.bool true)) := fun W _ h hb =>
    ⟨(Bl.cells_block h).1 0, (Bl.cells_block h).2 0, (Bl.cells_block (heap_set_same h (o := 0) (.bool true))).1 0, Bl.below_set0 hb (Nat.le_refl _) _⟩
  by_cases hz : by_ = 0
  · subst hz
    have hwk := works11_any w6 ht6
    gi_wp2_with fail
    refine ⟨trivial, (callsIn_wide.2 hwk).mono ?_⟩
    rintro e w7 ⟨rfl, hb7⟩
    obtain ⟨d1, d2, d3, d4⟩ := done w7 (fun _ => True) ((hb7.block _ (blk_lt hR6)).trans hR6) (below2 hb06 hb7)
    gi_wp2
    exact ⟨.bool true, by simp [results, Tryz.results6, go_sem, d3], rfl, d4⟩
  have hzi : ¬ ((by_ : Int) = 0) := by omega
  have hcv : ∀ W : World, (convert 9 56 (.string (bstr s))).run Tryz.prog W = .ok (.slice (some ⟨W.heap.size, 0, none⟩) s.length (grownCap W s.length 0 5)) (Lib.bytesWorld W 5 (bstr s)) := by
    intro W
    have := Lib.run_convert_string_bytes (P := Tryz.prog) W 9 56 5 (bstr s) Tryz.underlying9 Tryz.underlying56 Tryz.underlying5
    rw [size_bstr] at this
    exact this
  have hbt0 := bts_conv w6 s
  have hbb := below_conv w6 s
  obtain ⟨Y, hY⟩ : ∃ Y : UInt8, Y = s[k] ^^^ by_.toUInt8 := ⟨_, rfl⟩
  have hxor : bits .xor .u8 ((s[k]).toNat : Int) (by_ : Int) = (Y.toNat : Int) := by
    rw [u8_xor_nat _ _ (s[k]).toNat_lt hby, hY, UInt8.toNat_xor]
    congr 2
    simp [Nat.toUInt8]
    omega
  have c7 := hbt0.cell k hkl
  have f7 := hbt0.frozen k hkl
  have hbt8 := hbt0.set k Y
  have hb68 : Below w6.heap.size w6 ((Lib.bytesWorld w6 5 (bstr s)).setCell ⟨w6.heap.size, k, none⟩ (.int .u8 (Y.toNat : Int))) := Bl.below_set0 hbb (Nat.le_refl _) _
  have hconv : (convert 56 9 (.slice (some ⟨w6.heap.size, 0, none⟩) s.length (grownCap w6 s.length 0 5))).run Tryz.prog ((Lib.bytesWorld w6 5 (bstr s)).setCell ⟨w6.heap.size, k, none⟩ (.int .u8 (Y.toNat : Int))) = .ok (.string (bstr (s.set k Y))) ((Lib.bytesWorld w6 5 (bstr s)).setCell ⟨w6.heap.size, k, none⟩ (.int .u8 (Y.toNat : Int))) := by
    have hl : (s.set k Y).length = s.length := List.length_set
    rw [← hl]
    refine run_convert_bytes_back _ 56 9 5 ⟨w6.heap.size, 0, none⟩ _ (s.set k Y) Tryz.underlying56 Tryz.underlying5 Tryz.underlying9 ?_
    intro j hj
    have := hbt8.cell j hj
    by_cases h0 : j = 0
    · subst h0
      simpa [Addr.add] using this
    · simpa [Addr.add, h0] using this
  have hkI : (k : Int) < (s.length : Int) := by omega
  have hl2 : (s.set k Y).length ≤ 40000 := by rw [List.length_set]; exact hsl
  generalize (s[k]).toNat = sk at *
  generalize s.set k Y = s2 at *
  have HB68 : Hid _ := hb68
  have HR6 : Hid _ := hR6
  clear hbt0 hbb hbt8 hb68 hY hR6
  gi_wp2_with fail
  generalize (Lib.bytesWorld w6 5 (bstr s)).setCell ⟨w6.heap.size, k, none⟩ (.int .u8 (Y.toNat : Int)) = w8 at *
  have hb68 := HB68.out
  have hb08 := below2 hb06 hb68
  have hR8 := (hb68.block _ (blk_lt HR6.out)).trans HR6.out
  have ht8 := ht6.below hb68
  have ho4 := Open_any s2 w8 (by omega) ht8 (room_open (by omega))
  clear HB68 HR6 hb68 hconv c7 f7 hcv hb06 ht6
  refine ⟨trivial, (callsIn_wide.2 ho4).mono ?_⟩
  rintro e w9 ⟨hb9, ⟨_, tb, vb, vl, rfl, hTB⟩ | ⟨_, rfl⟩⟩
  case inr =>
    have hwk := works11_any w9 (ht8.below hb9)
    gi_wp2_with fail
    refine ⟨trivial, (callsIn_wide.2 hwk).mono ?_⟩
    rintro e w10 ⟨rfl, hb10⟩
    obtain ⟨d1, d2, d3, d4⟩ := done w10 (fun _ => True) (((below2 hb9 hb10).block _ (blk_lt hR8)).trans hR8) (below2 hb08 (below2 hb9 hb10))
    gi_wp2
    exact ⟨.bool true, by simp [results, Tryz.results6, go_sem, d3], rfl, d4⟩
  have hb09 := below2 hb08 hb9
  have hR9 := (hb9.block _ (blk_lt hR8)).trans hR8
  have ht9 := ht8.below hb9
  have hGB := opB_gb s2
  have hfew := opB_few s2
  have hfl := flat_few (Bs := opB s2) fun B hB => (hGB.good B hB).2
  generalize opB s2 = Bs at *
  clear ho4 hb08 hR8 ht8
  gi_wp2_with fail
  obtain ⟨wa, hwa⟩ : ∃ wa, wa = (w9.alloc (.cells #[.string ⟨#[]⟩, .string ⟨#[]⟩, .int .u64 0, .bool false, .string ⟨#[]⟩] 39)).alloc (.cells #[.int .i64 0] 3) := ⟨_, rfl⟩
  have hba : Below w9.heap.size w9 wa := by rw [hwa]; exact ((Below.refl _ _).alloc (Nat.le_refl _) _).alloc (by simp) _
  have hla : wa.heap[w9.heap.size]? = some (.cells (clC ⟨[], [], 0, false, []⟩) 39 (0, 0)) := by rw [hwa]; exact (Below.heap_alloc _ _ _ (by simp)).trans (heap_alloc_new w9 _)
  have hna : wa.heap[w9.heap.size + 1]? = some (.cells #[.int .i64 0] 3 (0, 0)) := by
    rw [hwa]
    have := heap_alloc_new (w9.alloc (.cells #[.string ⟨#[]⟩, .string ⟨#[]⟩, .int .u64 0, .bool false, .string ⟨#[]⟩] 39)) (.cells #[.int .i64 0] 3)
    simpa using this
  rw [← hwa]
  clear hwa
  have hall := TAll_any (some ⟨tb, 0, none⟩) wa
  refine ⟨trivial, (callsIn_wide.2 hall).mono ?_⟩
  rintro e wb ⟨b, pb, rfl, hX, hB1, hB2, hbb⟩
  clear hall
  gi_wp2_with fail
  refine wp_range2 (by omega) rfl (enters_of Tryz.func42 (by kernel_rfl) rfl) ?_
  intro RR hRR
  have hbW : Below wb.heap.size wb ((wb.alloc (.deferred (some []))).alloc (.loop RR)) := ((Below.refl _ _).alloc (Nat.le_refl _) _).alloc (by simp) _
  have hWa : ((wb.alloc (.deferred (some []))).alloc (.loop RR)).heap[wb.heap.size + 1]? = some (.loop RR) := by
    have := World.alloc_heap_new (wb.alloc (.deferred (some []))) (.loop RR)
    rwa [World.size_alloc] at this
  have hWb : ((wb.alloc (.deferred (some []))).alloc (.loop RR)).heap[wb.heap.size]? = some (.deferred (some [])) := (Below.heap_alloc _ _ _ (by simp)).trans (World.alloc_heap_new wb _)
  obtain ⟨W1, hWW⟩ : ∃ W1, W1 = (wb.alloc (.deferred (some []))).alloc (.loop RR) := ⟨_, rfl⟩
  rw [← hWW] at hbW hWa hWb ⊢
  clear hWW
  have zt := blk_lt hTB.t
  have za := blk_lt hna
  have zb := hbb.size
  have hu : UnT (fun i => i < wb.heap.size ∧ i ≠ w9.heap.size ∧ i ≠ w9.heap.size + 1) b pb tb vb vl := ⟨⟨blk_lt hX.t, by omega, by omega⟩, ⟨blk_lt hX.p, by omega, by omega⟩, by omega, fun i hi => by have := (own_blk_lt hTB.rb hi).1; omega, fun i hi => by have := (own_blk_lt hTB.rl hi).1; omega⟩
  have hTW := hTB.below (below2 (below2 hba hbb) hbW)
  have hXW := hX.below hbW
  have z9 := blk_lt hR9
  have hba1 := below2 hbb hbW
  have hct := from1_tells b pb tb vb vl Bs [] [] hGB (by omega)
  rw [frmL_all] at hct
  have hJ0 : RJ w9 w.heap.size w9.heap.size (w9.heap.size + 1) wb.heap.size b pb tb vb vl RR Bs Bs.flatten (fun _ => False) 0 W1 := by
    exact ⟨((below2 hba hba1).block _ z9).trans hR9, (hba1.block _ (by omega)).trans hla, (hba1.block _ (by omega)).trans hna, hWb, hWa, ⟨hXW, hTW⟩, fun _ h => h.elim, below2 hba hba1⟩
  have hDD : w.heap.size < wb.heap.size ∧ w9.heap.size < wb.heap.size ∧ (w9.heap.size + 1) < wb.heap.size ∧ w9.heap.size ≤ wb.heap.size := by omega
  have hd1 : w9.heap.size ≠ (w9.heap.size + 1) := by omega
  have hd2 : w.heap.size < w9.heap.size := by omega
  clear hWa hWb hXW hTW hla hna hbW hba1
  have hte := hct (wb.heap.size + 1) W1 (RJ w9 w.heap.size w9.heap.size (w9.heap.size + 1) wb.heap.size b pb tb vb vl RR Bs Bs.flatten) (fun _ _ => False) (fun X j W W' h hk => h.abd hu (fun i hi => hi.1) hDD hk) (fun X X' j W h hx => ⟨h.r, h.l, h.n, h.d, h.c, h.f, fun i hi => by
    rcases hx i hi with hi | hi
    · exact h.x i hi
    · have := blk_lt h.c; omega, h.be⟩) (fun X j W h => h.f) (fun _ _ _ h => h.elim) hJ0 ?_
  · refine hte.mono ?_
    clear hte hct hJ0
    rintro e W2 ⟨⟨u, rfl⟩, ⟨X, hj⟩ | ⟨_, h⟩⟩
    case inr => exact h.elim
    refine ⟨⟨_, rfl⟩, Or.inl ⟨hj.c, ?_⟩⟩
    have hR3 : (W2.putObj (wb.heap.size + 1) (.loop { RR with state := .exhausted })).heap[w.heap.size]? = some (.cells #[.bool false] 4 (0, 0)) := (World.putObj_heap_other (by omega)).trans hj.r
    have hd3 : (W2.putObj (wb.heap.size + 1) (.loop { RR with state := .exhausted })).heap[wb.heap.size]? = some (.deferred (some [])) := (World.putObj_heap_other (by omega)).trans hj.d
    have hb3 : Below w9.heap.size w9 (W2.putObj (wb.heap.size + 1) (.loop { RR with state := .exhausted })) := Bl.below_put hj.be (by omega) _
    generalize W2.putObj (wb.heap.size + 1) (.loop { RR with state := .exhausted }) = W3 at *
    have hwk := works11_any W3 (ht9.below hb3)
    clear hj
    gi_wp2_with fail
    refine ⟨trivial, (callsIn_wide.2 hwk).mono ?_⟩
    rintro e W4 ⟨rfl, hb4⟩
    have hR4 := (hb4.block _ (blk_lt hR3)).trans hR3
    have hd4 := (hb4.block _ (blk_lt hd3)).trans hd3
    obtain ⟨d1, d2, d3, d4⟩ := done W4 (fun _ => True) hR4 (below2 (below2 hb09 hb3) hb4)
    have hd5 : (W4.setCell ⟨w.heap.size, 0, none⟩ (.bool true)).heap[wb.heap.size]? = some (.deferred (some [])) := (heap_set_other _ (by omega)).trans hd4
    have d5 : ((W4.setCell ⟨w.heap.size, 0, none⟩ (.bool true)).putObj wb.heap.size (.deferred none)).cell? ⟨w.heap.size, 0, none⟩ = some (.bool true) := by
      have : ((W4.setCell ⟨w.heap.size, 0, none⟩ (.bool true)).putObj wb.heap.size (.deferred none)).heap[w.heap.size]? = _ := (World.putObj_heap_other (by omega)).trans (heap_set_same hR4 (o := 0) (.bool true))
      exact (Bl.cells_block this).1 0
    gi_wp2
    refine ⟨by simp, .inl ⟨_, _, rfl, run_takeDeferred hd5, ?_⟩⟩
    exact ⟨.bool true, by simp [results, Tryz.results6, go_sem, d5], rfl, Bl.below_put d4 (by omega) _⟩
  · have HFL : Hid (Bs.flatten.length ≤ 100000) := by show _ ≤ _; omega
    clear hct hJ0 hfew hfl hlen hs0 hsl hkl hke HW HCK HRM hcap2 hsi hs1l hadd hz hzi hkI hxor hl2 hb9 hb09 ht9 done hR9 hX hB1 hB2 hbb hba hTB zt
    intro m X j W c hc hXl hj
    have key : ∀ RP : Ending → World → Prop, Hid (∀ W', RJ w9 w.heap.size w9.heap.size (w9.heap.size + 1) wb.heap.size b pb tb vb vl RR Bs Bs.flatten X (j + 1) W' → (∀ i, X i → W'.heap[i]? = W.heap[i]?) → RP (.returned (.bool true)) W') → YieldAt Fence.wide m Tryz.prog (wb.heap.size + 1) #[clV c] W RP := by
      intro RP hT
      have eRR : ({ RR with state := .ready, pending := none } : Loop) = RR := by
        have e1 := hRR.s
        have e2 := hRR.e
        cases RR
        simp_all
      have hjl : j < Bs.flatten.length := (List.getElem?_eq_some_iff.1 hc).1
      have hjc : Bs.flatten.getD j ⟨[], [], 0, false, []⟩ = c := by rw [List.getD_eq_getElem?_getD, hc]; rfl
      have hasc : 0 < j → ccl (lastC Bs.flatten j) c < 0 := fun h0 => by
        obtain ⟨i, rfl⟩ : ∃ i, j = i + 1 := ⟨j - 1, by omega⟩
        show ccl (Bs.flatten.getD i _) c < 0
        have hil : i < Bs.flatten.length := by omega
        rw [List.getD_eq_getElem?_getD, List.getElem?_eq_getElem hil]
        have h3 := List.pairwise_iff_getElem.1 hGB.asc i (i + 1) hil hjl (by omega)
        rw [List.getElem?_eq_getElem hjl] at hc
        cases hc
        exact h3
      obtain ⟨cr, ck, cv, cg, cx⟩ := c
      have hb : Below W.heap.size W (W.alloc (.cells #[.string (bstr cr), .string (bstr ck), .int .u64 cv, .bool cg, .string (bstr cx)] 39)) := (Below.refl _ _).alloc (Nat.le_refl _) _
      have hcA := heap_alloc_new W (.cells #[.string (bstr cr), .string (bstr ck), .int .u64 cv, .bool cg, .string (bstr cx)] 39)
      have hjr := hj.c
      have HRR : Hid _ := hRR
      have HJ : Hid _ := hj
      have HJC : Hid _ := hjc
      have HXL : Hid _ := hXl
      refine yield_round2 hjr hRR rfl ?_
      clear hRR hj hjc hc hXl
      gi_wp2
      generalize hWa : W.alloc (.cells #[.string (bstr cr), .string (bstr ck), .int .u64 cv, .bool cg, .string (bstr cx)] 39) = Wa at *
      have h1a := (hb.block _ (blk_lt hjr)).trans hjr
      refine ⟨_, run_beginRound h1a HRR.out.s, ?_⟩
      have hlt := blk_lt hjr
      have hne : W.heap.size ≠ wb.heap.size + 1 := by omega
      have hWk : ∀ i, i < W.heap.size → i ≠ wb.heap.size + 1 → (Wa.putObj (wb.heap.size + 1) (.loop { RR with state := .busy })).heap[i]? = W.heap[i]? := fun i hi h2 => (World.putObj_heap_other h2).trans (hb.block i hi)
      have hrB : (Wa.putObj (wb.heap.size + 1) (.loop { RR with state := .busy })).heap[wb.heap.size + 1]? = some (.loop { RR with state := .busy }) := World.putObj_heap_same (blk_lt h1a)
      have hcB : (Wa.putObj (wb.heap.size + 1) (.loop { RR with state := .busy })).heap[W.heap.size]? = _ := (World.putObj_heap_other hne).trans hcA
      have hszB : W.heap.size < (Wa.putObj (wb.heap.size + 1) (.loop { RR with state := .busy })).heap.size := blk_lt hcB
      have hbeB : Below w9.heap.size w9 (Wa.putObj (wb.heap.size + 1) (.loop { RR with state := .busy })) := Bl.below_put (below2 HJ.out.be hb) (by omega) _
      generalize Wa.putObj (wb.heap.size + 1) (.loop { RR with state := .busy }) = Wb at *
      have hlB := (hWk w9.heap.size (by omega) (by omega)).trans HJ.out.l
      have hnB := (hWk (w9.heap.size + 1) (by omega) (by omega)).trans HJ.out.n
      clear hWa hb hcA h1a
      have hwp : wrap64 ((j : Int) + 1) = (j : Int) + 1 := wrap_succ (Nat.lt_of_lt_of_le hjl HFL.out)
      clear hjl
      have n0 : Wb.cell? ⟨(w9.heap.size + 1), 0, none⟩ = some (.int .i64 (j : Int)) := (Bl.cells_block hnB).1 0
      have close : ∀ (Wd W7 : World), Below Wb.heap.size Wb Wd → Kp Wd W7 (fun i => i = w9.heap.size ∨ i = (w9.heap.size + 1)) → W7.heap[w9.heap.size]? = some (.cells (clC ⟨cr, ck, cv, cg, cx⟩) 39 (0, 0)) → W7.heap[(w9.heap.size + 1)]? = some (.cells #[.int .i64 ((j : Int) + 1)] 3 (0, 0)) → RP (.returned (.bool true)) (W7.putObj (wb.heap.size + 1) (.loop RR)) := by
        intro Wd W7 hbd hk h1 h2
        have hall : ∀ i, i < W.heap.size → i ≠ wb.heap.size + 1 → i ≠ w9.heap.size → i ≠ (w9.heap.size + 1) → (W7.putObj (wb.heap.size + 1) (.loop RR)).heap[i]? = W.heap[i]? := fun i hi a1 a2 a3 => by
          have hi2 : i < Wb.heap.size := by omega
          rw [World.putObj_heap_other a1, hk.block i (Nat.lt_of_lt_of_le hi2 hbd.size) (fun h => by rcases h with h | h; exact a2 h; exact a3 h), hbd.block i hi2, hWk i hi a1]
        have hD1 : wb.heap.size + 1 < W7.heap.size := Nat.lt_of_lt_of_le (Nat.lt_of_lt_of_le (blk_lt hrB) hbd.size) hk.size
        refine hT.out _ ⟨(hall _ (by omega) (by omega) (by omega) (by omega)).trans HJ.out.r, (World.putObj_heap_other (by omega)).trans ?_, (World.putObj_heap_other (by omega)).trans (by rw [h2]; rfl), (hall _ (by omega) (by omega) (by omega) (by omega)).trans HJ.out.d, World.putObj_heap_same hD1, hu.keeps HJ.out.f fun i hi => ?_, HJ.out.x, ?_⟩ (fun i hi => hall i (HXL.out i hi).2 (by have := HJ.out.x i hi; omega) (by have := HJ.out.x i hi; omega) (by have := HJ.out.x i hi; omega))
        · rw [h1]
          show _ = some (Obj.cells (clC (Bs.flatten.getD j _)) _ _)
          rw [HJC.out]
        · exact hall i (by omega) (by omega) hi.2.1 hi.2.2
        · exact Bl.below_put (Kp.below0 (below2 hbeB hbd) hk fun i hi => by rcases hi with rfl | rfl <;> omega) (by omega) _
      rcases Nat.eq_zero_or_pos j with hj0 | hj0
      · have hgt : ¬ ((0 : Int) < (j : Int)) := by omega
        have hbd : Below Wb.heap.size Wb Wb := Below.refl _ _
        clear n0
        have hrD := (hbd.block _ (blk_lt hrB)).trans hrB
        have hlD := (hbd.block _ (blk_lt hlB)).trans hlB
        have hnD := (hbd.block _ (blk_lt hnB)).trans hnB
        have hcD := (hbd.block _ (blk_lt hcB)).trans hcB
        obtain ⟨l0, l1, l2, l3, l4⟩ := cells5 hlD
        obtain ⟨f0, f1, f2, f3, f4⟩ := froz5 hlD
        obtain ⟨e0, e1, e2, e3, e4⟩ : Wb.cell? ⟨W.heap.size, 0, none⟩ = some (.string (bstr cr)) ∧ Wb.cell? ⟨W.heap.size, 1, none⟩ = some (.string (bstr ck)) ∧ Wb.cell? ⟨W.heap.size, 2, none⟩ = some (.int .u64 cv) ∧ Wb.cell? ⟨W.heap.size, 3, none⟩ = some (.bool cg) ∧ Wb.cell? ⟨W.heap.size, 4, none⟩ = some (.string (bstr cx)) := ⟨(Bl.cells_block hcD).1 0, (Bl.cells_block hcD).1 1, (Bl.cells_block hcD).1 2, (Bl.cells_block hcD).1 3, (Bl.cells_block hcD).1 4⟩
        have n0 : Wb.cell? ⟨w9.heap.size + 1, 0, none⟩ = some (.int .i64 (j : Int)) := (Bl.cells_block hnD).1 0
        have hs5 := set5_heap hlD ⟨cr, ck, cv, cg, cx⟩
        have hK5 := set5_kp Wb w9.heap.size ⟨cr, ck, cv, cg, cx⟩
        have hn5 : (set5W Wb w9.heap.size ⟨cr, ck, cv, cg, cx⟩).heap[w9.heap.size + 1]? = some (.cells #[.int .i64 (j : Int)] 3 (0, 0)) := (hK5.block (w9.heap.size + 1) (blk_lt hnD) (by omega)).trans hnD
        have n1 : (set5W Wb w9.heap.size ⟨cr, ck, cv, cg, cx⟩).cell? ⟨w9.heap.size + 1, 0, none⟩ = some (.int .i64 (j : Int)) := (Bl.cells_block hn5).1 0
        have n2 : (set5W Wb w9.heap.size ⟨cr, ck, cv, cg, cx⟩).frozen? ⟨w9.heap.size + 1, 0, none⟩ = false := (Bl.cells_block hn5).2 0
        have hn6 := heap_set_same hn5 (o := 0) (.int .i64 ((j : Int) + 1))
        have hK6 : Kp Wb ((set5W Wb w9.heap.size ⟨cr, ck, cv, cg, cx⟩).setCell ⟨w9.heap.size + 1, 0, none⟩ (.int .i64 ((j : Int) + 1))) (fun i => i = w9.heap.size ∨ i = w9.heap.size + 1) := (hK5.mono fun i hi => Or.inl (Or.inl hi)).setCell _ (Or.inl (Or.inr rfl))
        have hl6 : ((set5W Wb w9.heap.size ⟨cr, ck, cv, cg, cx⟩).setCell ⟨w9.heap.size + 1, 0, none⟩ (.int .i64 ((j : Int) + 1))).heap[w9.heap.size]? = some (.cells (clC ⟨cr, ck, cv, cg, cx⟩) 39 (0, 0)) := (heap_set_other _ (by omega)).trans hs5
        have hc6 : ((set5W Wb w9.heap.size ⟨cr, ck, cv, cg, cx⟩).setCell ⟨w9.heap.size + 1, 0, none⟩ (.int .i64 ((j : Int) + 1))).heap[wb.heap.size + 1]? = some (.loop { RR with state := .busy }) := (hK6.block (wb.heap.size + 1) (blk_lt hrD) (by omega)).trans hrD
        have HCL : Hid _ := close Wb _ hbd hK6 hl6 hn6
        have HC6 : Hid _ := hc6
        unfold set5W at n1 n2
        clear hs5 hK5 hn5 hK6 hl6 hc6 hn6 close hlD hnD hcD hrD hlB hnB hcB hrB hWk hbeB hbd
        gi_wp2
        refine ⟨trivial, ?_⟩
        clear hj0 hasc hDD hd1 hd2 z9 za zb hlt hszB hne
        gi_wp2
        refine ⟨_, _, run_endRound (r := { RR with state := .busy }) none HC6.out, ?_⟩
        show RP _ (World.putObj _ _ (Obj.loop { RR with state := .ready, pending := none }))
        rw [eRR]
        exact HCL.out
      · have hgt : (0 : Int) < (j : Int) := by omega
        have hcc := hasc hj0
        obtain ⟨l0, l1, l2, l3, l4⟩ := cells5 hlB
        obtain ⟨e0, e1, e2, e3, e4⟩ : Wb.cell? ⟨W.heap.size, 0, none⟩ = some (.string (bstr cr)) ∧ Wb.cell? ⟨W.heap.size, 1, none⟩ = some (.string (bstr ck)) ∧ Wb.cell? ⟨W.heap.size, 2, none⟩ = some (.int .u64 cv) ∧ Wb.cell? ⟨W.heap.size, 3, none⟩ = some (.bool cg) ∧ Wb.cell? ⟨W.heap.size, 4, none⟩ = some (.string (bstr cx)) := ⟨(Bl.cells_block hcB).1 0, (Bl.cells_block hcB).1 1, (Bl.cells_block hcB).1 2, (Bl.cells_block hcB).1 3, (Bl.cells_block hcB).1 4⟩
        generalize lastC Bs.flatten j = la at *
        obtain ⟨pr, pk, pv, pg, px⟩ := la
        have hcm := fun W => Cmp_any pr pk pv pg px cr ck cv cg cx W
        change cc pr pk pv cr ck cv < 0 at hcc
        generalize cc pr pk pv cr ck cv = D0 at *
        have hcd : decide ((0 : Int) ≤ D0) = false := by simp; omega
        have HCC : Hid _ := hcc
        clear hcc
        gi_wp2_with fail
        refine ⟨trivial, fun h => (by cases h), (CallsIn.inRound _ (callsIn_wide.2 (hcm _))).mono ?_⟩
        rintro e Wd ⟨rfl, hbd⟩
        clear l0 l1 l2 l3 l4 e0 e1 e2 e3 e4 n0 hcm
        have hrD := (hbd.block _ (blk_lt hrB)).trans hrB
        have hlD := (hbd.block _ (blk_lt hlB)).trans hlB
        have hnD := (hbd.block _ (blk_lt hnB)).trans hnB
        have hcD := (hbd.block _ (blk_lt hcB)).trans hcB
        obtain ⟨l0, l1, l2, l3, l4⟩ := cells5 hlD
        obtain ⟨f0, f1, f2, f3, f4⟩ := froz5 hlD
        obtain ⟨e0, e1, e2, e3, e4⟩ : Wd.cell? ⟨W.heap.size, 0, none⟩ = some (.string (bstr cr)) ∧ Wd.cell? ⟨W.heap.size, 1, none⟩ = some (.string (bstr ck)) ∧ Wd.cell? ⟨W.heap.size, 2, none⟩ = some (.int .u64 cv) ∧ Wd.cell? ⟨W.heap.size, 3, none⟩ = some (.bool cg) ∧ Wd.cell? ⟨W.heap.size, 4, none⟩ = some (.string (bstr cx)) := ⟨(Bl.cells_block hcD).1 0, (Bl.cells_block hcD).1 1, (Bl.cells_block hcD).1 2, (Bl.cells_block hcD).1 3, (Bl.cells_block hcD).1 4⟩
        have n0 : Wd.cell? ⟨w9.heap.size + 1, 0, none⟩ = some (.int .i64 (j : Int)) := (Bl.cells_block hnD).1 0
        have hs5 := set5_heap hlD ⟨cr, ck, cv, cg, cx⟩
        have hK5 := set5_kp Wd w9.heap.size ⟨cr, ck, cv, cg, cx⟩
        have hn5 : (set5W Wd w9.heap.size ⟨cr, ck, cv, cg, cx⟩).heap[w9.heap.size + 1]? = some (.cells #[.int .i64 (j : Int)] 3 (0, 0)) := (hK5.block (w9.heap.size + 1) (blk_lt hnD) (by omega)).trans hnD
        have n1 : (set5W Wd w9.heap.size ⟨cr, ck, cv, cg, cx⟩).cell? ⟨w9.heap.size + 1, 0, none⟩ = some (.int .i64 (j : Int)) := (Bl.cells_block hn5).1 0
        have n2 : (set5W Wd w9.heap.size ⟨cr, ck, cv, cg, cx⟩).frozen? ⟨w9.heap.size + 1, 0, none⟩ = false := (Bl.cells_block hn5).2 0
        have hn6 := heap_set_same hn5 (o := 0) (.int .i64 ((j : Int) + 1))
        have hK6 : Kp Wd ((set5W Wd w9.heap.size ⟨cr, ck, cv, cg, cx⟩).setCell ⟨w9.heap.size + 1, 0, none⟩ (.int .i64 ((j : Int) + 1))) (fun i => i = w9.heap.size ∨ i = w9.heap.size + 1) := (hK5.mono fun i hi => Or.inl (Or.inl hi)).setCell _ (Or.inl (Or.inr rfl))
        have hl6 : ((set5W Wd w9.heap.size ⟨cr, ck, cv, cg, cx⟩).setCell ⟨w9.heap.size + 1, 0, none⟩ (.int .i64 ((j : Int) + 1))).heap[w9.heap.size]? = some (.cells (clC ⟨cr, ck, cv, cg, cx⟩) 39 (0, 0)) := (heap_set_other _ (by omega)).trans hs5
        have hc6 : ((set5W Wd w9.heap.size ⟨cr, ck, cv, cg, cx⟩).setCell ⟨w9.heap.size + 1, 0, none⟩ (.int .i64 ((j : Int) + 1))).heap[wb.heap.size + 1]? = some (.loop { RR with state := .busy }) := (hK6.block (wb.heap.size + 1) (blk_lt hrD) (by omega)).trans hrD
        have HCL : Hid _ := close Wd _ hbd hK6 hl6 hn6
        have HC6 : Hid _ := hc6
        unfold set5W at n1 n2
        clear hs5 hK5 hn5 hK6 hl6 hc6 hn6 close hlD hnD hcD hrD hlB hnB hcB hrB hWk hbeB hbd
        clear hj0 hasc hDD hd1 hd2 z9 za zb hlt hszB hne
        gi_wp2
        refine ⟨_, _, run_endRound (r := { RR with state := .busy }) none HC6.out, ?_⟩
        show RP _ (World.putObj _ _ (Obj.loop { RR with state := .ready, pending := none }))
        rw [eRR]
        exact HCL.out
    exact key _ (fun W' h1 h2 => Or.inl ⟨rfl, h1, h2⟩)

end Go.Proofs.YtefmplmbalfmiaaGreatDoor
