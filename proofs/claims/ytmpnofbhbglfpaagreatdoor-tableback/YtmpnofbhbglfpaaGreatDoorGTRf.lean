/-
  '==' of two cells.
  The law's 'works'.
  TableRefuses: one who is told cells, and holds them to their order.
-/
import Derived.Test.YtmpnofbhbglfpaaGreatDoorGEOpen
import Derived.Test.YtmpnofbhbglfpaaGreatDoorGTGetM
import Derived.Test.YtmpnofbhbglfpaaGreatDoorTFr1
import Derived.Test.YtmpnofbhbglfpaaGreatDoorGTRfM
import Derived.Lib.ConvBytes
import Derived.OpenShut
import Derived.Laws.IdiomStrings
namespace Go.Proofs.YtmpnofbhbglfpaaGreatDoor
open Go.RowKit Go.BigFrame Go.Sort
attribute [local go_sem] size_bstr toList_bstr ls_def
theorem cell_eql5 (r k : List UInt8) (v : Int) (z : Bool) (x r' k' : List UInt8) (v' : Int) (z' : Bool) (x' : List UInt8) (w : World) : (binOp .eql 39 (.agg #[.string (bstr r), .string (bstr k), .int .u64 v, .bool z, .string (bstr x)]) (.agg #[.string (bstr r'), .string (bstr k'), .int .u64 v', .bool z', .string (bstr x')])).run Tryz.prog w = .ok (.bool (eqC ⟨r, k, v, z, x⟩ ⟨r', k', v', z', x'⟩)) w := cell_eql ⟨r, k, v, z, x⟩ ⟨r', k', v', z', x'⟩ w
theorem cell_neq5 (r k : List UInt8) (v : Int) (z : Bool) (x r' k' : List UInt8) (v' : Int) (z' : Bool) (x' : List UInt8) (w : World) : (binOp .neq 39 (.agg #[.string (bstr r), .string (bstr k), .int .u64 v, .bool z, .string (bstr x)]) (.agg #[.string (bstr r'), .string (bstr k'), .int .u64 v', .bool z', .string (bstr x')])).run Tryz.prog w = .ok (.bool (!eqC ⟨r, k, v, z, x⟩ ⟨r', k', v', z', x'⟩)) w := cell_neq ⟨r, k, v, z, x⟩ ⟨r', k', v', z', x'⟩ w
theorem CRow.lit (W : World) (cs : List Cl) (t : TypeId) : CRow (W.alloc (.cells (ccells cs).toArray t)) W.heap.size 0 cs := by
  refine CRow.of_cells fun j u hj => ?_
  rw [Addr.add_lit, Nat.zero_add, World.cell?_alloc_at _ t W.heap.size j rfl]
  simpa using hj
def xc (r : List UInt8) (v : Int) (z : Bool) : Cl := ⟨r, [120], v, z, []⟩
def wk3 : List Cl := [xc [97] 2 false, xc [97] 1 false, xc [98] 1 false]

end Go.Proofs.YtmpnofbhbglfpaaGreatDoor

namespace Go.Proofs.YtmpnofbhbglfpaaGreatDoor
open Go.RowKit
attribute [local go_sem] size_bstr toList_bstr

theorem flt_long {Bs : List (List Cl)} (hR : Room Bs) : (flt Bs).length ≤ 1048576 := by
  unfold flt
  rw [Bl.mkF_length]
  have := Bl.szz_le (b := 10) (n := (names Bs.flatten).length) (by decide) hR.n
  omega
abbrev w1C : Cl := ⟨[97], [120], 2, false, []⟩
abbrev w2C : Cl := ⟨[97], [120], 1, false, []⟩
abbrev w3C : Cl := ⟨[98], [120], 1, false, []⟩
def cs11 : List Cl := [w1C, w2C, w3C]
def Bs11 : List (List Cl) := [[w1C], [w2C], [w3C]]
theorem chk11 : chkE cs11 1 = 0 := by decide +kernel
theorem cut11 : cutB cs11 (1 : Int).toNat = Bs11 := by kernel_rfl
theorem room11 : Room Bs11 := ⟨by decide +kernel, by decide +kernel, by decide +kernel⟩
theorem gb11 : GB Bs11 := by
  have h := chk_iff.1 chk11
  rw [← cut11]
  exact (cutB_gb (by decide) h.2.1 h.2.2).1
theorem wri11 : wriT cs11 1 = layT Bs11 := by unfold wriT; rw [if_pos chk11, cut11]
theorem len11 : (layT Bs11).length ≤ 1000000 := by
  have h1 := room11.i
  have h2 := flt_long room11
  have h3 : (frs Bs11).length ≤ 1000 := by decide +kernel
  have h4 : (idx Bs11).length ≤ 1000 := by decide +kernel
  have h5 : (flt Bs11).length ≤ 1000 := by decide +kernel
  unfold layT
  simp only [List.length_append, frm_length, be8_length]
  omega
theorem fndA : fnd [97] [120] Bs11.flatten = some w1C := rfl
theorem fndB : fnd [97] [121] Bs11.flatten = none := rfl

set_option maxHeartbeats 4000000 in
set_option maxRecDepth 100000 in
theorem works11_any (w : World) (ht : Tabs w) : Calls Tryz.prog 10 #[] w fun e w' => e = .returned (.bool true) ∧ Below w.heap.size w w' := by
  have hopB := opB_lay room11 gb11
  have hlen := len11
  have hop : ∀ W, Below w.heap.size w W → Calls Tryz.prog 11 #[.string (bstr (layT Bs11))] W fun e w' => Below W.heap.size W w' ∧ ∃ tb vb vl, e = .returned (.tuple #[.pointer (some ⟨tb, 0, none⟩), .int .i64 0]) ∧ TB w' tb vb vl Bs11 := fun W hb => by
    refine (Open_any (layT Bs11) W (by omega) (ht.below hb) (by rw [hopB]; exact room11)).mono ?_
    rintro e w' ⟨hb1, ⟨_, tb, vb, vl, h2, h3⟩ | ⟨h2, _⟩⟩
    · rw [hopB] at h3
      exact ⟨hb1, tb, vb, vl, h2, h3⟩
    · rw [hopB] at h2
      exact absurd rfl h2
  have hget : ∀ (tb : Nat) (vb vl : Value) (W : World), TB W tb vb vl Bs11 → Calls Tryz.prog 14 #[.pointer (some ⟨tb, 0, none⟩), .string (bstr [97]), .string (bstr [120])] W fun e w' => e = .returned (.tuple #[clV w1C, .bool true]) ∧ Below W.heap.size W w' := fun tb vb vl W h => by
    refine (Get_any tb vb vl Bs11 [97] [120] W h gb11 (by decide) (by have := flt_long room11; omega) (by decide)).mono ?_
    rintro e w' ⟨o, rfl, hO, hb⟩
    rw [get_math gb11 hO, fndA]
    exact ⟨rfl, hb⟩
  have hget2 : ∀ (tb : Nat) (vb vl : Value) (W : World), TB W tb vb vl Bs11 → Calls Tryz.prog 14 #[.pointer (some ⟨tb, 0, none⟩), .string (bstr [97]), .string (bstr [121])] W fun e w' => e = .returned (.tuple #[clV (optC none), .bool false]) ∧ Below W.heap.size W w' := fun tb vb vl W h => by
    refine (Get_any tb vb vl Bs11 [97] [121] W h gb11 (by decide) (by have := flt_long room11; omega) (by decide)).mono ?_
    rintro e w' ⟨o, rfl, hO, hb⟩
    rw [get_math gb11 hO, fndB]
    exact ⟨rfl, hb⟩
  obtain ⟨W0, hW0⟩ : ∃ W0, W0 = w.alloc (.cells (ccells cs11).toArray 39) := ⟨_, rfl⟩
  have hb0 : Below w.heap.size w W0 := by rw [hW0]; exact (Below.refl _ _).alloc (Nat.le_refl _) _
  have hcr : CRow W0 w.heap.size 0 cs11 := by rw [hW0]; exact CRow.lit w cs11 _
  have hcb : CBlk W0 w.heap.size := by rw [hW0]; exact ⟨_, _, heap_alloc_new w _⟩
  have hwr := TWrite_any (some ⟨w.heap.size, 0, none⟩) w.heap.size 0 3 cs11 1 W0 (fun _ => ⟨rfl, hcr, hcb⟩) (by decide) (by decide) (ht.below hb0) (fun _ => by rw [cut11]; exact room11)
  rw [wri11, chk11] at hwr
  go_enter Tryz.func10, Tryz.ntmps10
  go_wp2_with fail
  rw [hW0] at hwr hb0
  refine hwr.mono ?_
  rintro e W1 ⟨rfl, hb1⟩
  have hB1 := below2 hb0 hb1
  clear hwr hcr hcb hb0 hb1 hW0
  go_wp2_with fail
  refine (hop W1 hB1).mono ?_
  rintro e W2 ⟨hb2, tb, vb, vl, rfl, hT2⟩
  have hB2 := below2 hB1 hb2
  clear hop hb2 hB1
  go_wp2_with fail
  refine (hget tb vb vl W2 hT2).mono ?_
  rintro e W3 ⟨rfl, hb3⟩
  have hT3 := hT2.below hb3
  have hB3 := below2 hB2 hb3
  clear hget hb3 hB2 hT2
  have hN := CellAt.new W3 39 [97] [120] 2 false []
  have hb4 : Below W3.heap.size W3 (W3.alloc (.cells #[.string (bstr [97]), .string (bstr [120]), .int .u64 2, .bool false, .string (bstr [])] 39)) := (Below.refl _ _).alloc (Nat.le_refl _) _
  have hl4 : W3.heap.size < (W3.alloc (.cells #[.string (bstr [97]), .string (bstr [120]), .int .u64 2, .bool false, .string (bstr [])] 39)).heap.size := by simp
  go_wp2_with fail
  generalize W3.alloc (.cells #[.string (bstr [97]), .string (bstr [120]), .int .u64 2, .bool false, .string (bstr [])] 39) = W4 at *
  have hT4 := hT3.below hb4
  have hB4 := below2 hB3 hb4
  refine (hget2 tb vb vl W4 hT4).mono ?_
  rintro e W5 ⟨rfl, hb5⟩
  have hT5 := hT4.below hb5
  have hB5 := below2 hB4 hb5
  have c5 : W5.cell? ⟨W3.heap.size, 2, none⟩ = some (.int .u64 2) := by rw [(bcell hb5).1 _ _ hl4]; exact hN.c2
  have hl5 : W3.heap.size < W5.heap.size := Nat.lt_of_lt_of_le hl4 hb5.size
  clear hget2 hb5 hB4 hT4 hT3 hN hb4 hB3
  have hN6 := hB5
  go_wp2_with fail
  have hb6 : Below W5.heap.size W5 (W5.alloc (.cells #[.string (bstr (optC none).row), .string (bstr (optC none).col), .int .u64 (optC none).ver, .bool (optC none).gone, .string (bstr (optC none).val)] 39)) := (Below.refl _ _).alloc (Nat.le_refl _) _
  generalize W5.alloc (.cells #[.string (bstr (optC none).row), .string (bstr (optC none).col), .int .u64 (optC none).ver, .bool (optC none).gone, .string (bstr (optC none).val)] 39) = W6 at *
  have hT6 := hT5.below hb6
  have hB6 := below2 hB5 hb6
  have hL := TLen_any tb vb vl Bs11 W6 hT6
  rw [show ((Bs11.flatten.length : Nat) : Int) = 3 from rfl] at hL
  refine hL.mono ?_
  rintro e W7 ⟨rfl, hb7⟩
  have hT7 := hT6.below hb7
  have hB7 := below2 hB6 hb7
  have hK := TBlocks_any tb vb vl Bs11 W7 hT7
  rw [show ((Bs11.length : Nat) : Int) = 3 from rfl] at hK
  clear hL hT6 hT5 hb7 hB6
  go_wp2_with fail
  refine hK.mono ?_
  rintro e W8 ⟨rfl, hb8⟩
  have hB8 := below2 hB7 hb8
  clear hK
  go_wp2_with fail
  go_ret
  exact ⟨rfl, hB8⟩

end Go.Proofs.YtmpnofbhbglfpaaGreatDoor

namespace Go.Proofs.YtmpnofbhbglfpaaGreatDoor
open Go.RowKit
attribute [local go_sem] Oper.semAt_some
attribute [local go_sem] size_bstr getElem_bstr toList_bstr append_bstr

/-- Bytes that lie in a block of their own, the mark behind them. -/
def Bts (W : World) (g : Nat) (lst : List UInt8) : Prop := ∃ cur, W.heap[g]? = some (.cells cur 5 (cur.size, cur.size + 1)) ∧ lst.length ≤ cur.size ∧ ∀ (j : Nat) (h : j < lst.length), cur[j]? = some (.int .u8 (lst[j].toNat : Int))
theorem Bts.cell {W : World} {g : Nat} {lst : List UInt8} (h : Bts W g lst) (j : Nat) (hj : j < lst.length) : W.cell? ⟨g, j, none⟩ = some (.int .u8 (lst[j].toNat : Int)) := by
  obtain ⟨cur, h1, h2, h3⟩ := h
  unfold World.cell?
  rw [h1]
  exact h3 j hj
theorem Bts.frozen {W : World} {g : Nat} {lst : List UInt8} (h : Bts W g lst) (j : Nat) (hj : j < lst.length) : W.frozen? ⟨g, j, none⟩ = false := by
  obtain ⟨cur, h1, h2, h3⟩ := h
  unfold World.frozen?
  rw [h1]
  simp
  omega
theorem Bts.set {W : World} {g : Nat} {lst : List UInt8} (h : Bts W g lst) (j : Nat) (v : UInt8) : Bts (W.setCell ⟨g, j, none⟩ (.int .u8 (v.toNat : Int))) g (lst.set j v) := by
  obtain ⟨cur, h1, h2, h3⟩ := h
  refine ⟨cur.setIfInBounds j (.int .u8 (v.toNat : Int)), ?_, by rw [List.length_set, Array.size_setIfInBounds]; exact h2, ?_⟩
  · simp [World.setCell, Array.getElem?_modify, h1]
  · intro k hk
    rw [List.length_set] at hk
    rw [Array.getElem?_setIfInBounds, List.getElem_set]
    by_cases hjk : j = k
    · subst hjk
      simp
      omega
    · simp only [hjk, if_false]
      exact h3 k hk
theorem Bts.drawn {W : World} {g : Nat} {lst : List UInt8} (h : Bts W g lst) : Bts W.drew g lst := h
theorem bts_conv (W : World) (L : List UInt8) : Bts (Lib.bytesWorld W 5 (bstr L)) W.heap.size L := by
  refine ⟨Lib.bytesCells W 5 (bstr L), Lib.bytesWorld_at_new W _ _, ?_, ?_⟩
  · unfold Lib.bytesCells
    rw [Array.size_append, Array.size_map, show (bstr L).data.size = L.length from size_bstr L]
    omega
  · intro j hj
    have := Lib.bytesWorld_cell W 5 (bstr L) j (by rw [size_bstr]; exact hj)
    unfold World.cell? at this
    rw [Lib.bytesWorld_at_new] at this
    rw [data_bstr, List.getD_eq_getElem?_getD, List.getElem?_eq_getElem hj] at this
    exact this
theorem below_conv (W : World) (L : List UInt8) : Below W.heap.size W (Lib.bytesWorld W 5 (bstr L)) :=
  ⟨rfl, rfl, rfl, by rw [Lib.bytesWorld_size]; omega, fun k hk => Lib.bytesWorld_at_old W _ _ k hk⟩
theorem mod_fact (x : Int) (m : Nat) (hm : 0 < m) (hm2 : m ≤ 1000000) : ∃ r : Nat, r < m ∧ (wrap64 (x.tmod (m : Int) + (m : Int))).tmod (m : Int) = (r : Int) := by
  have h1 : x.tmod (m : Int) < (m : Int) := Int.tmod_lt_of_pos x (by omega)
  have h2 : -(m : Int) < x.tmod (m : Int) := Int.lt_tmod_of_pos x (by omega)
  generalize x.tmod (m : Int) = y at *
  have e : wrap64 (y + (m : Int)) = y + (m : Int) := by unfold wrap64; omega
  rw [e]
  have h3 := Int.tmod_eq_emod_of_nonneg (a := y + (m : Int)) (b := (m : Int)) (by omega)
  rw [h3]
  have h4 := Int.emod_nonneg (y + (m : Int)) (b := (m : Int)) (by omega)
  have h5 := Int.emod_lt_of_pos (y + (m : Int)) (b := (m : Int)) (by omega)
  exact ⟨((y + (m : Int)) % (m : Int)).toNat, by omega, by omega⟩


theorem wrap_succ {j : Nat} (h : j < 100000) : wrap64 ((j : Int) + 1) = (j : Int) + 1 := by unfold wrap64; omega
theorem own_arg {w : World} {B : Nat} {v : Value} {cs : List Cl} (h : w.ownsRow B 39 5 v cs.length (ccells cs)) : ∃ q g cap, v = .slice q cs.length cap ∧ (0 < cs.length → q = some ⟨g, 0, none⟩ ∧ CRow w g 0 cs ∧ CBlk w g) ∧ cs.length ≤ cap := by
  by_cases h0 : cs = []
  · subst h0
    rcases h.2 with ⟨hv, _⟩ | ⟨g, cap, cur, hv, _, _, hnc, _⟩
    · exact ⟨none, 0, 0, hv, fun h => absurd h (by simp), by simp⟩
    · exact ⟨_, g, cap, hv, fun h => absurd h (by simp), hnc⟩
  · obtain ⟨g1, cap1, hv, hg1, hgl1, hlc, hmx, hcr, hfz⟩ := own_crow h h0
    have hcb : CBlk w g1 := own_cblk h hv
    exact ⟨_, g1, cap1, hv, fun _ => ⟨rfl, hcr, hcb⟩, hlc⟩
theorem TB.kept {w w' : World} {g : Nat} {vb vl : Value} {Bs : List (List Cl)} (h : TB w g vb vl Bs) (h1 : w'.heap[g]? = w.heap[g]?) (h2 : ∀ i, vb.ownBlock = some i → w'.heap[i]? = w.heap[i]?) (h3 : ∀ i, vl.ownBlock = some i → w'.heap[i]? = w.heap[i]?) : TB w' g vb vl Bs :=
  ⟨h1.trans h.t, own_kept h.rb h2, own_kept h.rl h3⟩
/-- The cell that was told last. -/
def lastC (cs : List Cl) : Nat → Cl
  | 0 => ⟨[], [], 0, false, []⟩
  | j + 1 => cs.getD j ⟨[], [], 0, false, []⟩
/-- What a table that is gone through lies in: blocks of P. -/
structure UnT (P : Nat → Prop) (b pb tb : Nat) (vb vl : Value) : Prop where
  b : P b
  p : P pb
  t : P tb
  vb : ∀ i, vb.ownBlock = some i → P i
  vl : ∀ i, vl.ownBlock = some i → P i
theorem UnT.keeps {P : Nat → Prop} {b pb tb : Nat} {vb vl : Value} {pt : Option Addr} {row col : List UInt8} {Bs : List (List Cl)} {W W' : World} (u : UnT P b pb tb vb vl) (h : FrX W b pb pt row col ∧ TB W tb vb vl Bs) (hk : ∀ i, P i → W'.heap[i]? = W.heap[i]?) : FrX W' b pb pt row col ∧ TB W' tb vb vl Bs :=
  ⟨⟨(hk _ u.b).trans h.1.t, (hk _ u.p).trans h.1.p⟩, h.2.kept (hk _ u.t) (fun i hi => hk i (u.vb i hi)) (fun i hi => hk i (u.vl i hi))⟩
/-- Between two cells that are told: R the answer's, lB the last one's, nB the number's, D the range's. -/
structure RJ (w : World) (R lB nB D b pb tb : Nat) (vb vl : Value) (RR : Loop) (Bs : List (List Cl)) (cs : List Cl) (X : Nat → Prop) (j : Nat) (W : World) : Prop where
  r : W.heap[R]? = some (.cells #[.bool false] 4 (0, 0))
  l : W.heap[lB]? = some (.cells (clC (lastC cs j)) 39 (0, 0))
  n : W.heap[nB]? = some (.cells #[.int .i64 (j : Int)] 3 (0, 0))
  d : W.heap[D]? = some (.deferred (some []))
  c : W.heap[D + 1]? = some (.loop RR)
  f : FrX W b pb (some ⟨tb, 0, none⟩) [] [] ∧ TB W tb vb vl Bs
  x : ∀ i, X i → D + 2 ≤ i
  be : Below w.heap.size w W
theorem RJ.abd {w : World} {R lB nB D b pb tb : Nat} {vb vl : Value} {RR : Loop} {Bs : List (List Cl)} {cs : List Cl} {X : Nat → Prop} {j : Nat} {W W' : World} {P : Nat → Prop} (u : UnT P b pb tb vb vl) (hP : ∀ i, P i → i < D) (hD : R < D ∧ lB < D ∧ nB < D ∧ w.heap.size ≤ D) (h : RJ w R lB nB D b pb tb vb vl RR Bs cs X j W) (hk : Kp W W' X) : RJ w R lB nB D b pb tb vb vl RR Bs cs X j W' := by
  have hc := blk_lt h.c
  have hn : ∀ i, i < D + 2 → W'.heap[i]? = W.heap[i]? := fun i hi => hk.block i (by omega) (fun hx => by have := h.x i hx; omega)
  exact ⟨(hn _ (by omega)).trans h.r, (hn _ (by omega)).trans h.l, (hn _ (by omega)).trans h.n, (hn _ (by omega)).trans h.d, (hn _ (by omega)).trans h.c, u.keeps h.f fun i hi => hn i (by have := hP i hi; omega), h.x, Kp.below0 h.be hk fun i hi => by have := h.x i hi; omega⟩

end Go.Proofs.YtmpnofbhbglfpaaGreatDoor
