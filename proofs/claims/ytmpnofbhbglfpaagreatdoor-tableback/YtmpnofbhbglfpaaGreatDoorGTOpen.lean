/-
  The contracts of cells.Sort and cells.Newest.
  The cells of small numbers that table's laws are about.
  How an argument that is a list of small cells, or one, is read, with the bounds that every argument bears.
-/
import Derived.Test.YtmpnofbhbglfpaaGreatDoorGCSort
import Derived.Test.YtmpnofbhbglfpaaGreatDoorTFrmM
import Derived.Test.YtmpnofbhbglfpaaGreatDoorGEOpen
namespace Go.Proofs.YtmpnofbhbglfpaaGreatDoor
open Go.RowKit Go.BigFrame Go.Sort
attribute [local go_sem] size_bstr toList_bstr ls_def

theorem eqFields_plc (a b c d : List UInt8) (w : World) : (Op.equalIn 10000 91 (rngV a b) (rngV c d)).run Tryz.prog w = .ok (a == c && b == d) w := by
  have hS : Tryz.prog.underlying 91 = some (.struct (Tryz.prog.fieldsOf 91)) := by kernel_rfl
  have hp : Tryz.prog.stoodInHeld 91 = false := by kernel_rfl
  have u := Tryz.underlying9
  have ag := Tryz.isAgg9
  have sz := Tryz.sizeOf9
  rw [show (10000 : Nat) = 9999 + 1 from rfl, run_equalIn_agg w 9999 91 _ _ hS hp]
  simp only [Program.fieldsOf, Tryz.underlying91]
  go_simp
  by_cases h1 : a = c <;> by_cases h2 : b = d <;> simp [h1, h2]
theorem plc_eql (a b c d : List UInt8) (w : World) : (binOp .eql 91 (.agg #[.string (bstr a), .string (bstr b)]) (.agg #[.string (bstr c), .string (bstr d)])).run Tryz.prog w = .ok (.bool (a == c && b == d)) w := by
  rw [run_eql_struct, eqFields_plc]
  rfl
theorem plc_guard (op : BinOp) (x y : Operand) (xs ys : Array Value) (w : World) : (eqGuard op 91 x y (.agg xs) (.agg ys)).run Tryz.prog w = .ok () w :=
  run_eqGuard_agg w op _ x y xs ys (by kernel_rfl)

set_option maxHeartbeats 1000000 in
set_option maxRecDepth 100000 in
theorem placeOf_any (c : Cl) (w : World) : Calls Tryz.prog 46 #[clV c] w fun e w' => e = .returned (.agg #[.string (bstr c.row), .string (bstr c.col)]) ∧ RowKit.Below w.heap.size w w' := by
  obtain ⟨r, k, v, z, x⟩ := c
  have hB : RowKit.Below w.heap.size w (w.alloc (.cells #[.string (bstr r), .string (bstr k), .int .u64 v, .bool z, .string (bstr x)] 39)) := (RowKit.Below.refl _ _).alloc (Nat.le_refl _) _
  have hB2 : RowKit.Below w.heap.size w ((w.alloc (.cells #[.string (bstr r), .string (bstr k), .int .u64 v, .bool z, .string (bstr x)] 39)).alloc (.cells #[.string (bstr r), .string (bstr k)] 91)) := hB.alloc hB.size _
  have r0 := (RngAt.new2 w (.cells #[.string (bstr r), .string (bstr k), .int .u64 v, .bool z, .string (bstr x)] 39) 91 r k).c0
  have r1 := (RngAt.new2 w (.cells #[.string (bstr r), .string (bstr k), .int .u64 v, .bool z, .string (bstr x)] 39) 91 r k).c1
  go_enter Tryz.func46, Tryz.ntmps46
  go_wp2
  exact bodyPost_ret (v := rngV r k) (by simp [results, Tryz.results46, go_sem, r0, r1]) rfl ⟨rfl, hB2⟩

set_option maxHeartbeats 1000000 in
set_option maxRecDepth 100000 in
theorem sort1_any (a b : Cl) (w : World) : Calls Tryz.prog 85 #[clV a, clV b] w fun e w' => e = .returned (.bool (eqv a b)) ∧ RowKit.Below w.heap.size w w' := by
  have hcon := fun W => Cmp_any a.row a.col a.ver a.gone a.val b.row b.col b.ver b.gone b.val W
  have hev : eqv a b = (ccl a b == 0) := by unfold eqv; cases hd : (ccl a b == 0) <;> simp_all
  rw [hev]
  unfold ccl
  generalize cc a.row a.col a.ver b.row b.col b.ver = d at *
  clear hev
  obtain ⟨r, k, v, z, x⟩ := a
  obtain ⟨r', k', v', z', x'⟩ := b
  simp only at hcon
  have hB2 : RowKit.Below w.heap.size w ((w.alloc (.cells #[.string (bstr r), .string (bstr k), .int .u64 v, .bool z, .string (bstr x)] 39)).alloc (.cells #[.string (bstr r'), .string (bstr k'), .int .u64 v', .bool z', .string (bstr x')] 39)) := ((RowKit.Below.refl _ _).alloc (Nat.le_refl _) _).alloc (by simp) _
  go_enter Tryz.func85, Tryz.ntmps85
  go_wp2_with fail
  refine (hcon _).mono ?_
  rintro e w1 ⟨rfl, hb1⟩
  replace hB2 := below2 hB2 hb1
  clear hb1 hcon
  go_wp2
  go_ret
  exact ⟨rfl, hB2⟩

set_option maxHeartbeats 1000000 in
set_option maxRecDepth 100000 in
theorem newest1_any (a b : Cl) (w : World) : Calls Tryz.prog 45 #[clV a, clV b] w fun e w' => e = .returned (.bool (plc a b)) ∧ RowKit.Below w.heap.size w w' := by
  have hc1 := fun W => placeOf_any a W
  have hc2 := fun W => placeOf_any b W
  have heq := fun W => plc_eql a.row a.col b.row b.col W
  have hg := fun x y xs ys W => plc_guard .eql x y xs ys W
  unfold plc
  obtain ⟨r, k, v, z, x⟩ := a
  obtain ⟨r', k', v', z', x'⟩ := b
  simp only at hc1 hc2 heq ⊢
  generalize (r == r' && k == k') = d at *
  have hB2 : RowKit.Below w.heap.size w ((w.alloc (.cells #[.string (bstr r), .string (bstr k), .int .u64 v, .bool z, .string (bstr x)] 39)).alloc (.cells #[.string (bstr r'), .string (bstr k'), .int .u64 v', .bool z', .string (bstr x')] 39)) := ((RowKit.Below.refl _ _).alloc (Nat.le_refl _) _).alloc (by simp) _
  have rb := CellAt.new2 w (.cells #[.string (bstr r), .string (bstr k), .int .u64 v, .bool z, .string (bstr x)] 39) 39 r' k' v' z' x'
  have ra := (CellAt.new w 39 r k v z x).alloc (.cells #[.string (bstr r'), .string (bstr k'), .int .u64 v', .bool z', .string (bstr x')] 39)
  go_enter Tryz.func45, Tryz.ntmps45
  go_wp2_with fail
  generalize (w.alloc (.cells #[.string (bstr r), .string (bstr k), .int .u64 v, .bool z, .string (bstr x)] 39)).alloc (.cells #[.string (bstr r'), .string (bstr k'), .int .u64 v', .bool z', .string (bstr x')] 39) = W at *
  have q0 := fun d os => cell_regrown ra.c0 d os
  have p0 := fun d os => cell_regrown rb.c0 d os
  have q1 := fun d os => cell_regrown ra.c1 d os
  have p1 := fun d os => cell_regrown rb.c1 d os
  have q2 := fun d os => cell_regrown ra.c2 d os
  have p2 := fun d os => cell_regrown rb.c2 d os
  have q3 := fun d os => cell_regrown ra.c3 d os
  have p3 := fun d os => cell_regrown rb.c3 d os
  have q4 := fun d os => cell_regrown ra.c4 d os
  have p4 := fun d os => cell_regrown rb.c4 d os
  refine wp_region_quiet_below (by kernel_rfl) (by kernel_rfl) ?_
  repeat (go_big_quiet_step (first
    | (go_at_call 46; exact Calls.regrown_of (hc1 _))
    | (go_at_call 46; exact Calls.regrown_of (hc2 _))))
  refine wpQuiet_nil ?_
  intro _ hw'
  obtain ⟨⟨dq, osq⟩, hw''⟩ := hw'
  subst hw''
  replace hB2 := below2 hB2 (below_regrown W dq osq)
  go_wp2
  go_ret
  exact ⟨rfl, hB2⟩

set_option maxHeartbeats 1000000 in
set_option maxRecDepth 100000 in
theorem Sort_any (q : Option Addr) (b off cap : Nat) (cs : List Cl) (w : World) (hq : 0 < cs.length → q = some ⟨b, off, none⟩ ∧ CRow w b off cs ∧ b < w.heap.size) (hf : ∀ c ∈ cs, Fits c) (hn : cs.length * 64 ≤ 140737488351232) :
    Calls Tryz.prog 43 #[.slice q cs.length cap] w fun e w' => ∃ v, e = .returned v ∧ w'.ownsRow w.heap.size 39 5 v (sortL cs).length (ccells (sortL cs)) ∧ RowKit.Below w.heap.size w w' := by
  have eF : ∀ args w, (callFunc 85 args).run Tryz.prog w = .ok (.enter 85 args) w := enters_of Tryz.func85 (by kernel_rfl) rfl
  have hcon := firsts_any 85 eqv q b off cap cs w eF sort1_any hq hf hn
  go_enter Tryz.func43, Tryz.ntmps43
  go_wp2_with fail
  refine hcon.mono ?_
  rintro e w1 ⟨is, v, h1, h2, rfl, hown, hb⟩
  rw [sort_of_indices h1 h2] at hown
  clear hcon
  go_wp2
  go_ret
  exact ⟨v, rfl, hown, hb⟩

set_option maxHeartbeats 1000000 in
set_option maxRecDepth 100000 in
theorem Newest_any (q : Option Addr) (b off cap : Nat) (cs : List Cl) (w : World) (hq : 0 < cs.length → q = some ⟨b, off, none⟩ ∧ CRow w b off cs ∧ b < w.heap.size) (hf : ∀ c ∈ cs, Fits c) (hn : cs.length * 64 ≤ 140737488351232) :
    Calls Tryz.prog 23 #[.slice q cs.length cap] w fun e w' => ∃ v, e = .returned v ∧ w'.ownsRow w.heap.size 39 5 v (newL cs).length (ccells (newL cs)) ∧ RowKit.Below w.heap.size w w' := by
  have eF : ∀ args w, (callFunc 45 args).run Tryz.prog w = .ok (.enter 45 args) w := enters_of Tryz.func45 (by kernel_rfl) rfl
  have hcon := firsts_any 45 plc q b off cap cs w eF newest1_any hq hf hn
  go_enter Tryz.func23, Tryz.ntmps23
  go_wp2_with fail
  refine hcon.mono ?_
  rintro e w1 ⟨is, v, h1, h2, rfl, hown, hb⟩
  rw [newest_of_indices h1 h2] at hown
  clear hcon
  go_wp2
  go_ret
  exact ⟨v, rfl, hown, hb⟩

end Go.Proofs.YtmpnofbhbglfpaaGreatDoor

namespace Go.Proofs.YtmpnofbhbglfpaaGreatDoor
open Go.RowKit
attribute [local go_sem] size_bstr getElem_bstr toList_bstr append_bstr

/-- A cell by small numbers. -/
structure Sp where
  row : Nat
  col : Nat
  ver : Nat
  gone : Bool
  val : List UInt8
structure SpOk (x : Sp) : Prop where
  r : x.row < 256
  c : x.col < 256
  v : x.ver < 256
  l : x.val.length ≤ 9223372036854775807
structure SpAt (w : World) (b o : Nat) (x : Sp) : Prop where
  c0 : w.cell? ⟨b, o, none⟩ = some (.int .u8 (x.row : Int))
  c1 : w.cell? ⟨b, o + 1, none⟩ = some (.int .u8 (x.col : Int))
  c2 : w.cell? ⟨b, o + 2, none⟩ = some (.int .u8 (x.ver : Int))
  c3 : w.cell? ⟨b, o + 3, none⟩ = some (.bool x.gone)
  c4 : w.cell? ⟨b, o + 4, none⟩ = some (.string (bstr x.val))
def SpRow (w : World) (b off : Nat) (xs : List Sp) : Prop := ∀ i (h : i < xs.length), SpAt w b (off + i * 5) xs[i]
def spC (x : Sp) : Cl := ⟨[114, (x.row % 9).toUInt8, (x.row % 5).toUInt8], [99, (x.col % 4).toUInt8], 1 + ((x.ver % 6 : Nat) : Int), x.gone, if x.gone then [] else x.val.take 100⟩
def ofL (xs : List Sp) : List Cl := sortL ((xs.take 60).map spC)

theorem run_convert_one (W : World) (z : Nat) (hz : z < 256) :
    (convert 88 9 (.slice (some ⟨W.heap.size, 0, none⟩) 1 1)).run Tryz.prog (W.alloc (.cells #[.int .u8 (z : Int)] 5)) = .ok (.string (bstr [z.toUInt8])) (W.alloc (.cells #[.int .u8 (z : Int)] 5)) := by
  have hown : (W.alloc (.cells #[.int .u8 (z : Int)] 5)).ownsRow W.heap.size 5 1 (.slice (some ⟨W.heap.size, 0, none⟩) 1 1) 1 (Lib.byteCells [z.toUInt8]) := by
    have h := World.ownsRow_lit (base := W.heap.size) (e := 5) (size := 1) W #[.int .u8 (z : Int)] 1 (Nat.le_refl _) (by decide) (by simp)
    have e : Lib.byteCells [z.toUInt8] = [.int .u8 (z : Int)] := by simp [Lib.byteCells, Nat.toUInt8]; omega
    rw [e]
    exact h
  exact run_convert_own hown Tryz.underlying88 Tryz.underlying5 Tryz.underlying9
theorem run_convert_two (W : World) (a b : Nat) (ha : a < 256) (hb : b < 256) :
    (convert 88 9 (.slice (some ⟨W.heap.size, 0, none⟩) 2 2)).run Tryz.prog (W.alloc (.cells #[.int .u8 (a : Int), .int .u8 (b : Int)] 5)) = .ok (.string (bstr [a.toUInt8, b.toUInt8])) (W.alloc (.cells #[.int .u8 (a : Int), .int .u8 (b : Int)] 5)) := by
  have hown : (W.alloc (.cells #[.int .u8 (a : Int), .int .u8 (b : Int)] 5)).ownsRow W.heap.size 5 1 (.slice (some ⟨W.heap.size, 0, none⟩) 2 2) 2 (Lib.byteCells [a.toUInt8, b.toUInt8]) := by
    have h := World.ownsRow_lit (base := W.heap.size) (e := 5) (size := 1) W #[.int .u8 (a : Int), .int .u8 (b : Int)] 2 (Nat.le_refl _) (by decide) (by simp)
    have e : Lib.byteCells [a.toUInt8, b.toUInt8] = [.int .u8 (a : Int), .int .u8 (b : Int)] := by simp [Lib.byteCells, Nat.toUInt8]; omega
    rw [e]
    exact h
  exact run_convert_own hown Tryz.underlying88 Tryz.underlying5 Tryz.underlying9

theorem sp_fits {xs : List Sp} (c : Cl) (h : c ∈ (xs.take 60).map spC) : Fits c := by
  obtain ⟨x, _, rfl⟩ := List.mem_map.1 h
  have hv : (spC x).val.length ≤ 100 := by
    unfold spC
    cases x.gone
    · simp; omega
    · simp
  exact ⟨by show ([_, _, _] : List UInt8).length ≤ _; simp, by show ([_, _] : List UInt8).length ≤ _; simp, by omega⟩

set_option maxHeartbeats 2000000 in
set_option maxRecDepth 100000 in
theorem of11_any (q : Option Addr) (b off cap : Nat) (xs : List Sp) (w : World) (hq : 0 < xs.length → q = some ⟨b, off, none⟩ ∧ SpRow w b off xs ∧ b < w.heap.size) (hx : ∀ x ∈ xs, SpOk x) :
    Calls Tryz.prog 22 #[.slice q xs.length cap] w fun e w' => ∃ v, e = .returned v ∧ w'.ownsRow w.heap.size 39 5 v (ofL xs).length (ccells (ofL xs)) ∧ Below w.heap.size w w' := by
  obtain ⟨i0, hi0, hz0, hz1, hz2⟩ := info_parts Tryz.infoCell
  go_enter Tryz.func22, Tryz.ntmps22
  go_wp2
  go_loopw [3, 4] (fun s3 s4 wr => ∃ i : Nat, s4 = .int .i64 (i : Int) ∧ i ≤ xs.length ∧ i ≤ 60 ∧ wr.ownsRow w.heap.size 39 5 s3 ((xs.take i).map spC).length (ccells ((xs.take i).map spC)) ∧ Below w.heap.size w wr) (fun _ s4 _ => 61 - (intOf s4).toNat)
  case atStart => exact ⟨0, rfl, by omega, by omega, ⟨rfl, .inl ⟨rfl, rfl⟩⟩, Below.refl _ _⟩
  case round =>
    obtain ⟨i, rfl, hi, hi60, hown, hbel⟩ := hrel
    by_cases hlt : i < xs.length ∧ i < 60
    · obtain ⟨hl1, hl2⟩ := hlt
      obtain ⟨rfl, hrow, hbl⟩ := hq (by omega)
      have hA := hrow i hl1
      obtain ⟨x, hxe⟩ : ∃ x, x = xs[i] := ⟨_, rfl⟩
      rw [← hxe] at hA
      have hok : SpOk x := by rw [hxe]; exact hx _ (List.getElem_mem hl1)
      have HX : Hid _ := hxe
      clear hxe hrow
      have hc : ∀ o v, w.cell? ⟨b, o, none⟩ = some v → wr.cell? ⟨b, o, none⟩ = some v := fun o v h => by rw [World.cell?_of_block (hbel.block b hbl)]; exact h
      have a0 := hc _ _ hA.c0
      have a1 := hc _ _ hA.c1
      have a2 := hc _ _ hA.c2
      have a3 := hc _ _ hA.c3
      have a4 := hc _ _ hA.c4
      obtain ⟨xr, xc, xv, xg, xl⟩ := x
      obtain ⟨o1, o2, o3, o4⟩ := hok
      simp only at a0 a1 a2 a3 a4 o1 o2 o3 o4
      have hg1 : (i : Int) < (xs.length : Int) := by omega
      have hg2 : (i : Int) < 60 := by omega
      have k1 := fun (g : Bool) => run_convert_two (wr.alloc (.cells #[.int .u8 (xr : Int), .int .u8 (xc : Int), .int .u8 (xv : Int), .bool g, .string (bstr xl)] 53)) (xr % 9) (xr % 5) (by omega) (by omega)
      have k2 := fun (g : Bool) => run_convert_one ((wr.alloc (.cells #[.int .u8 (xr : Int), .int .u8 (xc : Int), .int .u8 (xv : Int), .bool g, .string (bstr xl)] 53)).alloc (.cells #[.int .u8 ((xr : Int) % 9), .int .u8 ((xr : Int) % 5)] 5)) (xc % 4) (by omega)
      have c9 : ((xr % 9 : Nat) : Int) = (xr : Int) % 9 := by omega
      have c5 : ((xr % 5 : Nat) : Int) = (xr : Int) % 5 := by omega
      have c4 : ((xc % 4 : Nat) : Int) = (xc : Int) % 4 := by omega
      simp only [World.size_alloc, c9, c5, c4] at k1 k2
      clear c9 c5 c4
      have hE1 : (⟨#[114]⟩ : ByteArray) = bstr [114] := rfl
      have hE2 : (⟨#[99]⟩ : ByteArray) = bstr [99] := rfl
      have hE3 : (⟨#[]⟩ : ByteArray) = bstr [] := rfl
      have hsp : spC xs[i] = ⟨[114, (xr % 9).toUInt8, (xr % 5).toUInt8], [99, (xc % 4).toUInt8], 1 + (xv : Int) % 6, xg, if xg then [] else xl.take 100⟩ := by
        rw [← HX.out]
        unfold spC
        simp only [Cl.mk.injEq, true_and, and_true]
        omega
      have htk : (xs.take (i + 1)).map spC = (xs.take i).map spC ++ [spC xs[i]] := by rw [List.take_succ_eq_append_getElem hl1, List.map_append]; rfl
      rw [hsp] at htk
      have HTK : Hid _ := htk
      have hcut := fun W => run_cut (P := Tryz.prog) 9 xl 100 100 rfl W Tryz.underlying9
      have hal : ((xs.take i).map spC).length ≤ 60 := by rw [List.length_map, List.length_take]; omega
      clear hA hc hsp htk HX hx
      generalize (xr % 9).toUInt8 = r9 at *
      generalize (xr % 5).toUInt8 = r5 at *
      generalize (xc % 4).toUInt8 = r4 at *
      generalize (xs.take i).map spC = acc at *
      have k1g := k1 xg
      have k2g := k2 xg
      clear k1 k2
      have key : ∀ (wx : World) (u : Value) (c : Cl), wx.ownsRow w.heap.size 39 5 u acc.length (ccells acc) → Below w.heap.size w wx → True := fun _ _ _ _ _ => trivial
      clear key
      cases xg with
      | true =>
        simp only [if_true] at HTK
        have hnews := cell_news ((((wr.alloc (.cells #[.int .u8 (xr : Int), .int .u8 (xc : Int), .int .u8 (xv : Int), .bool true, .string (bstr xl)] 53)).alloc (.cells #[.int .u8 ((xr : Int) % 9), .int .u8 ((xr : Int) % 5)] 5)).alloc (.cells #[.int .u8 ((xc : Int) % 4)] 5)).alloc (.cells #[.string (bstr [114, r9, r5]), .string (bstr [99, r4]), .int .u64 (1 + (xv : Int) % 6), .bool true, .string (bstr [])] 39)) ⟨[114, r9, r5], [99, r4], 1 + (xv : Int) % 6, true, []⟩ 39
        simp only [World.size_alloc] at hnews
        go_wp2_with (at_builtin; refine wpList_append_own _ rfl _ _ 22 rfl w.heap.size 39 i0 (.agg #[.string ⟨#[]⟩, .string ⟨#[]⟩, .int .u64 0, .bool false, .string ⟨#[]⟩]) 5 64 Tryz.underlying22 hi0 hz0 hz1 hz2 rfl (by decide) _ _ _ rfl (((((hown.alloc _).alloc _).alloc _).alloc _).alloc _) ⟨wr.heap.size + 1 + 1 + 1 + 1, 0, none⟩ 1 1 (encC ⟨[114, r9, r5], [99, r4], 1 + (xv : Int) % 6, true, []⟩) rfl rfl hnews (encC_one _) ?c3 ?c4 ?c5 ?_)
        case c3 => unfold maxLen; omega
        case c4 => omega
        case c5 => have := hbel.size; simp; omega
        intro v' w4 hown4 hgrow _
        have hb4 : Below w.heap.size w w4 := (((((hbel.alloc hbel.size _).alloc (by have := hbel.size; simp; omega) _).alloc (by have := hbel.size; simp; omega) _).alloc (by have := hbel.size; simp; omega) _).alloc (by have := hbel.size; simp; omega) _).grown hgrow (by have := hbel.size; simp; omega) (fun k hk => (hown.lt k hk).1)
        have hown5 : w4.ownsRow w.heap.size 39 5 v' (acc ++ [Cl.mk [114, r9, r5] [99, r4] (1 + (xv : Int) % 6) true []]).length (ccells (acc ++ [Cl.mk [114, r9, r5] [99, r4] (1 + (xv : Int) % 6) true []])) := by
          rw [List.length_append, ccells_append]
          exact hown4
        rw [← HTK.out] at hown5
        clear hown hown4 hgrow
        go_wp2
        go_roundw
        case rel => exact ⟨i + 1, by go_num, by omega, by omega, hown5, hb4⟩
        case measure => simp [intOf]; omega
      | false =>
        simp only [Bool.false_eq_true, if_false] at HTK
        have hnews := cell_news ((((wr.alloc (.cells #[.int .u8 (xr : Int), .int .u8 (xc : Int), .int .u8 (xv : Int), .bool false, .string (bstr xl)] 53)).alloc (.cells #[.int .u8 ((xr : Int) % 9), .int .u8 ((xr : Int) % 5)] 5)).alloc (.cells #[.int .u8 ((xc : Int) % 4)] 5)).alloc (.cells #[.string (bstr [114, r9, r5]), .string (bstr [99, r4]), .int .u64 (1 + (xv : Int) % 6), .bool false, .string (bstr (xl.take 100))] 39)) ⟨[114, r9, r5], [99, r4], 1 + (xv : Int) % 6, false, xl.take 100⟩ 39
        simp only [World.size_alloc] at hnews
        go_wp2_with (at_builtin; refine wpList_append_own _ rfl _ _ 22 rfl w.heap.size 39 i0 (.agg #[.string ⟨#[]⟩, .string ⟨#[]⟩, .int .u64 0, .bool false, .string ⟨#[]⟩]) 5 64 Tryz.underlying22 hi0 hz0 hz1 hz2 rfl (by decide) _ _ _ rfl (((((hown.alloc _).alloc _).alloc _).alloc _).alloc _) ⟨wr.heap.size + 1 + 1 + 1 + 1, 0, none⟩ 1 1 (encC ⟨[114, r9, r5], [99, r4], 1 + (xv : Int) % 6, false, xl.take 100⟩) rfl rfl hnews (encC_one _) ?c3 ?c4 ?c5 ?_)
        case c3 => unfold maxLen; omega
        case c4 => omega
        case c5 => have := hbel.size; simp; omega
        intro v' w4 hown4 hgrow _
        have hb4 : Below w.heap.size w w4 := (((((hbel.alloc hbel.size _).alloc (by have := hbel.size; simp; omega) _).alloc (by have := hbel.size; simp; omega) _).alloc (by have := hbel.size; simp; omega) _).alloc (by have := hbel.size; simp; omega) _).grown hgrow (by have := hbel.size; simp; omega) (fun k hk => (hown.lt k hk).1)
        have hown5 : w4.ownsRow w.heap.size 39 5 v' (acc ++ [Cl.mk [114, r9, r5] [99, r4] (1 + (xv : Int) % 6) false (xl.take 100)]).length (ccells (acc ++ [Cl.mk [114, r9, r5] [99, r4] (1 + (xv : Int) % 6) false (xl.take 100)])) := by
          rw [List.length_append, ccells_append]
          exact hown4
        rw [← HTK.out] at hown5
        clear hown hown4 hgrow
        go_wp2
        go_roundw
        case rel => exact ⟨i + 1, by go_num, by omega, by omega, hown5, hb4⟩
        case measure => simp [intOf]; omega
    · have hF := Sort_any
      have hgo : ¬ ((i : Int) < (xs.length : Int) ∧ (i : Int) < 60) := by omega
      have he : xs.take i = xs.take 60 := by
        rw [List.take_eq_take_iff]
        omega
      rw [he] at hown
      obtain ⟨q4, b4, off4, cap4, rfl, hq4, hc4⟩ : ∃ q4 b4 off4 cap4, u3 = .slice q4 ((xs.take 60).map spC).length cap4 ∧ (0 < ((xs.take 60).map spC).length → q4 = some ⟨b4, off4, none⟩ ∧ CRow wr b4 off4 ((xs.take 60).map spC) ∧ b4 < wr.heap.size) ∧ ((xs.take 60).map spC).length * 64 ≤ 140737488351232 := by
        have hl : ((xs.take 60).map spC).length ≤ 60 := by rw [List.length_map, List.length_take]; omega
        by_cases h0 : (xs.take 60).map spC = []
        · rcases hown.2 with ⟨hv, _⟩ | ⟨g, cp, cur, hv, _⟩
          · exact ⟨none, 0, 0, 0, by rw [hv, h0]; rfl, fun h => (by rw [h0] at h; cases h), by omega⟩
          · exact ⟨_, 0, 0, cp, hv, fun h => (by rw [h0] at h; cases h), by omega⟩
        · obtain ⟨g1, cap1, hv, hg1, hgl1, hlc, hmx, hcr, hfz⟩ := own_crow hown h0
          exact ⟨_, g1, 0, cap1, hv, fun _ => ⟨rfl, hcr, hgl1⟩, by omega⟩
      have hso := Sort_any q4 b4 off4 cap4 ((xs.take 60).map spC) wr hq4 (fun c hc => sp_fits c hc) hc4
      have HO : Hid (ofL xs = sortL ((xs.take 60).map spC)) := rfl
      clear hF hown hq4 he hc4
      generalize (xs.take 60).map spC = L60 at *
      by_cases hi1 : i < xs.length
      · have g1 : (i : Int) < (xs.length : Int) := by omega
        have g2 : ¬ ((i : Int) < 60) := by omega
        clear hgo
        go_wp2_with fail
        refine hso.mono ?_
        rintro e w5 ⟨v, rfl, hown5, hb5⟩
        go_wp2_with fail
        go_ret
        rw [HO.out]
        exact ⟨v, rfl, own_mono hown5 hbel.size, below2 hbel hb5⟩
      · have g1 : ¬ ((i : Int) < (xs.length : Int)) := by omega
        clear hgo
        go_wp2_with fail
        refine hso.mono ?_
        rintro e w5 ⟨v, rfl, hown5, hb5⟩
        go_wp2_with fail
        go_ret
        rw [HO.out]
        exact ⟨v, rfl, own_mono hown5 hbel.size, below2 hbel hb5⟩

end Go.Proofs.YtmpnofbhbglfpaaGreatDoor

namespace Go.Proofs.YtmpnofbhbglfpaaGreatDoor
set_option maxRecDepth 100000
open Go.ChangeShapes Go.WideShapes Go.ChangeAt Go.RowKit Go.Deep

theorem spot_cells : Tryz.prog.cellsOf 53 = 5 := by kernel_rfl
theorem byte_cells : Tryz.prog.cellsOf 5 = 1 := by kernel_rfl
theorem Tryz.bytesSpot : Tryz.prog.bytesOf 53 = 24 := by kernel_rfl
section
variable {H : Type} {enc : TypeId × Value → H} {w : World} {base : Nat} {spare : Nat → Bool} {held : Bool}

/-- A small cell read, with its bounds. -/
theorem view_spot {fuel : Nat} {cs : List Value} {x : DataW H × List MemPlace} (h : DataW.trod enc Tryz.prog w base spare held fuel 53 cs = some x) (hw : (x.1.weights Tryz.prog 53).all (· ≤ reachBytes) = true) :
    ∃ c : Sp, cs = [.int .u8 (c.row : Int), .int .u8 (c.col : Int), .int .u8 (c.ver : Int), .bool c.gone, .string (bstr c.val)] ∧ SpOk c := by
  obtain ⟨y0, y1, y2, y3, y4, n, hx, hl, h0, h1, h2, h3, h4⟩ := trod_struct5x Tryz.underlying53 h
  rw [spot_cells] at hl
  match cs, hl with
  | [c0, c1, c2, c3, c4], _ =>
    simp only [string_cells, byte_cells, bool_cells, List.drop_zero, List.drop_succ_cons, List.take_succ_cons, List.take_zero] at h0 h1 h2 h3 h4
    obtain ⟨m0, e0, k0⟩ := DataW.trod_int Tryz.underlying5 h0
    obtain ⟨m1, e1, k1⟩ := DataW.trod_int Tryz.underlying5 h1
    obtain ⟨m2, e2, k2⟩ := DataW.trod_int Tryz.underlying5 h2
    obtain ⟨g, e3, k3⟩ := DataW.trod_bool Tryz.underlying4 h3
    obtain ⟨u, e4, k4⟩ := DataW.trod_string Tryz.underlying9 h4
    simp only [List.cons.injEq, and_true] at e0 e1 e2 e3 e4
    subst e0 e1 e2 e3 e4
    obtain ⟨rfl, b0⟩ := k0
    obtain ⟨rfl, b1⟩ := k1
    obtain ⟨rfl, b2⟩ := k2
    obtain ⟨rfl, _⟩ := k4
    subst k3
    have b0 := bounds_u8 b0
    have b1 := bounds_u8 b1
    have b2 := bounds_u8 b2
    refine ⟨⟨m0.toNat, m1.toNat, m2.toNat, g, u.data.toList⟩, ?_, ?_⟩
    · rw [Int.toNat_of_nonneg b0.1, Int.toNat_of_nonneg b1.1, Int.toNat_of_nonneg b2.1, bstr_data]
    · rw [hx] at hw
      simp only [DataW.weights, Tryz.underlying53, DataW.weightsEach, List.map_cons, List.map_nil] at hw
      simp only [List.append_nil, List.nil_append, List.all_cons, List.all_nil, Bool.and_eq_true, reachBytes] at hw
      have hz := of_decide_eq_true hw.1
      exact ⟨by show m0.toNat < 256; omega, by show m1.toNat < 256; omega, by show m2.toNat < 256; omega, by show u.data.toList.length ≤ _; omega⟩
/-- An argument that is a small cell. -/
theorem arg_spot {v : Value} {d : DataW H} {p : List MemPlace} {r : Reach} {b : Nat} (hv : Value.okWide Tryz.prog w r b 53 v) (h : DataW.Trod enc Tryz.prog w base spare held 53 v d p) (hw : (d.weights Tryz.prog 53).all (· ≤ reachBytes) = true) :
    ∃ c : Sp, v = .agg #[.int .u8 (c.row : Int), .int .u8 (c.col : Int), .int .u8 (c.ver : Int), .bool c.gone, .string (bstr c.val)] ∧ SpOk c := by
  obtain ⟨cs, rfl, _⟩ := okWide_struct Tryz.underlying53 hv
  obtain ⟨fuel, hf⟩ := h
  obtain ⟨c, e, hc⟩ := view_spot hf hw
  refine ⟨c, ?_, hc⟩
  obtain ⟨l⟩ := cs
  have : l = [.int .u8 (c.row : Int), .int .u8 (c.col : Int), .int .u8 (c.ver : Int), .bool c.gone, .string (bstr c.val)] := by simpa [Value.cells] using e
  rw [this]
/-- A list of small cells read, with its bounds. -/
theorem view_spots {fuel : Nat} {vs : List Value} {x : DataW H × List MemPlace} (h : DataW.trod enc Tryz.prog w base spare held fuel 51 vs = some x) (hw : (x.1.weights Tryz.prog 51).all (· ≤ reachBytes) = true) :
    ∃ (q : Option Addr) (b off cap : Nat) (cs : List Sp), vs = [.slice q cs.length cap] ∧ (0 < cs.length → q = some ⟨b, off, none⟩ ∧ SpRow w b off cs ∧ b < w.heap.size) ∧ (∀ c ∈ cs, SpOk c) ∧ cs.length * 24 ≤ 140737488351232 ∧ cs.length ≤ cap ∧ cap ≤ maxLen ∧ (q = none → cs = [] ∧ cap = 0) := by
  rcases open_slice Tryz.underlying51 h with ⟨h0, _⟩ | ⟨a, len, cap, m, n, D, Pl, rfl, hb, hl, hm, hmm, hxx, hx⟩
  · exact ⟨none, 0, 0, 0, [], h0, fun h => absurd h (by simp), by simp, by simp, Nat.le_refl _, Nat.zero_le _, fun _ => ⟨rfl, rfl⟩⟩
  have hlm : len ≤ m := by rw [hmm]; split <;> omega
  rw [hxx] at hw
  simp only [DataW.weights, Tryz.underlying51] at hw
  rw [List.all_cons, Bool.and_eq_true, decide_eq_true_eq, Tryz.bytesSpot] at hw
  obtain ⟨hw1, hw2⟩ := hw
  simp only [List.length_map, List.length_range, reachBytes] at hw1
  have hspot : 0 < len → a.spot = none := by
    intro h0
    obtain ⟨cs', h1, h2⟩ := hx 0 (by omega)
    rw [spot_cells] at h1
    obtain ⟨_, hlen, hcell⟩ := World.cells?_some h1
    have e0 := hcell 0 (by omega)
    have hsp := World.cell?_spot (e0.trans (List.getElem?_eq_getElem (by omega)))
    simpa [Addr.add] using hsp
  have each : ∀ i, i < len → ∃ c : Sp, SpAt w a.block (a.off + i * 5) c ∧ SpOk c ∧ a.spot = none := by
    intro i hi
    have hs := hspot (by omega)
    obtain ⟨cs', h1, h2⟩ := hx i (by omega)
    rw [spot_cells] at h1
    obtain ⟨_, hlen, hcell⟩ := World.cells?_some h1
    obtain ⟨c, rfl, hf⟩ := view_spot h2 (by
      rw [List.all_eq_true] at hw2 ⊢
      intro n hn
      refine hw2 n (List.mem_append.2 (Or.inl (weights_mem_all (d := D i) ?_ n hn)))
      exact List.mem_map.2 ⟨i, by simpa using hi, rfl⟩)
    have e0 := hcell 0 (by omega)
    have e1 := hcell 1 (by omega)
    have e2 := hcell 2 (by omega)
    have e3 := hcell 3 (by omega)
    have e4 := hcell 4 (by omega)
    obtain ⟨ab, ao, sp⟩ := a
    simp only at hs
    subst hs
    simp only [Addr.add_lit, Nat.add_zero] at e0 e1 e2 e3 e4
    exact ⟨c, ⟨e0.trans rfl, e1.trans rfl, e2.trans rfl, e3.trans rfl, e4.trans rfl⟩, hf, rfl⟩
  have : ∀ k, k ≤ len → ∃ cs : List Sp, cs.length = k ∧ SpRow w a.block a.off cs ∧ ∀ c ∈ cs, SpOk c := by
    intro k
    induction k with
    | zero => exact fun _ => ⟨[], rfl, fun i hi => by simp at hi, by simp⟩
    | succ k ih =>
      intro hk
      obtain ⟨cs, h1, h2, h3⟩ := ih (by omega)
      obtain ⟨y, hy, hyf, _⟩ := each k (by omega)
      refine ⟨cs ++ [y], by simp [h1], fun i hi => ?_, fun c hc => ?_⟩
      · by_cases hik : i < cs.length
        · rw [List.getElem_append_left hik]
          exact h2 i hik
        · have : i = k := by simp at hi; omega
          subst this
          have e : (cs ++ [y])[i]'hi = y := by
            rw [List.getElem_append_right (by omega)]
            simp [h1]
          rw [e]
          exact hy
      · rcases List.mem_append.1 hc with hc | hc
        · exact h3 c hc
        · simp at hc
          rw [hc]
          exact hyf
  obtain ⟨cs, h1, h2, h3⟩ := this len (Nat.le_refl _)
  refine ⟨some a, a.block, a.off, cap, cs, by rw [h1], fun h0 => ?_, h3, by rw [h1]; omega, by omega, hm, fun h => by cases h⟩
  obtain ⟨_, hat, _, hs⟩ := each 0 (by omega)
  refine ⟨?_, h2, World.block_lt_of_cell? w ⟨a.block, a.off + 0 * 5, none⟩ hat.c0⟩
  obtain ⟨ab, ao, sp⟩ := a
  simp only at hs
  subst hs
  rfl
end

end Go.Proofs.YtmpnofbhbglfpaaGreatDoor
