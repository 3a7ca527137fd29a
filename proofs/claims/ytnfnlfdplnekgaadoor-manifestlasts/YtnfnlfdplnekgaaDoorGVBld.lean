/-
  What is written into a strings.Builder stands behind what it had.
  strings.Builder that lies inside a block of several: what is written to touches its two cells and its row alone.
-/
import Derived.Test.YtnfnlfdplnekgaaDoorAid
import Derived.Test.YtnfnlfdplnekgaaDoorGVWir
import Derived.Lib.Builder
import Derived.Lib.AppendStr
import Derived.Laws.Externs
import Derived.Test.YtnfnlfdplnekgaaDoorGVChkM
namespace Go.Proofs.YtnfnlfdplnekgaaDoor
open Go.RowKit

abbrev IsB (B b : Nat) (l : List UInt8) (w : World) : Prop := Lib.IsBuilder 70 5 B b (Lib.byteCells l) w
theorem bld_size : (Tryd.prog.info? 70).map (·.size) = some 2 := by kernel_rfl
theorem bld_lies : liesAt Tryd.prog Tryd.prog.depth 70 (2 / Tryd.prog.cellsOf 70) 0 70 1 = true := by kernel_rfl

set_option maxHeartbeats 1000000 in
set_option maxRecDepth 100000 in
theorem copyCheck_used (b : Nat) (w : World) (h0 : w.cell? ⟨b, 0, none⟩ = some (.pointer (some ⟨b, 0, none⟩))) :
    Calls Tryd.prog 45 #[.pointer (some ⟨b, 0, none⟩)] w fun e w' => e = .returned (.tuple #[]) ∧ w' = w := by
  obtain ⟨j, hj, _⟩ := Option.map_eq_some_iff.1 bld_size
  have hne := fun w => Lib.run_neq_ptr_same (P := Tryd.prog) (w := w) ⟨b, 0, none⟩ Tryd.underlying68 hj
  go_enter Tryd.func45, Tryd.ntmps45
  go_wp2
  go_end0
  exact ⟨rfl, rfl⟩

set_option maxHeartbeats 1000000 in
set_option maxRecDepth 100000 in
theorem copyCheck_fresh (b : Nat) (w : World) (h0 : w.cell? ⟨b, 0, none⟩ = some (.pointer none)) (hsh : w.shape? b = some (70, 2)) (hfz : w.frozen? ⟨b, 0, none⟩ = false) :
    Calls Tryd.prog 45 #[.pointer (some ⟨b, 0, none⟩)] w fun e w' => e = .returned (.tuple #[]) ∧ w' = w.setCell ⟨b, 0, none⟩ (.pointer (some ⟨b, 0, none⟩)) := by
  obtain ⟨j, hj, hjs⟩ := Option.map_eq_some_iff.1 bld_size
  have k1 := Lib.run_to_unsafe (P := Tryd.prog) (w := w) ⟨b, 0, none⟩ Tryd.underlying68 Tryd.underlying115 hj (by rw [hjs]; decide) hsh (Nat.zero_lt_succ 1)
  have k2 := Lib.run_from_unsafe (P := Tryd.prog) (w := w) ⟨b, 0, none⟩ Tryd.underlying115 Tryd.underlying68 hj hsh bld_lies
  have k3 : (callFunc 57 #[.pointer (some ⟨b, 0, none⟩)]).run Tryd.prog w = .ok (.value (.pointer (some ⟨b, 0, none⟩))) w := by
    rw [run_callFunc_extern Tryd.func57 (by kernel_rfl) (by kernel_rfl) (by kernel_rfl) (e := Extern.AbiNoEscape.same) (by kernel_rfl)]
    rfl
  go_enter Tryd.func45, Tryd.ntmps45
  go_wp2
  go_end0
  exact ⟨rfl, rfl⟩

theorem copyCheck_any (B b : Nat) (l : List UInt8) (w : World) (h : IsB B b l w) :
    Calls Tryd.prog 45 #[.pointer (some ⟨b, 0, none⟩)] w fun e w' => e = .returned (.tuple #[]) ∧ (Lib.BuilderAt 70 5 B b (.pointer (some ⟨b, 0, none⟩)) (Lib.byteCells l) w' ∧ Below B w w') := by
  rcases h with h | h
  · refine (copyCheck_fresh b w h.cell0 h.shape h.frozen0).mono ?_
    rintro e w' ⟨rfl, rfl⟩
    exact ⟨rfl, h.used _, (Below.refl B w).setCell (p := ⟨b, 0, none⟩) h.1 _⟩
  · refine (copyCheck_used b w h.cell0).mono ?_
    rintro e w' ⟨rfl, rfl⟩
    exact ⟨rfl, h, Below.refl B _⟩

set_option maxHeartbeats 2000000 in
set_option maxRecDepth 100000 in
theorem WriteString_any (B b : Nat) (l s : List UInt8) (w : World) (h : IsB B b l w) (hlen : l.length + s.length ≤ 140737488355328) (hBw : B ≤ w.heap.size) :
    Calls Tryd.prog 24 #[.pointer (some ⟨b, 0, none⟩), .string (bstr s)] w fun e w' => e = .returned (.tuple #[.int .i64 s.length, .nilIface]) ∧ IsB B b (l ++ s) w' ∧ Below B w w' := by
  obtain ⟨i0, hi, hz0, hz1, hz2⟩ := info_parts Tryd.infoByte
  have hsz := size_bstr s
  go_enter Tryd.func24, Tryd.ntmps24
  go_wp2_with fail
  refine (copyCheck_any B b l _ h).mono ?_
  rintro e w1 ⟨rfl, h1, hb1⟩
  obtain ⟨hB, v, hbk, hown, hne⟩ := h1
  rw [Lib.byteCells_length] at hown
  have c0 : w1.cell? ⟨b, 0, none⟩ = some (.pointer (some ⟨b, 0, none⟩)) := by rw [Lib.cell_of_heap hbk]; rfl
  have c1 : w1.cell? ⟨b, 1, none⟩ = some v := by rw [Lib.cell_of_heap hbk]; rfl
  go_wp2_with (at_builtin; refine Lib.wpList_append_own_string _ rfl _ _ 30 9 rfl B 5 i0 Tryd.underlying30 Tryd.underlying9 hi hz0 hz1 hz2 _ _ _ rfl hown (bstr s) rfl ?c3 ?c4 ?c5 ?_)
  case c3 => unfold maxLen; omega
  case c4 => omega
  case c5 => have := hb1.size; omega
  intro v' w2 hown' hgrow _
  have hlt : b < w1.heap.size := lt_of_block hbk
  have hb2 : w2.heap[b]? = some (.cells #[.pointer (some ⟨b, 0, none⟩), v] 70 (0, 0)) := by
    rw [hgrow.block b hlt (fun e => hne e.symm)]
    exact hbk
  have d0 : w2.cell? ⟨b, 0, none⟩ = some (.pointer (some ⟨b, 0, none⟩)) := by rw [Lib.cell_of_heap hb2]; rfl
  have d1 : w2.cell? ⟨b, 1, none⟩ = some v := by rw [Lib.cell_of_heap hb2]; rfl
  have f1 : w2.frozen? ⟨b, 1, none⟩ = false := Lib.frozen_of_heap hb2 1
  obtain ⟨ao, n', cap, rfl⟩ : ∃ ao n' cap, v' = .slice ao n' cap := by
    rcases hown'.2 with ⟨hv, _⟩ | ⟨g, cap, cur, hv, _⟩
    · exact ⟨_, _, _, hv⟩
    · exact ⟨_, _, _, hv⟩
  go_wp2
  go_ret2
  have hst : Lib.strCells (bstr s) = Lib.byteCells s := by rw [strCells_eq, data_bstr]
  refine ⟨by rw [← hsz]; rfl, .inr ?_, ?_⟩
  · refine Lib.BuilderAt.put (T := 70) (e := 5) hB hb2 (bs' := Lib.byteCells (l ++ s)) ?_ (by decide)
    rw [byteCells_append, List.length_append, Lib.byteCells_length, Lib.byteCells_length, ← hst, ← hsz]
    exact hown'
  · exact (hb1.grown hgrow (by have := hb1.size; omega) (fun k hk => (hown.lt k hk).1)).setCell (p := ⟨b, 1, none⟩) hB _

end Go.Proofs.YtnfnlfdplnekgaaDoor

namespace Go.Proofs.YtnfnlfdplnekgaaDoor
open Go.RowKit
attribute [local go_sem] size_bstr getElem_bstr toList_bstr append_bstr

theorem bld_lies7 : ∀ n, n < 8 → ∀ i, i < n → liesAt Tryd.prog Tryd.prog.depth 70 (n * 2 / Tryd.prog.cellsOf 70) (i * 2) 70 1 = true := by decide +kernel
theorem own_kept {w w' : World} {B sz : Nat} {e : TypeId} {v : Value} {n : Nat} {xs : List Value} (h : w.ownsRow B e sz v n xs) (hk : ∀ i, v.ownBlock = some i → w'.heap[i]? = w.heap[i]?) : w'.ownsRow B e sz v n xs := by
  rcases h.2 with h0 | ⟨g, cap, cur, hv, hbg, hg, r⟩
  · exact ⟨h.1, .inl h0⟩
  · exact ⟨h.1, .inr ⟨g, cap, cur, hv, hbg, (hk g (by rw [hv]; rfl)).trans hg, r⟩⟩
theorem append_str_at {P : Program} {w w' : World} {base : Nat} {t u ty e : TypeId} {i : TypeInfo} (ht : P.underlying t = some (.slice e)) (hu : P.underlying u = some .string) (hi : P.info? e = some i) (hz : i.zero = some (.int .u8 0)) (hsize : i.size = 1) (hby : i.bytes = 1)
    {v v' : Value} {n : Nat} {xs : List Value} (hown : w.ownsRow base e 1 v n xs) {s : ByteArray} (h63 : n + s.size ≤ maxLen) (hbytes : n + s.size ≤ 140737488355328) (hr : (Builtin.append_ #[t, u] ty #[v, .string s]).run P w = .ok v' w') : ∀ k, v'.ownBlock = some k → v.ownBlock = some k ∨ w.heap.size ≤ k := by
  have hsmall : n + s.size ≤ 9223372036854775807 := by simp only [maxLen] at h63; omega
  have hxl : xs.length = n := by simpa using hown.1
  intro k hk
  rcases hown.2 with ⟨rfl, rfl⟩ | ⟨g, cap, cur, rfl, hbg, hg, hnc, hcm, hcs, htake⟩
  · by_cases hm : s.size = 0
    · have hf := Lib.run_firstCells_string (P := P) w 1 s
      rw [hm] at hf
      simp [Builtin.append_, run_underlying ht, run_underlying hu, sizeOf, typeInfo, hi, hsize, Builtin.lenOf, hm, hf] at hr
      obtain ⟨rfl, rfl⟩ := hr
      simp [Value.ownBlock] at hk
    · have hr2 := run_append_nil_string (P := P) w t u ty e i (.int .u8 0) ht hu hi hz s (by omega) (by omega) (by rw [hby]; omega)
      rw [hr2] at hr
      cases hr
      simp [Value.ownBlock] at hk
      exact Or.inr (by omega)
  · by_cases hroom : n + s.size ≤ cap
    · have hcs' : cur.size = cap := by simpa using hcs
      have hr2 := Lib.run_append_room_string (P := P) w t u ty e i ht hu hi hsize g n cap cur hg s hroom (by omega)
      rw [hr2] at hr
      cases hr
      exact Or.inl hk
    · have holds : ∀ j u, xs[j]? = some u → w.cell? ((⟨g, 0, none⟩ : Addr).add j) = some u := hown.cells (g := g) rfl
      have hr2 := Lib.run_append_grow_string (P := P) w t u ty e i (.int .u8 0) ht hu hi hz ⟨g, 0, none⟩ n cap xs (by rw [hsize]; simpa using hxl) holds s (by omega) (by omega) (by rw [hby]; exact growslice_fits (by omega) (by omega))
      rw [hr2] at hr
      cases hr
      simp [Value.ownBlock] at hk
      exact Or.inr (by omega)
theorem wpList_app_str {P : Program} {w : World} {ops : Array Oper} {rest : List Oper} {o : Oper} {a : Act} {Q : Exit → Act → World → Prop} (hgd : o.guard = none) (sl x : Operand) (t u : TypeId)
    (ho : o.op = .call { callee := .builtin .append, args := #[sl, x], argTypes := #[t, u] })
    (base : Nat) (e : TypeId) (i : TypeInfo) (ht : P.underlying t = some (.slice e)) (hu : P.underlying u = some .string) (hi : P.info? e = some i) (hz : i.zero = some (.int .u8 0))
    (hsize : i.size = 1) (hby : i.bytes = 1)
    (v : Value) (n : Nat) (xs : List Value) (hs : a.eval sl = v) (hown : w.ownsRow base e 1 v n xs) (s : ByteArray) (hx : a.eval x = .string s)
    (h63 : n + s.size ≤ maxLen) (hbytes : n + s.size ≤ 140737488355328) (hbase : base ≤ w.heap.size)
    (h : ∀ v' w', w'.ownsRow base e 1 v' (n + s.size) (xs ++ Lib.strCells s) → w.grownBy w' v.ownBlock → (∀ k, v'.ownBlock = some k → v.ownBlock = some k ∨ w.heap.size ≤ k) → wpList P ops Q rest (a.put o.dst v') w') : wpList P ops Q (o :: rest) a w := by
  refine wpList_plain hgd fun K hK => ?_
  obtain ⟨v', w', hr, h2, h3, h4⟩ := Lib.run_append_own_string (P := P) w base t u o.type e i ht hu hi hz hsize hby v n xs hown s h63 hbytes hbase
  have h5 := append_str_at (P := P) ht hu hi hz hsize hby hown h63 hbytes hr
  unfold Oper.wp execOp
  simp only [ho, resolve, invoke, builtin, Sem.run_bind, Sem.run_pure, Result.andThen_ok, List.map_toArray, List.map_cons, List.map_nil, hs, hx, hr]
  exact hK _ _ (h v' w' h2 h3 h5)


/-- A builder at a place of a block. -/
structure Bw (w : World) (B g o : Nat) (cur : Array Value) (v : Value) (l : List UInt8) : Prop where
  blk : w.heap[g]? = some (.cells cur 70 (0, 0))
  p : cur[o]? = some (.pointer none) ∨ cur[o]? = some (.pointer (some ⟨g, o, none⟩))
  q : cur[o + 1]? = some v
  row : w.ownsRow B 5 1 v l.length (Lib.byteCells l)
  ne : v.ownBlock ≠ some g
  lies : liesAt Tryd.prog Tryd.prog.depth 70 (cur.size / Tryd.prog.cellsOf 70) o 70 1 = true
theorem cur_lt {cur : Array Value} {o : Nat} {v : Value} (h : cur[o]? = some v) : o < cur.size := (Array.getElem?_eq_some_iff.1 h).1

set_option maxHeartbeats 1000000 in
set_option maxRecDepth 100000 in
theorem copyCheck_usedo (g o : Nat) (w : World) (h0 : w.cell? ⟨g, o, none⟩ = some (.pointer (some ⟨g, o, none⟩))) :
    Calls Tryd.prog 45 #[.pointer (some ⟨g, o, none⟩)] w fun e w' => e = .returned (.tuple #[]) ∧ w' = w := by
  obtain ⟨j, hj, _⟩ := Option.map_eq_some_iff.1 bld_size
  have hne := fun w => Lib.run_neq_ptr_same (P := Tryd.prog) (w := w) ⟨g, o, none⟩ Tryd.underlying68 hj
  go_enter Tryd.func45, Tryd.ntmps45
  go_wp2
  go_end0
  exact ⟨rfl, rfl⟩

set_option maxHeartbeats 1000000 in
set_option maxRecDepth 100000 in
theorem copyCheck_fresho (g o n : Nat) (w : World) (h0 : w.cell? ⟨g, o, none⟩ = some (.pointer none)) (hsh : w.shape? g = some (70, n)) (hon : o < n) (hli : liesAt Tryd.prog Tryd.prog.depth 70 (n / Tryd.prog.cellsOf 70) o 70 1 = true) (hfz : w.frozen? ⟨g, o, none⟩ = false) :
    Calls Tryd.prog 45 #[.pointer (some ⟨g, o, none⟩)] w fun e w' => e = .returned (.tuple #[]) ∧ w' = w.setCell ⟨g, o, none⟩ (.pointer (some ⟨g, o, none⟩)) := by
  obtain ⟨j, hj, hjs⟩ := Option.map_eq_some_iff.1 bld_size
  have k1 := Lib.run_to_unsafe (P := Tryd.prog) (w := w) ⟨g, o, none⟩ Tryd.underlying68 Tryd.underlying115 hj (by rw [hjs]; decide) hsh hon
  have k2 := Lib.run_from_unsafe (P := Tryd.prog) (w := w) ⟨g, o, none⟩ Tryd.underlying115 Tryd.underlying68 hj hsh hli
  have k3 : (callFunc 57 #[.pointer (some ⟨g, o, none⟩)]).run Tryd.prog w = .ok (.value (.pointer (some ⟨g, o, none⟩))) w := by
    rw [run_callFunc_extern Tryd.func57 (by kernel_rfl) (by kernel_rfl) (by kernel_rfl) (e := Extern.AbiNoEscape.same) (by kernel_rfl)]
    rfl
  clear hsh hli hon
  go_enter Tryd.func45, Tryd.ntmps45
  go_wp2
  go_end0
  exact ⟨rfl, rfl⟩

set_option maxHeartbeats 2000000 in
set_option maxRecDepth 100000 in
theorem WriteString_bw (B g o : Nat) (cur : Array Value) (v : Value) (l s : List UInt8) (w : World) (h : Bw w B g o cur v l) (hlen : l.length + s.length ≤ 140737488355328) (hBw : B ≤ w.heap.size) :
    Calls Tryd.prog 24 #[.pointer (some ⟨g, o, none⟩), .string (bstr s)] w fun e w' => ∃ v' cur', e = .returned (.tuple #[.int .i64 s.length, .nilIface]) ∧ Bw w' B g o cur' v' (l ++ s) ∧ cur'.size = cur.size ∧ (∀ k, k ≠ o → k ≠ o + 1 → cur'[k]? = cur[k]?) ∧ Kp w w' (fun i => i = g ∨ v.ownBlock = some i) ∧ ∀ i, v'.ownBlock = some i → v.ownBlock = some i ∨ w.heap.size ≤ i := by
  obtain ⟨i0, hi, hz0, hz1, hz2⟩ := info_parts Tryd.infoByte
  have hsz := size_bstr s
  have ho1 := cur_lt h.q
  have hcc : Calls Tryd.prog 45 #[.pointer (some ⟨g, o, none⟩)] w fun e w' => ∃ cur1 : Array Value, e = .returned (.tuple #[]) ∧ w'.heap[g]? = some (.cells cur1 70 (0, 0)) ∧ cur1[o]? = some (.pointer (some ⟨g, o, none⟩)) ∧ cur1[o + 1]? = some v ∧ cur1.size = cur.size ∧ (∀ k, k ≠ o → cur1[k]? = cur[k]?) ∧ w'.heap.size = w.heap.size ∧ Kp w w' (fun i => i = g ∨ v.ownBlock = some i) ∧ ∀ i, i ≠ g → w'.heap[i]? = w.heap[i]? := by
    rcases h.p with hp | hp
    · refine (copyCheck_fresho g o cur.size w (((vcb h.blk).1 o).trans hp) (by simp [World.shape?, h.blk]) (by omega) h.lies ((vcb h.blk).2 o)).mono ?_
      rintro e w' ⟨rfl, rfl⟩
      refine ⟨_, rfl, heap_set_same h.blk _, ?_, ?_, ?_, ?_, by simp, (Kp.refl w _).setCell _ (Or.inl (Or.inl rfl)), fun i hi => heap_set_other _ hi⟩
      · rw [Array.getElem?_setIfInBounds]; simp; omega
      · rw [Array.getElem?_setIfInBounds]; simp; exact h.q
      · simp
      · intro k hk
        rw [Array.getElem?_setIfInBounds]
        simp [Ne.symm hk]
    · refine (copyCheck_usedo g o w (((vcb h.blk).1 o).trans hp)).mono ?_
      rintro e w' ⟨rfl, rfl⟩
      exact ⟨cur, rfl, h.blk, hp, h.q, rfl, fun _ _ => rfl, rfl, Kp.refl _ _, fun _ _ => rfl⟩
  go_enter Tryd.func24, Tryd.ntmps24
  go_wp2_with fail
  refine hcc.mono ?_
  rintro e w1 ⟨cur1, rfl, hbk, hp1, hq1, hsz1, hcu1, hsw, hK1, hot⟩
  have hne := h.ne
  have hli := h.lies
  have hown : w1.ownsRow B 5 1 v l.length (Lib.byteCells l) := own_kept h.row fun i hi => hot i (fun e => hne (e ▸ hi))
  clear hcc h
  have c0 : w1.cell? ⟨g, o, none⟩ = some (.pointer (some ⟨g, o, none⟩)) := ((vcb hbk).1 o).trans hp1
  have c1 : w1.cell? ⟨g, o + 1, none⟩ = some v := ((vcb hbk).1 (o + 1)).trans hq1
  go_wp2_with (at_builtin; refine wpList_app_str rfl _ _ 30 9 rfl B 5 i0 Tryd.underlying30 Tryd.underlying9 hi hz0 hz1 hz2 _ _ _ rfl hown (bstr s) rfl ?c3 ?c4 ?c5 ?_)
  case c3 => unfold maxLen; omega
  case c4 => omega
  case c5 => omega
  intro v' w2 hown' hgrow hnv
  have hlt : g < w1.heap.size := lt_of_block hbk
  have hb2 : w2.heap[g]? = some (.cells cur1 70 (0, 0)) := by
    rw [hgrow.block g hlt (fun e => hne e.symm)]
    exact hbk
  have d0 : w2.cell? ⟨g, o, none⟩ = some (.pointer (some ⟨g, o, none⟩)) := ((vcb hb2).1 o).trans hp1
  have d1 : w2.cell? ⟨g, o + 1, none⟩ = some v := ((vcb hb2).1 (o + 1)).trans hq1
  have f1 : w2.frozen? ⟨g, o + 1, none⟩ = false := (vcb hb2).2 (o + 1)
  obtain ⟨ao, n', cap, rfl⟩ : ∃ ao n' cap, v' = .slice ao n' cap := by
    rcases hown'.2 with ⟨hv, _⟩ | ⟨g, cap, cur, hv, _⟩
    · exact ⟨_, _, _, hv⟩
    · exact ⟨_, _, _, hv⟩
  go_wp2
  go_ret2
  have hst : Lib.strCells (bstr s) = Lib.byteCells s := by rw [strCells_eq, data_bstr]
  have hnb : Value.ownBlock (.slice ao n' cap) ≠ some g := fun e => by
    rcases hnv g e with h | h
    · exact hne h
    · omega
  refine ⟨.slice ao n' cap, cur1.setIfInBounds (o + 1) (.slice ao n' cap), by rw [← hsz]; rfl, ⟨heap_set_same hb2 _, ?_, ?_, ?_, hnb, ?_⟩, ?_, ?_, ?_, fun i hi => ?_⟩
  · rw [Array.getElem?_setIfInBounds]; simp; exact Or.inr hp1
  · rw [Array.getElem?_setIfInBounds]; simp; omega
  · refine own_kept (w := w2) ?_ fun i hi => heap_set_other _ (fun e => hnb (e ▸ hi))
    rw [byteCells_append, List.length_append, ← hst, ← hsz]
    exact hown'
  · simp only [Array.size_setIfInBounds, hsz1]; exact hli
  · simp [hsz1]
  · intro k h1 h2
    rw [Array.getElem?_setIfInBounds, if_neg (fun e => h2 e.symm)]
    exact hcu1 k h1
  · refine Kp.setCell (hK1.trans (Kp.of_grown (S := fun i => v.ownBlock = some i) hgrow (fun k hk => hk)) (fun i hi => Or.inl (Or.inr hi))) _ (Or.inl (Or.inl rfl))
  · rcases hnv i hi with h | h
    · exact Or.inl h
    · exact Or.inr (by omega)

theorem cellsByte : Tryd.prog.cellsOf 5 = 1 := by kernel_rfl

set_option maxHeartbeats 1000000 in
set_option maxRecDepth 100000 in
/-- What a builder holds: its row is frozen, nothing else is touched. -/
theorem String_bw (B g0 o : Nat) (cur0 : Array Value) (v : Value) (l : List UInt8) (w : World) (h : Bw w B g0 o cur0 v l) (hl : l = [] → v = .slice none 0 0) :
    Calls Tryd.prog 27 #[.pointer (some ⟨g0, o, none⟩)] w fun e w' => e = .returned (.string (bstr l)) ∧ Kp w w' (fun i => v.ownBlock = some i) := by
  have hbk := h.blk
  have hq := h.q
  by_cases h0 : l = []
  · have hv := hl h0
    subst hv h0
    have hUS : ∀ (W : World) (q : Option Addr), (Builtin.unsafeString_ #[101, 3] 9 #[.pointer q, .int .i64 0]).run Tryd.prog W = .ok (.string .empty) W := fun W q => Lib.run_unsafeString_none W _ _ _ q
    have c1 : w.drew.cell? ⟨g0, o + 1, none⟩ = some (.slice none 0 0) := by
      have : w.drew.heap[g0]? = some (.cells cur0 70 (0, 0)) := hbk
      exact ((vcb this).1 (o + 1)).trans hq
    have hSD : (Builtin.unsafeSliceData_ #[30] 101 #[.slice none 0 0]).run Tryd.prog w.drew = .ok (.pointer none) w.drew := rfl
    clear h hl hbk hq
    go_enter Tryd.func27, Tryd.ntmps27
    go_wp2
    go_region
    all_goals (go_wp2; go_ret; exact ⟨rfl, (Kp.refl w _).drew⟩)
  · have hown := h.row
    obtain ⟨g, cap, cur, rfl, hbg, hg, hnc, hcm, hcs, htake⟩ : ∃ g cap cur, v = .slice (some ⟨g, 0, none⟩) l.length cap ∧ B ≤ g ∧ w.heap[g]? = some (.cells cur 5 (0, 0)) ∧ l.length ≤ cap ∧ cap ≤ maxLen ∧ cur.size = cap * 1 ∧ cur.toList.take (l.length * 1) = Lib.byteCells l := by
      rcases hown.2 with ⟨_, hz⟩ | ⟨g, cap, cur, hv, r⟩
      · exact absurd (List.eq_nil_of_length_eq_zero hz) h0
      · exact ⟨g, cap, cur, hv, r⟩
    have hl0 : l.length ≠ 0 := by simpa using h0
    have c1 : w.drew.cell? ⟨g0, o + 1, none⟩ = some (.slice (some ⟨g, 0, none⟩) l.length cap) := by
      have : w.drew.heap[g0]? = some (.cells cur0 70 (0, 0)) := hbk
      exact ((vcb this).1 (o + 1)).trans hq
    have hSD : (Builtin.unsafeSliceData_ #[30] 101 #[.slice (some ⟨g, 0, none⟩) l.length cap]).run Tryd.prog w.drew = .ok (.pointer (some ⟨g, 0, none⟩)) w.drew :=
      Lib.run_unsafeSliceData_row _ _ _ _ _ _ (by omega)
    have hUS : (Builtin.unsafeString_ #[101, 3] 9 #[.pointer (some ⟨g, 0, none⟩), .int .i64 l.length]).run Tryd.prog w.drew = .ok (.string ⟨l.toArray⟩) (w.drew.freeze ⟨g, 0, none⟩ l.length) := by
      refine Lib.run_unsafeString_row w.drew 101 3 9 5 Tryd.underlying101 cellsByte g cur.size (by have hg' : w.drew.heap[g]? = some (.cells cur 5 (0, 0)) := hg; simp [World.shape?, hg']) l h0 (by omega) (by unfold maxLen at hcm; omega) ?_
      intro j x hx
      have := hown.cells (g := g) rfl j (.int .u8 x.toNat) (by simp [Lib.byteCells, hx])
      exact this
    have hk : Kp w (w.drew.freeze ⟨g, 0, none⟩ l.length) (fun i => Value.ownBlock (.slice (some ⟨g, 0, none⟩) l.length cap) = some i) := by
      unfold World.freeze
      rw [if_neg hl0]
      refine ⟨rfl, rfl, rfl, by simp, fun i _ hn => ?_⟩
      have hne : g ≠ i := fun e => hn (by rw [e]; rfl)
      show (w.heap.modify g _)[i]? = _
      rw [Array.getElem?_modify, if_neg hne]
    have HK : Hid _ := hk
    clear h hl hown hcm hcs htake hk hg hbk hbg hq
    go_enter Tryd.func27, Tryd.ntmps27
    go_wp2
    go_region
    all_goals (go_wp2; go_ret; exact ⟨rfl, HK.out⟩)

end Go.Proofs.YtnfnlfdplnekgaaDoor
