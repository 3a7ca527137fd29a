/-
  slices.SortFunc at elements of one cell, the library's contract, laid at this seat's numbers.
  slices.SortFunc over the indices of a list of cells: they stand in order behind it.
  The contract of cells.order, and of cells.firsts.
-/
import Derived.Shelf.SlSortCmp.Whole1
import Derived.Test.YtmpnofbhbglfpaaGreatDoorProg
import Derived.Test.YtmpnofbhbglfpaaGreatDoorCIdx
import Derived.Test.YtmpnofbhbglfpaaGreatDoorShelf
import Derived.Test.YtmpnofbhbglfpaaGreatDoorGEOpen
import Derived.Laws.MakeOwn
import Derived.Lib.QuietBelow
import Derived.BigQuiet
namespace Go.Proofs
open Go.Shelf
def Tryz.sortLaid_ren : Go.Shelf.Ren := ⟨fun | 6 => 126 | 15 => 125 | 14 => 147 | 28 => 145 | 29 => 146 | 20 => 151 | 21 => 152 | 22 => 153 | 23 => 154 | 24 => 155 | 25 => 156 | 26 => 157 | 27 => 158 | 46 => 159 | 47 => 160 | 48 => 161 | 49 => 162 | 50 => 163 | 57 => 164 | n => n, fun | 22 => 134 | 24 => 3 | 25 => 136 | 3 => 3 | 39 => 118 | 0 => 0 | 53 => 146 | 55 => 37 | 4 => 4 | 46 => 192 | 45 => 191 | 50 => 158 | 5 => 5 | 9 => 9 | 66 => 197 | 70 => 200 | 76 => 202 | 77 => 107 | n => n, fun | n => n⟩
theorem Tryz.sortLaid : Go.Proofs.SlLaysF.n6 Tryz.prog Tryz.sortLaid_ren := {
  mixed := by kernel_rfl
  f6 := ⟨Tryz.f126.name, by decide, Tryz.func126.trans (congrArg some (by kernel_rfl))⟩
  f14 := ⟨Tryz.f147.name, by decide, Tryz.func147.trans (congrArg some (by kernel_rfl))⟩
  f15 := Tryz.func125.trans (congrArg some (by kernel_rfl))
  f20 := ⟨Tryz.f151.name, by decide, Tryz.func151.trans (congrArg some (by kernel_rfl))⟩
  f21 := ⟨Tryz.f152.name, by decide, Tryz.func152.trans (congrArg some (by kernel_rfl))⟩
  f22 := ⟨Tryz.f153.name, by decide, Tryz.func153.trans (congrArg some (by kernel_rfl))⟩
  f23 := ⟨Tryz.f154.name, by decide, Tryz.func154.trans (congrArg some (by kernel_rfl))⟩
  f24 := ⟨Tryz.f155.name, by decide, Tryz.func155.trans (congrArg some (by kernel_rfl))⟩
  f25 := ⟨Tryz.f156.name, by decide, Tryz.func156.trans (congrArg some (by kernel_rfl))⟩
  f26 := ⟨Tryz.f157.name, by decide, Tryz.func157.trans (congrArg some (by kernel_rfl))⟩
  f27 := ⟨Tryz.f158.name, by decide, Tryz.func158.trans (congrArg some (by kernel_rfl))⟩
  f28 := Tryz.func145.trans (congrArg some (by kernel_rfl))
  f29 := Tryz.func146.trans (congrArg some (by kernel_rfl))
  f46 := ⟨Tryz.f159.name, by decide, Tryz.func159.trans (congrArg some (by kernel_rfl))⟩
  f47 := Tryz.func160.trans (congrArg some (by kernel_rfl))
  f48 := Tryz.func161.trans (congrArg some (by kernel_rfl))
  f49 := ⟨Tryz.f162.name, by decide, Tryz.func162.trans (congrArg some (by kernel_rfl))⟩
  f50 := ⟨Tryz.f163.name, by decide, Tryz.func163.trans (congrArg some (by kernel_rfl))⟩
  f57 := ⟨Tryz.f164.name, by decide, Tryz.func164.trans (congrArg some (by kernel_rfl))⟩
  t0 := Tryz.underlying0
  a0 := Tryz.isAgg0
  z0 := Tryz.sizeOf0
  v0 := Tryz.zeroValue0
  t3 := Tryz.underlying3
  a3 := Tryz.isAgg3
  z3 := Tryz.sizeOf3
  v3 := Tryz.zeroValue3
  t4 := Tryz.underlying4
  a4 := Tryz.isAgg4
  z4 := Tryz.sizeOf4
  v4 := Tryz.zeroValue4
  t5 := Tryz.underlying5
  a5 := Tryz.isAgg5
  z5 := Tryz.sizeOf5
  v5 := Tryz.zeroValue5
  t9 := Tryz.underlying9
  a9 := Tryz.isAgg9
  z9 := Tryz.sizeOf9
  v9 := Tryz.zeroValue9
  t22 := Tryz.underlying134
  a22 := Tryz.isAgg134
  z22 := Tryz.sizeOf134
  v22 := Tryz.zeroValue134
  a24 := Tryz.isAgg3
  z24 := Tryz.sizeOf3
  t25 := Tryz.underlying136
  a25 := Tryz.isAgg136
  z25 := Tryz.sizeOf136
  v25 := Tryz.zeroValue136
  t39 := Tryz.underlying118
  a39 := Tryz.isAgg118
  z39 := Tryz.sizeOf118
  v39 := Tryz.zeroValue118
  t45 := Tryz.underlying191
  a45 := Tryz.isAgg191
  z45 := Tryz.sizeOf191
  v45 := Tryz.zeroValue191
  t46 := Tryz.underlying192
  a46 := Tryz.isAgg192
  z46 := Tryz.sizeOf192
  v46 := Tryz.zeroValue192
  t50 := Tryz.underlying158
  a50 := Tryz.isAgg158
  z50 := Tryz.sizeOf158
  v50 := Tryz.zeroValue158
  t53 := Tryz.underlying146
  a53 := Tryz.isAgg146
  z53 := Tryz.sizeOf146
  v53 := Tryz.zeroValue146
  t55 := Tryz.underlying37
  a55 := Tryz.isAgg37
  z55 := Tryz.sizeOf37
  v55 := Tryz.zeroValue37
  t66 := Tryz.underlying197
  a66 := Tryz.isAgg197
  z66 := Tryz.sizeOf197
  v66 := Tryz.zeroValue197
  t70 := Tryz.underlying200
  a70 := Tryz.isAgg200
  z70 := Tryz.sizeOf200
  v70 := Tryz.zeroValue200
  t76 := Tryz.underlying202
  a76 := Tryz.isAgg202
  z76 := Tryz.sizeOf202
  v76 := Tryz.zeroValue202
  t77 := Tryz.underlying107
  a77 := Tryz.isAgg107
  z77 := Tryz.sizeOf107
  v77 := Tryz.zeroValue107 }
end Go.Proofs

namespace Go.Proofs.YtmpnofbhbglfpaaGreatDoor
open Go.RowKit Go.BigFrame Go.Sort Go.Shelf
attribute [local go_sem] size_bstr toList_bstr ls_def

theorem cf_tri (a b c : Int) : Tri (Lib.compareInt a b) (Lib.compareInt b c) (Lib.compareInt a c) := by
  unfold Tri Lib.compareInt
  (repeat' split) <;> omega
theorem cii_tri (cs : List Cl) (x y z : Nat) (hx : x < cs.length) (hy : y < cs.length) (hz : z < cs.length) : Tri (ci cs x y hx hy) (ci cs y z hy hz) (ci cs x z hx hz) :=
  lex_tri (ccl_tri _ _ _) (cf_tri _ _ _)
theorem cii_self (cs : List Cl) (x : Nat) (hx : x < cs.length) : ci cs x x hx hx = 0 := by
  unfold ci
  rw [if_pos (ccl_self _)]
  unfold Lib.compareInt
  simp
theorem cii_zero {cs : List Cl} {x y : Nat} {hx : x < cs.length} {hy : y < cs.length} (h : ci cs x y hx hy = 0) : x = y := by
  unfold ci at h
  split at h
  · unfold Lib.compareInt at h
    (repeat' split at h) <;> omega
  · rename_i hn
    exact absurd h hn
theorem cii_lt {cs : List Cl} {x y : Nat} {hx : x < cs.length} {hy : y < cs.length} (h : ci cs x y hx hy < 0) : LtI cs x y := by
  refine ⟨cs[x], cs[y], List.getElem?_eq_getElem hx, List.getElem?_eq_getElem hy, ?_⟩
  unfold ci at h
  split at h
  · rename_i he
    refine Or.inr ⟨he, ?_⟩
    unfold Lib.compareInt at h
    (repeat' split at h) <;> omega
  · exact Or.inl h
/-- Two indices held against one another. -/
def cfI (cs : List Cl) (x y : Fin cs.length) : Int := ci cs x.1 y.1 x.2 y.2
def encI (n : Nat) (x : Fin n) : Value := .int .i64 (x.1 : Int)
theorem swoI (cs : List Cl) : SWO (ltOf (cfI cs)) where
  irrefl x := by show decide (ci cs x.1 x.1 x.2 x.2 < 0) = false; rw [cii_self]; rfl
  trans x y z h1 h2 := decide_eq_true ((cii_tri cs x.1 y.1 z.1 x.2 y.2 z.2).2.1 (of_decide_eq_true h1) (Int.le_of_lt (of_decide_eq_true h2)))
  ntrans x y z h1 h2 := decide_eq_false fun hh => by
    have k1 : ¬ ci cs x.1 y.1 x.2 y.2 < 0 := of_decide_eq_false h1
    have k2 : ¬ ci cs y.1 z.1 y.2 z.2 < 0 := of_decide_eq_false h2
    have k3 : ci cs x.1 z.1 x.2 z.2 < 0 := hh
    have := (cii_tri cs x.1 y.1 z.1 x.2 y.2 z.2).2.2.2.1 (by omega) (by omega)
    omega
theorem ext_all {α : Type} (d : Array α) {n : Nat} (h : d.size = n) : d.extract 0 n = d := by
  subst h
  exact Array.extract_size

/-- A row of indices lies in a block. -/
def IRow (W : World) (g : Nat) (is : List Nat) : Prop := ∀ i (hi : i < is.length), W.cell? ⟨g, i, none⟩ = some (.int .i64 (is[i] : Int))
theorem IRow.step {W W' : World} {g : Nat} {is : List Nat} {B : Nat} (h : IRow W g is) (hb : Below B W W') (hB : g < B) : IRow W' g is := fun i hi => by
  rw [hb.cell (p := ⟨g, i, none⟩) hB]
  exact h i hi
theorem sortWorldI_below {α : Type} [Inhabited α] {enc : α → Value} {w : World} {g n : Nat} {d : Array α} {os : Array Obj} {B : Nat} (hB : B ≤ g) (hg : g < w.heap.size) : RowKit.Below B w (sortWorld enc w g 0 n d os) := by
  refine ⟨rfl, rfl, rfl, ?_, ?_⟩
  · simp [sortWorld, putRow, mapBlock, grow]
  · intro k hk
    have hne : g ≠ k := by omega
    have hs : k < w.heap.size := by omega
    simp only [sortWorld, putRow, mapBlock, grow, heap_ahead]
    rw [Array.getElem?_append_left (by simpa using hs), Array.getElem?_modify, if_neg hne]

/-- slices.SortFunc over the indices. -/
theorem SortI_any (g cap nb nf nl b off lcap : Nat) (cs : List Cl) (w : World) (h0 : 0 < cs.length) (h : IRow w g (List.range cs.length)) (hf : ∀ o, o < cs.length → w.frozen? ⟨g, o, none⟩ = false) (hg : g < w.heap.size) (hsz : cs.length < 4611686018427387904)
    (hnb : nb < g) (hnf : nf < g) (hnl : nl < g) (hb : b < g) (hby : w.cell? ⟨nb, 0, none⟩ = some (.slice (some ⟨nf, 0, none⟩) 2 2))
    (hf0 : w.cell? ⟨nf, 0, none⟩ = some (.func (.func 87) #[] #[.pointer (some ⟨nl, 0, none⟩)])) (hf1 : w.cell? ⟨nf, 1, none⟩ = some (.func (.func 88) #[] #[]))
    (hl : w.cell? ⟨nl, 0, none⟩ = some (.slice (some ⟨b, off, none⟩) cs.length lcap)) (hR : CRow w b off cs) :
    Calls Tryz.prog 126 #[.slice (some ⟨g, 0, none⟩) cs.length cap, .func (.func 127) #[] #[.pointer (some ⟨nb, 0, none⟩)]] w fun e w' =>
      e = .returned (.tuple #[]) ∧ ∃ is : List Nat, is.length = cs.length ∧ is.Pairwise (LtI cs) ∧ (∀ i, i ∈ is ↔ i < cs.length) ∧ IRow w' g is ∧ RowKit.Below g w w' := by
  haveI : Inhabited (Fin cs.length) := ⟨⟨0, h0⟩⟩
  have eg : ∀ args w, (callFunc 127 args).run Tryz.prog w = .ok (.enter 127 args) w := enters_of Tryz.func127 (by kernel_rfl) rfl
  have hds : (Array.ofFn (fun i : Fin cs.length => i)).size = cs.length := Array.size_ofFn
  have hH : Holds (encI cs.length) w g 0 (Array.ofFn (fun i : Fin cs.length => i)) := by
    intro j hj
    have hj' : j < cs.length := by simpa using hj
    refine ⟨?_, by rw [Nat.zero_add]; exact hf j hj'⟩
    have e : (Array.ofFn (fun i : Fin cs.length => i))[j]! = ⟨j, hj'⟩ := by simp [hj']
    rw [Nat.zero_add, e]
    have := h j (by simpa using hj')
    rw [List.getElem_range] at this
    exact this
  have hcmp : CmpLays1 Tryz.prog 127 #[.pointer (some ⟨nb, 0, none⟩)] (encI cs.length) (cfI cs) g 0 (Array.ofFn (fun i : Fin cs.length => i)).size w := by
    intro m os dk _ x y
    have hbl : RowKit.Below g w (sortWorld (encI cs.length) w g 0 m dk os) := sortWorldI_below (Nat.le_refl _) hg
    refine cmpI_any nb nf nl b off lcap cs x.1 y.1 x.2 y.2 _ ?_ ?_ ?_ ?_ (hR.step hbl hb)
    · rw [hbl.cell (p := ⟨nb, 0, none⟩) hnb]; exact hby
    · rw [hbl.cell (p := ⟨nf, 0, none⟩) hnf]; exact hf0
    · rw [hbl.cell (p := ⟨nf, 1, none⟩) hnf]; exact hf1
    · rw [hbl.cell (p := ⟨nl, 0, none⟩) hnl]; exact hl
  have hcon := Any.slices_SortFunc Tryz.sortLaid (encI cs.length) (fun _ => rfl) (cfI cs) (swoI cs) 127 #[.pointer (some ⟨nb, 0, none⟩)] g 0 cap (Array.ofFn (fun i : Fin cs.length => i)) w eg hcmp hH hg (by rw [hds]; exact hsz)
  rw [hds] at hcon
  refine Calls.mono hcon ?_
  rintro e w' ⟨rfl, d', n, os, ⟨hs, _, hp⟩, hso, rfl⟩
  have hs' : d'.size = cs.length := by rw [hs, hds]
  have hp' : d'.toList.Perm (List.ofFn (fun i : Fin cs.length => i)) := by
    rw [ext_all d' hs', ext_all _ hds] at hp
    simpa using hp
  have hnd : d'.toList.Nodup := by
    refine hp'.nodup_iff.2 ?_
    rw [List.nodup_iff_pairwise_ne, List.pairwise_iff_getElem]
    intro i j hi hj hij
    rw [List.getElem_ofFn, List.getElem_ofFn]
    intro e
    have := congrArg Fin.val e
    simp at this
    omega
  refine ⟨rfl, d'.toList.map Fin.val, by simp [hs'], ?_, ?_, ?_, sortWorldI_below (Nat.le_refl _) hg⟩
  · rw [List.pairwise_map, List.pairwise_iff_getElem]
    intro i j hi hj hij
    have hj' : j < d'.size := by simpa using hj
    have hi' : i < d'.size := by simpa using hi
    have h1 := hso i j (Nat.zero_le _) hij (by rw [← hs']; exact hj')
    have e1 : d'[j]! = d'.toList[j] := by simp [hj']
    have e2 : d'[i]! = d'.toList[i] := by simp [hi']
    rw [e1, e2] at h1
    have hne : d'.toList[i] ≠ d'.toList[j] := List.pairwise_iff_getElem.1 (List.nodup_iff_pairwise_ne.1 hnd) i j hi hj hij
    generalize d'.toList[i] = x at *
    generalize d'.toList[j] = y at *
    have h2 : ¬ ci cs y.1 x.1 y.2 x.2 < 0 := of_decide_eq_false h1
    have h3 := cii_tri cs x.1 y.1 x.1 x.2 y.2 x.2
    rw [cii_self] at h3
    by_cases hz : ci cs x.1 y.1 x.2 y.2 = 0
    · exact absurd (Fin.ext (cii_zero hz)) hne
    · by_cases hp : 0 < ci cs x.1 y.1 x.2 y.2
      · have := h3.2.2.2.2.1 hp (by omega)
        omega
      · exact cii_lt (hx := x.2) (hy := y.2) (by omega)
  · intro i
    constructor
    · intro hi
      obtain ⟨x, _, rfl⟩ := List.mem_map.1 hi
      exact x.2
    · intro hi
      refine List.mem_map.2 ⟨⟨i, hi⟩, hp'.mem_iff.2 ?_, rfl⟩
      exact (List.mem_ofFn).2 ⟨⟨i, hi⟩, rfl⟩
  · have := holds_sortWorld (encI cs.length) w g 0 n _ d' os hg hH hs
    intro i hi
    have hi' : i < d'.size := by simpa using hi
    have h1 := (this i hi').1
    rw [Nat.zero_add] at h1
    rw [h1, List.getElem_map]
    have e2 : d'[i]! = d'.toList[i]'(by simpa using hi') := by simp [hi']
    rw [e2]
    rfl

set_option maxHeartbeats 2000000 in
theorem InsI_none (p : Option Addr) (cap : Nat) (fv : Value) (w : World) :
    Calls Tryz.prog 151 #[.slice p 0 cap, .int .i64 0, .int .i64 0, fv] w fun e w' => e = .returned (.tuple #[]) ∧ w' = w := by
  go_enter Tryz.func151, Tryz.ntmps151
  go_wp2
  refine wp_loop_rounds 1 ?_
  rw [rounds_succ]
  go_wp2
  go_end0
  exact ⟨rfl, rfl⟩
set_option maxHeartbeats 2000000 in
theorem PdqI_none (p : Option Addr) (cap : Nat) (lim : Int) (fv : Value) (w : World) :
    Calls Tryz.prog 147 #[.slice p 0 cap, .int .i64 0, .int .i64 0, .int .i64 lim, fv] w fun e w' => e = .returned (.tuple #[]) ∧ w' = w := by
  go_enter Tryz.func147, Tryz.ntmps147
  go_wp2
  refine wp_loop_rounds 1 ?_
  rw [rounds_succ]
  go_wp2_with (go_at_call 151; refine (InsI_none p cap fv _).mono ?_; rintro e w' ⟨rfl, rfl⟩)
  (try simp only [Exit.inBlock, Exit.then])
  refine bodyPost_ret (results_none rfl _ _ _) rfl ?_
  exact ⟨rfl, rfl⟩
set_option maxHeartbeats 2000000 in
theorem SortI_none (p : Option Addr) (cap : Nat) (fv : Value) (w : World) :
    Calls Tryz.prog 126 #[.slice p 0 cap, fv] w fun e w' => e = .returned (.tuple #[]) ∧ w' = w := by
  have hl : ∀ W, Calls Tryz.prog 125 #[.int .u64 0] W fun e w' => e = .returned (.int .i64 0) ∧ w' = W := fun W => Tryz.bits_Len 0 W (by omega) (by omega)
  go_enter Tryz.func126, Tryz.ntmps126
  go_wp2_with (first | (go_at_call 125; refine (hl _).mono ?_; rintro e w' ⟨rfl, rfl⟩) | (go_at_call 147; refine (PdqI_none p cap _ fv _).mono ?_; rintro e w' ⟨rfl, rfl⟩))
  go_end0
  exact ⟨rfl, rfl⟩

end Go.Proofs.YtmpnofbhbglfpaaGreatDoor

namespace Go.Proofs.YtmpnofbhbglfpaaGreatDoor
open Go.RowKit Go.BigFrame Go.Sort
attribute [local go_sem] size_bstr toList_bstr ls_def

theorem Tryz.infoI : (Tryz.prog.info? 3).map (fun i => (i.zero, i.size, i.bytes)) = some (some (.int .i64 0), 1, 8) := by kernel_rfl
/-- The cells of a new row of n numbers. -/
def zsI (n : Nat) : Array Value := madeCells (Value.int .i64 0).cells n
theorem zsI_get (n j : Nat) (h : j < n) : (zsI n)[j]? = some (.int .i64 0) := by
  unfold zsI madeCells
  have h1 : j % 1 = 0 := Nat.mod_one j
  simp [h, Value.cells, h1]
theorem makeI_run (k : IntKind) (n : Nat) (hn : n * 64 ≤ 140737488351232) (w : World) : (Instr.makeSlice 134 (.int k (n : Int)) (.int k (n : Int))).run Tryz.prog w = .ok (.slice (some ⟨w.heap.size, 0, none⟩) n n) (w.alloc (.cells (zsI n) 3)) := by
  obtain ⟨i0, hi, hz0, hz1, hz2⟩ := info_parts Tryz.infoI
  have := run_make (P := Tryz.prog) (w := w) 134 3 i0 (.int .i64 0) Tryz.underlying134 hi hz0 k k (n : Int) (n : Int) (by omega) (by omega) (by rw [hz2]; omega) (by omega)
  rw [Int.toNat_natCast, hz1, Nat.mul_one] at this
  exact this
/-- A row of n numbers, of which the first i are the indices. -/
def Fill (W : World) (g n i : Nat) : Prop := ∀ j, j < n → W.cell? ⟨g, j, none⟩ = some (.int .i64 (if j < i then (j : Int) else 0)) ∧ W.frozen? ⟨g, j, none⟩ = false

theorem Fill.start (w : World) (n : Nat) (t : TypeId) : Fill (w.alloc (.cells (zsI n) t)) w.heap.size n 0 := fun j hj => by
  refine ⟨?_, by simp⟩
  rw [World.cell?_alloc_at _ t w.heap.size j rfl, zsI_get n j hj]
  simp
theorem Fill.set {W : World} {g n i : Nat} (h : Fill W g n i) (hi : i < n) : Fill (W.setCell ⟨g, i, none⟩ (.int .i64 (i : Int))) g n (i + 1) := fun j hj => by
  obtain ⟨h1, h2⟩ := h j hj
  refine ⟨?_, by simpa using h2⟩
  by_cases e : j = i
  · subst e
    rw [World.cell?_setCell_same' W _ _ (by rw [h1]; rfl), if_pos (Nat.lt_succ_self _)]
  · rw [World.cell?_setCell_other _ _ _ _ (by intro e'; simp only [Addr.mk.injEq] at e'; omega), h1]
    by_cases hji : j < i
    · rw [if_pos hji, if_pos (by omega)]
    · rw [if_neg hji, if_neg (by omega)]
theorem Fill.full {W : World} {g n : Nat} (h : Fill W g n n) : IRow W g (List.range n) := fun i hi => by
  have hi' : i < n := by simpa using hi
  have := (h i hi').1
  rw [if_pos hi'] at this
  rw [this, List.getElem_range]

set_option maxHeartbeats 2000000 in
set_option maxRecDepth 100000 in
theorem corder_any (nf nl b off lcap : Nat) (cs : List Cl) (q : Option Addr) (w : World) (hsz : cs.length * 64 ≤ 140737488351232)
    (hf0 : w.cell? ⟨nf, 0, none⟩ = some (.func (.func 87) #[] #[.pointer (some ⟨nl, 0, none⟩)])) (hf1 : w.cell? ⟨nf, 1, none⟩ = some (.func (.func 88) #[] #[]))
    (hl : w.cell? ⟨nl, 0, none⟩ = some (.slice q cs.length lcap)) (hq : 0 < cs.length → q = some ⟨b, off, none⟩ ∧ CRow w b off cs ∧ b < w.heap.size) :
    Calls Tryz.prog 86 #[.int .i64 cs.length, .slice (some ⟨nf, 0, none⟩) 2 2] w fun e w' =>
      ∃ (g : Nat) (is : List Nat), e = .returned (.slice (some ⟨g, 0, none⟩) cs.length cs.length) ∧ is.length = cs.length ∧ is.Pairwise (LtI cs) ∧ (∀ i, i ∈ is ↔ i < cs.length) ∧ w.heap.size ≤ g ∧ g < w'.heap.size ∧ IRow w' g is ∧ RowKit.Below w.heap.size w w' := by
  have hmk := fun W => makeI_run .i64 cs.length hsz W
  have hB0 : RowKit.Below w.heap.size w (w.alloc (.cells #[.slice (some ⟨nf, 0, none⟩) 2 2] 172)) := (RowKit.Below.refl _ _).alloc (Nat.le_refl _) _
  have hby : (w.alloc (.cells #[.slice (some ⟨nf, 0, none⟩) 2 2] 172)).cell? ⟨w.heap.size, 0, none⟩ = some (.slice (some ⟨nf, 0, none⟩) 2 2) := by rw [World.cell?_alloc_at _ _ w.heap.size 0 rfl]; rfl
  have hs1 : (w.alloc (.cells #[.slice (some ⟨nf, 0, none⟩) 2 2] 172)).heap.size = w.heap.size + 1 := by simp
  have lnf : nf < w.heap.size := block_lt_of_cell hf0
  have lnl : nl < w.heap.size := block_lt_of_cell hl
  go_enter Tryz.func86, Tryz.ntmps86
  go_wp2
  have HH : Hid _ := And.intro hf0 (And.intro hf1 (And.intro hl hq))
  clear hmk hf0 hf1 hl hq
  generalize w.alloc (.cells #[.slice (some ⟨nf, 0, none⟩) 2 2] 172) = w1 at *
  have hF0 := Fill.start w1 cs.length 3
  have hB1 : RowKit.Below (w.heap.size + 1) w1 (w1.alloc (.cells (zsI cs.length) 3)) := (RowKit.Below.refl _ _).alloc (by omega) _
  have hs2 : w.heap.size + 1 < (w1.alloc (.cells (zsI cs.length) 3)).heap.size := by simp; omega
  rw [hs1] at hF0
  generalize w1.alloc (.cells (zsI cs.length) 3) = w2 at *
  go_loopw [11] (fun s11 wr => ∃ i : Nat, s11 = .int .i64 (i : Int) ∧ i ≤ cs.length ∧ Fill wr (w.heap.size + 1) cs.length i ∧ RowKit.Below (w.heap.size + 1) w2 wr) (fun s11 _ => cs.length - (intOf s11).toNat)
  case atStart => exact ⟨0, rfl, by omega, hF0, RowKit.Below.refl _ _⟩
  case round =>
    obtain ⟨i, rfl, hil, hF, hbr⟩ := hrel
    by_cases hlt : i < cs.length
    · obtain ⟨k0, k1⟩ := hF i hlt
      have hF2 := hF.set hlt
      have hb2 := hbr.setCell (p := ⟨w.heap.size + 1, i, none⟩) (Nat.le_refl _) (.int .i64 (i : Int))
      clear hF0 hF
      go_wp2
      go_roundw
      case rel => exact ⟨i + 1, by go_num, by omega, hF2, hb2⟩
      case measure => simp [intOf]; omega
    · have hie : i = cs.length := by omega
      subst hie
      have hbw := hB1.trans hbr
      have hww : RowKit.Below w.heap.size w wr := hB0.trans (hbw.mono (by omega))
      have hsr : w.heap.size + 1 < wr.heap.size := Nat.lt_of_lt_of_le hs2 hbr.size
      have hby2 : wr.cell? ⟨w.heap.size, 0, none⟩ = some (.slice (some ⟨nf, 0, none⟩) 2 2) := by rw [hbw.cell (p := ⟨w.heap.size, 0, none⟩) (Nat.lt_succ_self _)]; exact hby
      clear hby hB0 hB1 hF0 hbw hbr
      by_cases h0 : 0 < cs.length
      · obtain ⟨hf0, hf1, hl, hq⟩ := HH.out
        obtain ⟨rfl, hR, hbl⟩ := hq h0
        have hso := SortI_any (w.heap.size + 1) cs.length w.heap.size nf nl b off lcap cs wr h0 hF.full (fun o ho => (hF o ho).2) hsr (by omega) (by omega) (by omega) (by omega) (by omega) hby2 (by rw [hww.cell (p := ⟨nf, 0, none⟩) lnf]; exact hf0) (by rw [hww.cell (p := ⟨nf, 1, none⟩) lnf]; exact hf1) (by rw [hww.cell (p := ⟨nl, 0, none⟩) lnl]; exact hl) (hR.step hww hbl)
        clear hf0 hf1 hl hq hR hby2
        go_wp2_with fail
        refine hso.mono ?_
        clear hso
        rintro e w3 ⟨rfl, is, hi1, hi2, hi3, hi4, hb3⟩
        have HI : Hid _ := And.intro hi2 hi3
        clear hi2 hi3
        have hbe := hww.trans (hb3.mono (Nat.le_succ _))
        have hz := hb3.size
        go_wp2
        go_ret
        exact ⟨w.heap.size + 1, is, rfl, hi1, HI.out.1, HI.out.2, Nat.le_succ _, by omega, hi4, hbe⟩
      · have hz : cs.length = 0 := by omega
        have hcs : cs = [] := List.eq_nil_of_length_eq_zero hz
        clear HH hby2 hF
        subst hcs
        go_wp2_with fail
        refine (SortI_none _ _ _ _).mono ?_
        rintro e w3 ⟨rfl, rfl⟩
        go_wp2
        go_ret
        exact ⟨w.heap.size + 1, [], rfl, rfl, List.Pairwise.nil, by simp, Nat.le_succ _, hsr, fun i hi => by simp at hi, hww⟩

set_option maxHeartbeats 2000000 in
set_option maxRecDepth 100000 in
/-- cells.firsts: gone through in order, of those alike the first alone. -/
theorem firsts_any (F : Nat) (f : Cl → Cl → Bool) (q : Option Addr) (b off cap : Nat) (cs : List Cl) (w : World) (eF : ∀ args w, (callFunc F args).run Tryz.prog w = .ok (.enter F args) w) (hF : ∀ (x y : Cl) (W : World), Calls Tryz.prog F #[clV x, clV y] W fun e w' => e = .returned (.bool (f x y)) ∧ RowKit.Below W.heap.size W w')
    (hq : 0 < cs.length → q = some ⟨b, off, none⟩ ∧ CRow w b off cs ∧ b < w.heap.size) (hf : ∀ c ∈ cs, Fits c) (hn : cs.length * 64 ≤ 140737488351232) :
    Calls Tryz.prog 44 #[.slice q cs.length cap, .func (.func F) #[] #[]] w fun e w' => ∃ (is : List Nat) (v : Value), is.Pairwise (LtI cs) ∧ (∀ i, i ∈ is ↔ i < cs.length) ∧ e = .returned v ∧ w'.ownsRow w.heap.size 39 5 v (ddl f (pick cs is)).length (ccells (ddl f (pick cs is))) ∧ RowKit.Below w.heap.size w w' := by
  obtain ⟨i0, hi0, hz0, hz1, hz2⟩ := info_parts Tryz.infoCell
  have hB0 : RowKit.Below w.heap.size w ((w.alloc (.cells #[.slice q cs.length cap] 22)).alloc (.cells #[.func (.func 87) #[] #[.pointer (some ⟨w.heap.size, 0, none⟩)], .func (.func 88) #[] #[]] 136)) := ((RowKit.Below.refl _ _).alloc (Nat.le_refl _) _).alloc (by simp) _
  have hs0 : ((w.alloc (.cells #[.slice q cs.length cap] 22)).alloc (.cells #[.func (.func 87) #[] #[.pointer (some ⟨w.heap.size, 0, none⟩)], .func (.func 88) #[] #[]] 136)).heap.size = w.heap.size + 2 := by simp
  have hl0 : ((w.alloc (.cells #[.slice q cs.length cap] 22)).alloc (.cells #[.func (.func 87) #[] #[.pointer (some ⟨w.heap.size, 0, none⟩)], .func (.func 88) #[] #[]] 136)).cell? ⟨w.heap.size, 0, none⟩ = some (.slice q cs.length cap) := by go_simp
  have hf0 : ((w.alloc (.cells #[.slice q cs.length cap] 22)).alloc (.cells #[.func (.func 87) #[] #[.pointer (some ⟨w.heap.size, 0, none⟩)], .func (.func 88) #[] #[]] 136)).cell? ⟨w.heap.size + 1, 0, none⟩ = some (.func (.func 87) #[] #[.pointer (some ⟨w.heap.size, 0, none⟩)]) := by go_simp
  have hf1 : ((w.alloc (.cells #[.slice q cs.length cap] 22)).alloc (.cells #[.func (.func 87) #[] #[.pointer (some ⟨w.heap.size, 0, none⟩)], .func (.func 88) #[] #[]] 136)).cell? ⟨w.heap.size + 1, 1, none⟩ = some (.func (.func 88) #[] #[]) := by go_simp
  go_enter Tryz.func44, Tryz.ntmps44
  go_wp2_with fail
  generalize (w.alloc (.cells #[.slice q cs.length cap] 22)).alloc (.cells #[.func (.func 87) #[] #[.pointer (some ⟨w.heap.size, 0, none⟩)], .func (.func 88) #[] #[]] 136) = w0 at *
  have hq0 : 0 < cs.length → q = some ⟨b, off, none⟩ ∧ CRow w0 b off cs ∧ b < w0.heap.size := fun h => ⟨(hq h).1, (hq h).2.1.step hB0 (hq h).2.2, by have := (hq h).2.2; omega⟩
  refine (corder_any (w.heap.size + 1) w.heap.size b off cap cs q w0 hn hf0 hf1 hl0 hq0).mono ?_
  rintro e w1 ⟨g, is, rfl, hil, hip, hir, hg1, hg2, hI, hb1⟩
  have hl1 : w1.cell? ⟨w.heap.size, 0, none⟩ = some (.slice q cs.length cap) := by rw [hb1.cell (p := ⟨w.heap.size, 0, none⟩) (by show w.heap.size < w0.heap.size; omega)]; exact hl0
  have hq1 : 0 < cs.length → q = some ⟨b, off, none⟩ ∧ CRow w1 b off cs ∧ b < w1.heap.size := fun h => ⟨(hq0 h).1, (hq0 h).2.1.step hb1 (hq0 h).2.2, Nat.lt_of_lt_of_le (hq0 h).2.2 hb1.size⟩
  have hb01 := below2 hB0 hb1
  have hz1' : w.heap.size < w1.heap.size := by have := hb1.size; omega
  have HP : Hid _ := And.intro hip hir
  have HQ : Hid _ := hq1
  clear hip hq hq0 hl0 hf0 hf1 hB0 hb1 hq1
  go_wp2
  go_loopw [5, 15] (fun s5 s15 wr => ∃ i : Nat, s15 = .int .i64 (i : Int) ∧ i ≤ cs.length ∧ wr.ownsRow w1.heap.size 39 5 s5 (ddl f (pick cs (is.take i))).length (ccells (ddl f (pick cs (is.take i)))) ∧ RowKit.Below w1.heap.size w1 wr) (fun _ s15 _ => cs.length - (intOf s15).toNat)
  case atStart => exact ⟨0, rfl, by omega, ⟨rfl, .inl ⟨rfl, rfl⟩⟩, RowKit.Below.refl _ _⟩
  case round =>
    obtain ⟨i, rfl, hil2, hown, hbel⟩ := hrel
    by_cases hlt : i < cs.length
    · obtain ⟨rfl, hR, hbl⟩ := HQ.out (by omega)
      have hii : i < is.length := by omega
      have hat : is[i] < cs.length := (hir _).1 (List.getElem_mem hii)
      have hic := (hI.step hbel hg2) i hii
      have hAt := (hR.step hbel hbl) is[i] hat
      have hfi := hf cs[is[i]] (List.getElem_mem hat)
      have hlc : wr.cell? ⟨w.heap.size, 0, none⟩ = some (.slice (some ⟨b, off, none⟩) cs.length cap) := by rw [hbel.cell (p := ⟨w.heap.size, 0, none⟩) hz1']; exact hl1
      have hpk : pick cs (is.take (i + 1)) = pick cs (is.take i) ++ [cs[is[i]]] := by rw [List.take_succ_eq_append_getElem hii]; exact pick_snoc (List.getElem?_eq_getElem hat)
      have hdd : ddl f (pick cs (is.take (i + 1))) = stp f (ddl f (pick cs (is.take i))) cs[is[i]] := by rw [hpk, ddl_snoc]
      have hlen : (ddl f (pick cs (is.take i))).length ≤ i := Nat.le_trans (ddl_length _ _) (by unfold pick; exact Nat.le_trans (List.length_filterMap_le _ _) (by simp; omega))
      have HD : Hid _ := hdd
      have HFI : Hid _ := hfi
      clear hpk hdd hfi hR
      have hac : (is[i] : Int) < (cs.length : Int) := by omega
      generalize is[i] = at_ at *
      generalize cs[at_] = c at *
      generalize ddl f (pick cs (is.take i)) = acc at *
      obtain ⟨p, lcap, rfl, hlm, hlc2, hrow⟩ := own_cslice hown
      obtain ⟨c0, c1, c2, c3, c4⟩ := id hAt
      have hi0' : (0 : Int) ≤ (i : Int) := by omega
      have hiz : (i : Int) < (cs.length : Int) := by omega
      rcases List.eq_nil_or_concat acc with rfl | ⟨pre, y, hacc⟩
      · have hst : stp f [] c = [c] := stp_none
        have HE : Hid _ := HD.out.trans hst
        clear HD hst hrow
        obtain ⟨r, k, v, z, x⟩ := c
        simp only at c0 c1 c2 c3 c4
        simp only [List.length_nil] at *
        go_wp2_with fail
        go_quiet (fail)
        have hbq := below_drewN hbel nq
        have hownq : (wr.drewN nq).ownsRow w1.heap.size 39 5 (.slice p 0 lcap) 0 (ccells []) := hown
        replace c0 : (wr.drewN nq).cell? ⟨b, off + at_ * 5, none⟩ = _ := c0
        replace c1 : (wr.drewN nq).cell? ⟨b, off + at_ * 5 + 1, none⟩ = _ := c1
        replace c2 : (wr.drewN nq).cell? ⟨b, off + at_ * 5 + 2, none⟩ = _ := c2
        replace c3 : (wr.drewN nq).cell? ⟨b, off + at_ * 5 + 3, none⟩ = _ := c3
        replace c4 : (wr.drewN nq).cell? ⟨b, off + at_ * 5 + 4, none⟩ = _ := c4
        replace hlc : (wr.drewN nq).cell? ⟨w.heap.size, 0, none⟩ = _ := hlc
        clear hown hbel hic hAt
        generalize wr.drewN nq = wq at *
        go_wp2_with fail
        refine (fresh_any ⟨r, k, v, z, x⟩ _ HFI.out).mono ?_
        rintro e w2 ⟨rfl, hb2⟩
        have hown2 := own_cbelow hownq hb2
        have hbe : RowKit.Below w1.heap.size w1 w2 := below2 hbq hb2
        clear hb2 hownq c0 c1 c2 c3 c4
        go_wp2_with (at_builtin; refine wpList_append_own _ rfl _ _ 22 rfl w1.heap.size 39 i0 (.agg #[.string ⟨#[]⟩, .string ⟨#[]⟩, .int .u64 0, .bool false, .string ⟨#[]⟩]) 5 64 Tryz.underlying22 hi0 hz0 hz1 hz2 rfl (by decide) _ _ _ rfl (hown2.alloc _) ⟨w2.heap.size, 0, none⟩ 1 1 (encC ⟨r, k, v, z, x⟩) rfl rfl (cell_news w2 ⟨r, k, v, z, x⟩ 39) (encC_one _) ?c3 ?c4 ?c5 ?_)
        case c3 => unfold maxLen; omega
        case c4 => omega
        case c5 => have := hbe.size; simp; omega
        intro v' w3 hown3 hgrow _
        have hbw3 : RowKit.Below w1.heap.size w1 w3 := (hbe.alloc hbe.size _).grown hgrow (by have := hbe.size; simp; omega) (fun k hk => (hown2.lt k hk).1)
        have hown4 : w3.ownsRow w1.heap.size 39 5 v' (ddl f (pick cs (is.take (i + 1)))).length (ccells (ddl f (pick cs (is.take (i + 1))))) := by
          rw [HE.out]
          exact hown3
        clear hown2 hown3 hgrow
        go_wp2
        go_roundw
        case rel => exact ⟨i + 1, by go_num, by omega, hown4, hbw3⟩
        case measure => simp [intOf]; omega
      · rw [List.concat_eq_append] at hacc
        obtain ⟨m, hm⟩ : ∃ m, acc.length = m + 1 := ⟨pre.length, by rw [hacc]; simp⟩
        have hmi : acc[m]'(by omega) = y := by
          have : m = pre.length := by rw [hacc] at hm; simp at hm; omega
          subst this hacc
          simp
        obtain ⟨gl, rfl, hgl1, hgl2, hlrow, _⟩ := hrow (by omega)
        have hAy := hlrow m (by omega)
        rw [hmi, Nat.zero_add] at hAy
        have hgy : acc.getLast? = some y := by rw [hacc]; simp
        have hmz : (((m : Int) + 1) == 0) = false := by simp; omega
        have hmz2 : ((((m + 1 : Nat) : Int)) == 0) = false := by simp; omega
        have hmz3 : (m : Int) < (m : Int) + 1 := by omega
        rw [hm] at hown hlen hlc2
        rw [hm]
        obtain ⟨r, k, v, z, x⟩ := c
        obtain ⟨r', k', v', z', x'⟩ := y
        have hcon := hF ⟨r', k', v', z', x'⟩ ⟨r, k, v, z, x⟩
        obtain ⟨y0, y1, y2, y3, y4⟩ := hAy
        simp only at c0 c1 c2 c3 c4 y0 y1 y2 y3 y4
        cases hal : f ⟨r', k', v', z', x'⟩ ⟨r, k, v, z, x⟩ with
        | true =>
          have hst := stp_yes hgy hal
          have HE : Hid _ := HD.out.trans hst
          rw [hal] at hcon
          clear HD hst hal hgy hacc hmi
          have qc0 := fun d os => cell_regrown c0 d os
          have qc1 := fun d os => cell_regrown c1 d os
          have qc2 := fun d os => cell_regrown c2 d os
          have qc3 := fun d os => cell_regrown c3 d os
          have qc4 := fun d os => cell_regrown c4 d os
          have qy0 := fun d os => cell_regrown y0 d os
          have qy1 := fun d os => cell_regrown y1 d os
          have qy2 := fun d os => cell_regrown y2 d os
          have qy3 := fun d os => cell_regrown y3 d os
          have qy4 := fun d os => cell_regrown y4 d os
          have ql := fun d os => cell_regrown hlc d os
          go_wp2_with fail
          refine wp_region_quiet_below (by kernel_rfl) (by kernel_rfl) ?_
          repeat (go_big_quiet_step ((first | (exact Calls.regrown_of (hcon _)))))
          refine wpQuiet_nil ?_
          intro _ hw'
          obtain ⟨⟨dq, osq⟩, hw''⟩ := hw'
          subst hw''
          have hbg := below_regrown wr dq osq
          have hbq := below2 hbel hbg
          have hownq := own_cbelow hown hbg
          clear y0 y1 y2 y3 y4 qy0 qy1 qy2 qy3 qy4 hcon hown hbel hic hAt hrow hlrow
          clear c0 c1 c2 c3 c4 qc0 qc1 qc2 qc3 qc4 hlc ql
          generalize grow (redrawn wr dq) osq = wq at *
          go_wp2
          go_roundw
          case rel => exact ⟨i + 1, by go_num, by omega, by rw [HE.out, hm]; exact hownq, hbq⟩
          case measure => simp [intOf]; omega
        | false =>
          have hst := stp_no hgy hal
          have HE : Hid _ := HD.out.trans hst
          rw [hal] at hcon
          clear HD hst hal hgy hacc hmi
          have qc0 := fun d os => cell_regrown c0 d os
          have qc1 := fun d os => cell_regrown c1 d os
          have qc2 := fun d os => cell_regrown c2 d os
          have qc3 := fun d os => cell_regrown c3 d os
          have qc4 := fun d os => cell_regrown c4 d os
          have qy0 := fun d os => cell_regrown y0 d os
          have qy1 := fun d os => cell_regrown y1 d os
          have qy2 := fun d os => cell_regrown y2 d os
          have qy3 := fun d os => cell_regrown y3 d os
          have qy4 := fun d os => cell_regrown y4 d os
          have ql := fun d os => cell_regrown hlc d os
          go_wp2_with fail
          refine wp_region_quiet_below (by kernel_rfl) (by kernel_rfl) ?_
          repeat (go_big_quiet_step ((first | (exact Calls.regrown_of (hcon _)))))
          refine wpQuiet_nil ?_
          intro _ hw'
          obtain ⟨⟨dq, osq⟩, hw''⟩ := hw'
          subst hw''
          have hbg := below_regrown wr dq osq
          have hbq := below2 hbel hbg
          have hownq := own_cbelow hown hbg
          clear y0 y1 y2 y3 y4 qy0 qy1 qy2 qy3 qy4 hcon hown hbel hic hAt hrow hlrow
          replace c0 := qc0 dq osq
          replace c1 := qc1 dq osq
          replace c2 := qc2 dq osq
          replace c3 := qc3 dq osq
          replace c4 := qc4 dq osq
          replace hlc := ql dq osq
          clear qc0 qc1 qc2 qc3 qc4 ql hbg
          generalize grow (redrawn wr dq) osq = wq at *
          go_wp2_with fail
          refine (fresh_any ⟨r, k, v, z, x⟩ _ HFI.out).mono ?_
          rintro e w2 ⟨rfl, hb2⟩
          have hown2 := own_cbelow hownq hb2
          have hbe : RowKit.Below w1.heap.size w1 w2 := below2 hbq hb2
          clear hb2 hownq c0 c1 c2 c3 c4
          go_wp2_with (at_builtin; refine wpList_append_own _ rfl _ _ 22 rfl w1.heap.size 39 i0 (.agg #[.string ⟨#[]⟩, .string ⟨#[]⟩, .int .u64 0, .bool false, .string ⟨#[]⟩]) 5 64 Tryz.underlying22 hi0 hz0 hz1 hz2 rfl (by decide) _ _ _ rfl (hown2.alloc _) ⟨w2.heap.size, 0, none⟩ 1 1 (encC ⟨r, k, v, z, x⟩) rfl rfl (cell_news w2 ⟨r, k, v, z, x⟩ 39) (encC_one _) ?c3 ?c4 ?c5 ?_)
          case c3 => unfold maxLen; omega
          case c4 => omega
          case c5 => have := hbe.size; simp; omega
          intro v'' w3 hown3 hgrow _
          have hbw3 : RowKit.Below w1.heap.size w1 w3 := (hbe.alloc hbe.size _).grown hgrow (by have := hbe.size; simp; omega) (fun k hk => (hown2.lt k hk).1)
          have hown4 : w3.ownsRow w1.heap.size 39 5 v'' (ddl f (pick cs (is.take (i + 1)))).length (ccells (ddl f (pick cs (is.take (i + 1))))) := by
            rw [HE.out, List.length_append, ccells_append, hm]
            exact hown3
          clear hown2 hown3 hgrow
          go_wp2
          go_roundw
          case rel => exact ⟨i + 1, by go_num, by omega, hown4, hbw3⟩
          case measure => simp [intOf]; omega
    · have hie : i = cs.length := by omega
      subst hie
      have ht : is.take cs.length = is := by rw [← hil]; exact List.take_length
      rw [ht] at hown
      go_wp2
      go_ret
      exact ⟨is, _, HP.out.1, HP.out.2, rfl, own_mono hown (by omega), below2 hb01 hbel⟩

end Go.Proofs.YtmpnofbhbglfpaaGreatDoor
