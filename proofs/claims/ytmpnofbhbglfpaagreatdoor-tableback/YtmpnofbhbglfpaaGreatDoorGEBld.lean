/-
  A cell in a block is kept where another block is written.
  The contract of block.Build.
-/
import Derived.Test.YtmpnofbhbglfpaaGreatDoorGKCell
import Derived.Laws.AppendOwn
import Derived.Test.YtmpnofbhbglfpaaGreatDoorETail
import Derived.Test.YtmpnofbhbglfpaaGreatDoorEWri
namespace Go.Proofs.YtmpnofbhbglfpaaGreatDoor
open Go.RowKit

theorem CellAt.grow {W W' : World} {n : Nat} {r c : List UInt8} {v : Int} {g : Bool} {x : List UInt8} {row : Option Nat} (h : CellAt W n r c v g x) (hg : W.grownBy W' row) (hne : some n ≠ row) : CellAt W' n r c v g x :=
  ⟨hg.cell h.c0 hne, hg.cell h.c1 hne, hg.cell h.c2 hne, hg.cell h.c3 hne, hg.cell h.c4 hne⟩

end Go.Proofs.YtmpnofbhbglfpaaGreatDoor

namespace Go.Proofs.YtmpnofbhbglfpaaGreatDoor
open Go.RowKit Go.BigFrame Go.Sort
attribute [local go_sem] size_bstr toList_bstr ls_def

/-- A block's cells but for their bytes' number. -/
def okL (l : List Cl) : Bool := l.all okC && ascB l
theorem okL_iff {l : List Cl} : okL l = true ↔ l.all okC = true ∧ Asc l := by rw [okL, Bool.and_eq_true, ascB_iff]
theorem okL_step {l : List Cl} {i : Nat} (hi : i < l.length) (h : okL (l.take i) = true) (h1 : okC l[i] = true) (h2 : ∀ (h0 : 0 < i), ccl (l[i - 1]'(by omega)) l[i] < 0) : okL (l.take (i + 1)) = true := by
  rw [okL_iff] at h ⊢
  rw [List.take_succ_eq_append_getElem hi]
  refine ⟨by rw [List.all_append, h.1]; simp [h1], h.2.snoc fun x hx => ?_⟩
  by_cases h0 : 0 < i
  · rw [List.getLast?_take] at hx
    have e : l[i - 1]? = some (l[i - 1]'(by omega)) := List.getElem?_eq_getElem (by omega)
    rw [if_neg (by omega), e] at hx
    simp at hx
    rw [← hx]
    exact h2 h0
  · have : i = 0 := by omega
    subst this
    simp at hx
theorem okL_bad1 {l : List Cl} {i : Nat} (hi : i < l.length) (h1 : okC l[i] = false) : okL l = false := by
  cases h : okL l with
  | false => rfl
  | true =>
    rw [okL_iff] at h
    have := List.all_eq_true.1 h.1 _ (List.getElem_mem hi)
    rw [h1] at this
    cases this
theorem okL_bad2 {l : List Cl} {i : Nat} (hi : i < l.length) (h0 : 0 < i) (h1 : ¬ ccl (l[i - 1]'(by omega)) l[i] < 0) : okL l = false := by
  cases h : okL l with
  | false => rfl
  | true =>
    rw [okL_iff] at h
    have := List.pairwise_iff_getElem.1 h.2 (i - 1) i (by omega) hi (by omega)
    exact absurd this h1
/-- What Build answers. -/
def bldB (l : List Cl) : List UInt8 := if okL l = true then (if (blkB l).length ≤ 32768 then blkB l else []) else []
def bldE (l : List Cl) : Int := if okL l = true then (if (blkB l).length ≤ 32768 then 0 else 3) else 2
theorem bld_arg {l : List Cl} (h : okL l = false) : bldB l = [] ∧ bldE l = 2 := by
  unfold bldB bldE
  rw [h]
  exact ⟨rfl, rfl⟩
theorem bld_long {l : List Cl} (h : okL l = true) (k : ¬ (blkB l).length ≤ 32768) : bldB l = [] ∧ bldE l = 3 := by
  unfold bldB bldE
  rw [h, if_pos rfl, if_pos rfl, if_neg k, if_neg k]
  exact ⟨rfl, rfl⟩
theorem bld_ok {l : List Cl} (h : okL l = true) (k : (blkB l).length ≤ 32768) : bldB l = blkB l ∧ bldE l = 0 := by
  unfold bldB bldE
  rw [h, if_pos rfl, if_pos rfl, if_pos k, if_pos k]
  exact ⟨rfl, rfl⟩

theorem body_next {l : List Cl} {i : Nat} (hi : i < l.length) : body (l.take (i + 1)) = body (l.take i) ++ layB (ahd (l.take i)) l[i] := by rw [List.take_succ_eq_append_getElem hi, body_snoc]
theorem whl_next {l : List Cl} {i : Nat} (hi : i < l.length) : whl (l.take (i + 1)) = if i % 8 = 0 then whl (l.take i) ++ [(body (l.take i)).length] else whl (l.take i) := by
  rw [List.take_succ_eq_append_getElem hi, whl_snoc, List.length_take, Nat.min_eq_left (by omega)]
theorem blk_parts (l : List Cl) : (blkB l).length = (body l).length + (2 * (whl l).length + 2) := by unfold blkB; rw [List.length_append, tailB_len]
theorem blk_take (l : List Cl) (i : Nat) : (blkB (l.take i)).length ≤ (blkB l).length := by
  have := blkB_mono (l.take i) (l.drop i)
  rw [List.take_append_drop] at this
  exact this
theorem ahd_0 {l : List Cl} {i : Nat} (hi : i < l.length) (h : i % 8 = 0) : ahd (l.take i) = [] := ahd_whole (by rw [List.length_take, Nat.min_eq_left (by omega)]; exact h)
theorem ahd_1 {l : List Cl} {i : Nat} (hi : i < l.length) (h : ¬ i % 8 = 0) : ahd (l.take i) = (l[i - 1]'(by omega)).row := by
  rw [ahd_not (by rw [List.length_take, Nat.min_eq_left (by omega)]; exact h)]
  have := lastR_get [] l (i - 1) (by omega)
  rw [show i - 1 + 1 = i by omega] at this
  exact this
theorem ahd_len {l : List Cl} (h : l.all okC = true) (i : Nat) (hi : i < l.length) : (ahd (l.take i)).length ≤ 32 := by
  by_cases h8 : i % 8 = 0
  · rw [ahd_0 hi h8]; simp
  · rw [ahd_1 hi h8]
    exact (okC_len (all_get h (i := i - 1) (by omega))).1
theorem Tryz.infoIntE : (Tryz.prog.info? 3).map (fun i => (i.zero, i.size, i.bytes)) = some (some (.int .i64 0), 1, 8) := by kernel_rfl
theorem nCells_snoc (ws : List Nat) (n : Nat) : nCells (ws ++ [n]) = nCells ws ++ [Value.int .i64 (n : Int)] := by simp [nCells]
theorem own_shape {w : World} {B e size n : Nat} {v : Value} {xs : List Value} (h : w.ownsRow B e size v n xs) : ∃ q c, v = .slice q n c := by
  rcases h.2 with ⟨hv, h0⟩ | ⟨g, cap, cur, hv, _⟩
  · exact ⟨none, 0, by rw [hv, h0]⟩
  · exact ⟨_, _, hv⟩
theorem own_nrow {w : World} {B n : Nat} {q : Option Addr} {c : Nat} {ws : List Nat} (h : w.ownsRow B 3 1 (.slice q n c) n (nCells ws)) : ∃ g, 0 < ws.length → q = some ⟨g, 0, none⟩ ∧ NRow w g 0 ws ∧ g < w.heap.size := by
  have hl : ws.length = n := by have := h.1; simp [nCells] at this; exact this
  rcases h.2 with ⟨hv, h0⟩ | ⟨g, cap, cur, hv, hbg, hg, r⟩
  · exact ⟨0, fun h1 => by omega⟩
  · refine ⟨g, fun _ => ⟨?_, fun i hi => ?_, lt_of_block hg⟩⟩
    · injection hv
    · have := h.cells (g := g) (by rw [hv]; rfl) i (.int .i64 ((ws[i] : Nat) : Int)) (by simp [nCells, hi])
      by_cases h0 : i = 0
      · subst h0
        simpa [Addr.add] using this
      · simpa [Addr.add, h0] using this
theorem own_step {w w' : World} {B e size n : Nat} {v : Value} {xs : List Value} (h : w.ownsRow B e size v n xs) (hb : RowKit.Below w.heap.size w w') : w'.ownsRow B e size v n xs := by
  rcases h.2 with h0 | ⟨g, cap, cur, hv, hbg, hg, r⟩
  · exact ⟨h.1, .inl h0⟩
  · exact ⟨h.1, .inr ⟨g, cap, cur, hv, hbg, (hb.block g (lt_of_block hg)).trans hg, r⟩⟩
theorem one_i64 (a : Int) : ∀ u ∈ [Value.int .i64 a], u.oneCell' = true := by
  intro u hu
  simp at hu
  subst hu
  rfl
theorem news_one' (wr : World) (u : Value) (t : TypeId) : ∀ j x, [u][j]? = some x → (wr.alloc (.cells #[u] t)).cell? ((⟨wr.heap.size, 0, none⟩ : Addr).add j) = some x := by
  intro j x hj
  match j, hj with
  | 0, hj => simp at hj; subst hj; simp [Addr.add]

set_option maxHeartbeats 4000000 in
set_option maxRecDepth 100000 in
theorem Build_any (q : Option Addr) (b off cap : Nat) (cs : List Cl) (w : World) (hq : 0 < cs.length → q = some ⟨b, off, none⟩ ∧ CRow w b off cs ∧ b < w.heap.size) (hn : cs.length * 64 ≤ 140737488351232) :
    Calls Tryz.prog 49 #[.slice q cs.length cap] w fun e w' => e = .returned (.tuple #[.string (bstr (bldB cs)), .int .i64 (bldE cs)]) ∧ RowKit.Below w.heap.size w w' := by
  generalize heB : bldB cs = eB
  generalize heE : bldE cs = eE
  have HB : Hid (bldB cs = eB) := heB
  have HE : Hid (bldE cs = eE) := heE
  clear heB heE
  go_enter Tryz.func49, Tryz.ntmps49
  go_wp2
  go_loopw [13] (fun s13 wr => ∃ i : Nat, s13 = .int .i64 (i : Int) ∧ i ≤ cs.length ∧ Hid (okL (cs.take i) = true) ∧ RowKit.Below w.heap.size w wr) (fun s13 _ => cs.length - (intOf s13).toNat)
  case atStart => exact ⟨0, rfl, by omega, rfl, RowKit.Below.refl _ _⟩
  case round =>
    obtain ⟨i, rfl, hil, HA, hbel⟩ := hrel
    by_cases hlt : i < cs.length
    · obtain ⟨rfl, hR, hbl⟩ := hq (by omega)
      have hR' := hR.step hbel hbl
      have hAt := hR' i hlt
      have hcon := Cell_any cs[i].row cs[i].col cs[i].ver cs[i].gone cs[i].val
      have hW1 : RowKit.Below wr.heap.size wr (wr.alloc (.cells #[.string (bstr cs[i].row), .string (bstr cs[i].col), .int .u64 cs[i].ver, .bool cs[i].gone, .string (bstr cs[i].val)] 39)) := (RowKit.Below.refl _ _).alloc (Nat.le_refl _) _
      have hN := CellAt.new wr 39 cs[i].row cs[i].col cs[i].ver cs[i].gone cs[i].val
      cases hm : okC cs[i] with
      | false =>
        obtain ⟨e1, e2⟩ := bld_arg (okL_bad1 hlt hm)
        have HX : Hid (eB = [] ∧ eE = 2) := ⟨by rw [← HB.out]; exact e1, by rw [← HE.out]; exact e2⟩
        rw [show mayC cs[i].row cs[i].col cs[i].ver cs[i].gone cs[i].val = false from hm, if_neg (by simp)] at hcon
        clear hm hR hR' e1 e2
        generalize cs[i] = c at *
        obtain ⟨r, k, v, z, x⟩ := c
        obtain ⟨c0, c1, c2, c3, c4⟩ := hAt
        simp only at c0 c1 c2 c3 c4 hcon hW1 hN
        go_wp2_with fail
        generalize wr.alloc (.cells #[.string (bstr r), .string (bstr k), .int .u64 v, .bool z, .string (bstr x)] 39) = W at *
        have n0 := fun d os => cell_regrown hN.c0 d os
        have n1 := fun d os => cell_regrown hN.c1 d os
        have n2 := fun d os => cell_regrown hN.c2 d os
        have n3 := fun d os => cell_regrown hN.c3 d os
        have n4 := fun d os => cell_regrown hN.c4 d os
        refine wp_region_quiet_below (by kernel_rfl) (by kernel_rfl) ?_
        repeat (go_big_quiet_step (first
          | (go_at_call 47; with_reducible exact Calls.regrown_of (hcon _))))
        refine wpQuiet_nil ?_
        intro _ hw'
        obtain ⟨⟨dq, osq⟩, hw''⟩ := hw'
        subst hw''
        have hb1 := below_regrown W dq osq
        have hbe := below2 hbel (below2 hW1 hb1)
        clear n0 n1 n2 n3 n4 hb1 hW1 hN c0 c1 c2 c3 c4 hcon
        generalize grow (redrawn W dq) osq = W1 at *
        go_wp2
        go_ret2
        exact ⟨by rw [HX.out.1, HX.out.2]; rfl, hbe⟩
      | true =>
        rw [show mayC cs[i].row cs[i].col cs[i].ver cs[i].gone cs[i].val = true from hm, if_pos rfl] at hcon
        by_cases h0 : 0 < i
        · have hd0 : decide ((0 : Int) < (i : Int)) = true := by rw [decide_eq_true_eq]; omega
          have i1 : (i : Int) - 1 = ((i - 1 : Nat) : Int) := by omega
          have hAp := (hR' (i - 1) (by omega)).step hW1 (Nat.lt_of_lt_of_le hbl hbel.size)
          have hcm := Cmp_any cs[i - 1].row cs[i - 1].col cs[i - 1].ver cs[i - 1].gone cs[i - 1].val cs[i].row cs[i].col cs[i].ver cs[i].gone cs[i].val
          by_cases hd : ccl cs[i - 1] cs[i] < 0
          · have HM : Hid (okL (cs.take (i + 1)) = true) := okL_step hlt HA.out hm fun _ => hd
            change cc cs[i - 1].row cs[i - 1].col cs[i - 1].ver cs[i].row cs[i].col cs[i].ver < 0 at hd
            generalize cc cs[i - 1].row cs[i - 1].col cs[i - 1].ver cs[i].row cs[i].col cs[i].ver = d at *
            clear hm hR hR'
            generalize cs[i] = c at *
            generalize cs[i - 1] = p at *
            obtain ⟨r, k, v, z, x⟩ := c
            obtain ⟨c0, c1, c2, c3, c4⟩ := hAt
            simp only at c0 c1 c2 c3 c4 hcon hW1 hN
            go_wp2_with fail
            generalize wr.alloc (.cells #[.string (bstr r), .string (bstr k), .int .u64 v, .bool z, .string (bstr x)] 39) = W at *
            have n0 := fun d os => cell_regrown hN.c0 d os
            have n1 := fun d os => cell_regrown hN.c1 d os
            have n2 := fun d os => cell_regrown hN.c2 d os
            have n3 := fun d os => cell_regrown hN.c3 d os
            have n4 := fun d os => cell_regrown hN.c4 d os
            obtain ⟨r', k', v', z', x'⟩ := p
            simp only at hcm hAp
            obtain ⟨p0, p1, p2, p3, p4⟩ := hAp
            simp only at p0 p1 p2 p3 p4
            have m0 := fun d os => cell_regrown p0 d os
            have m1 := fun d os => cell_regrown p1 d os
            have m2 := fun d os => cell_regrown p2 d os
            have m3 := fun d os => cell_regrown p3 d os
            have m4 := fun d os => cell_regrown p4 d os
            refine wp_region_quiet_below (by kernel_rfl) (by kernel_rfl) ?_
            repeat (go_big_quiet_step (first
              | (go_at_call 47; with_reducible exact Calls.regrown_of (hcon _))
              | (go_at_call 48; with_reducible exact Calls.regrown_of (hcm _))))
            refine wpQuiet_nil ?_
            intro _ hw'
            obtain ⟨⟨dq, osq⟩, hw''⟩ := hw'
            subst hw''
            have hb1 := below_regrown W dq osq
            have hbe := below2 hbel (below2 hW1 hb1)
            clear n0 n1 n2 n3 n4 hb1 hW1 hN c0 c1 c2 c3 c4 hcon hcm p0 p1 p2 p3 p4 m0 m1 m2 m3 m4
            generalize grow (redrawn W dq) osq = W1 at *
            go_wp2
            go_roundw
            case rel => exact ⟨i + 1, by go_num, by omega, HM, hbe⟩
            case measure => simp [intOf]; omega
          · obtain ⟨e1, e2⟩ := bld_arg (okL_bad2 hlt h0 hd)
            have HX : Hid (eB = [] ∧ eE = 2) := ⟨by rw [← HB.out]; exact e1, by rw [← HE.out]; exact e2⟩
            have hd' : 0 ≤ cc cs[i - 1].row cs[i - 1].col cs[i - 1].ver cs[i].row cs[i].col cs[i].ver := Int.not_lt.1 hd
            generalize cc cs[i - 1].row cs[i - 1].col cs[i - 1].ver cs[i].row cs[i].col cs[i].ver = d at *
            clear hm hR hR' e1 e2 hd
            generalize cs[i] = c at *
            generalize cs[i - 1] = p at *
            obtain ⟨r, k, v, z, x⟩ := c
            obtain ⟨c0, c1, c2, c3, c4⟩ := hAt
            simp only at c0 c1 c2 c3 c4 hcon hW1 hN
            go_wp2_with fail
            generalize wr.alloc (.cells #[.string (bstr r), .string (bstr k), .int .u64 v, .bool z, .string (bstr x)] 39) = W at *
            have n0 := fun d os => cell_regrown hN.c0 d os
            have n1 := fun d os => cell_regrown hN.c1 d os
            have n2 := fun d os => cell_regrown hN.c2 d os
            have n3 := fun d os => cell_regrown hN.c3 d os
            have n4 := fun d os => cell_regrown hN.c4 d os
            obtain ⟨r', k', v', z', x'⟩ := p
            simp only at hcm hAp
            obtain ⟨p0, p1, p2, p3, p4⟩ := hAp
            simp only at p0 p1 p2 p3 p4
            have m0 := fun d os => cell_regrown p0 d os
            have m1 := fun d os => cell_regrown p1 d os
            have m2 := fun d os => cell_regrown p2 d os
            have m3 := fun d os => cell_regrown p3 d os
            have m4 := fun d os => cell_regrown p4 d os
            refine wp_region_quiet_below (by kernel_rfl) (by kernel_rfl) ?_
            repeat (go_big_quiet_step (first
              | (go_at_call 47; with_reducible exact Calls.regrown_of (hcon _))
              | (go_at_call 48; with_reducible exact Calls.regrown_of (hcm _))))
            refine wpQuiet_nil ?_
            intro _ hw'
            obtain ⟨⟨dq, osq⟩, hw''⟩ := hw'
            subst hw''
            have hb1 := below_regrown W dq osq
            have hbe := below2 hbel (below2 hW1 hb1)
            clear n0 n1 n2 n3 n4 hb1 hW1 hN c0 c1 c2 c3 c4 hcon hcm p0 p1 p2 p3 p4 m0 m1 m2 m3 m4
            generalize grow (redrawn W dq) osq = W1 at *
            go_wp2
            go_ret2
            exact ⟨by rw [HX.out.1, HX.out.2]; rfl, hbe⟩
        · have hd0 : decide ((0 : Int) < (i : Int)) = false := by rw [decide_eq_false_iff_not]; omega
          have HM : Hid (okL (cs.take (i + 1)) = true) := okL_step hlt HA.out hm fun h => absurd h h0
          clear hm hR hR'
          generalize cs[i] = c at *
          obtain ⟨r, k, v, z, x⟩ := c
          obtain ⟨c0, c1, c2, c3, c4⟩ := hAt
          simp only at c0 c1 c2 c3 c4 hcon hW1 hN
          go_wp2_with fail
          generalize wr.alloc (.cells #[.string (bstr r), .string (bstr k), .int .u64 v, .bool z, .string (bstr x)] 39) = W at *
          have n0 := fun d os => cell_regrown hN.c0 d os
          have n1 := fun d os => cell_regrown hN.c1 d os
          have n2 := fun d os => cell_regrown hN.c2 d os
          have n3 := fun d os => cell_regrown hN.c3 d os
          have n4 := fun d os => cell_regrown hN.c4 d os
          refine wp_region_quiet_below (by kernel_rfl) (by kernel_rfl) ?_
          repeat (go_big_quiet_step (first
            | (go_at_call 47; with_reducible exact Calls.regrown_of (hcon _))))
          refine wpQuiet_nil ?_
          intro _ hw'
          obtain ⟨⟨dq, osq⟩, hw''⟩ := hw'
          subst hw''
          have hb1 := below_regrown W dq osq
          have hbe := below2 hbel (below2 hW1 hb1)
          clear n0 n1 n2 n3 n4 hb1 hW1 hN c0 c1 c2 c3 c4 hcon
          generalize grow (redrawn W dq) osq = W1 at *
          go_wp2
          go_roundw
          case rel => exact ⟨i + 1, by go_num, by omega, HM, hbe⟩
          case measure => simp [intOf]; omega
    · have hie : i = cs.length := by omega
      subst hie
      rw [List.take_length] at HA
      have hnew := IsB.new wr
      have hB1 : RowKit.Below wr.heap.size wr (wr.alloc (.cells #[.pointer none, .slice none 0 0] 99)) := (RowKit.Below.refl _ _).alloc (Nat.le_refl _) _
      have hs1 : wr.heap.size + 1 ≤ (wr.alloc (.cells #[.pointer none, .slice none 0 0] 99)).heap.size := by simp
      have hown0 : (wr.alloc (.cells #[.pointer none, .slice none 0 0] 99)).ownsRow w.heap.size 3 1 (.slice none 0 0) 0 (nCells []) := World.ownsRow_nil _ _ _ _
      obtain ⟨i0, hi0, hz0, hz1, hz2⟩ := info_parts Tryz.infoIntE
      have hall := (okL_iff.1 HA.out).1
      have HAL : Hid _ := hall
      clear hall
      go_wp2
      generalize hw1 : wr.alloc (.cells #[.pointer none, .slice none 0 0] 99) = w1 at *
      clear hw1
      have hbw1 : RowKit.Below w.heap.size w w1 := below2 hbel hB1
      have hwN : w.heap.size ≤ wr.heap.size := hbel.size
      clear hB1 hbel
      obtain ⟨N, hN⟩ : ∃ N, wr.heap.size = N := ⟨_, rfl⟩
      rw [hN] at hnew hs1 hwN
      rw [hN]
      clear hN
      go_loopw [7, 38] (fun s7 s38 w' => ∃ (i : Nat) (q7 : Option Addr) (c7 m7 : Nat), s38 = .int .i64 (i : Int) ∧ s7 = .slice q7 m7 c7 ∧ i ≤ cs.length ∧ Hid ((whl (cs.take i)).length = m7) ∧ Hid (IsB N N (body (cs.take i)) w') ∧ Hid (w'.ownsRow w.heap.size 3 1 (.slice q7 m7 c7) m7 (nCells (whl (cs.take i)))) ∧ Hid ((blkB (cs.take i)).length ≤ 32768) ∧ N + 1 ≤ w'.heap.size ∧ RowKit.Below w.heap.size w w') (fun _ s38 _ => cs.length - (intOf s38).toNat)
      case atStart => exact ⟨0, none, 0, 0, rfl, rfl, by omega, rfl, hnew, hown0, by show _ ≤ _; rw [List.take_zero, blkB_len]; simp [body, bdy], hs1, hbw1⟩
      case round =>
        obtain ⟨i, q7, c7, m7, rfl, rfl, hil, HM7, HI, HO, HK, hNs, hbel⟩ := hrel
        clear hnew hown0 hs1 hbw1
        by_cases hlt : i < cs.length
        · obtain ⟨rfl, hR, hbl⟩ := hq (by omega)
          have hR' := hR.step hbel hbl
          have hAt := hR' i hlt
          have hok := all_get HAL.out hlt
          have hal := ahd_len HAL.out i hlt
          have hll := (layB_len (a := ahd (cs.take i)) hok).1
          have hcl := okC_len hok
          have hcon := fun W => blay_any cs[i] (ahd (cs.take i)) W hok (by omega)
          have hbt := body_next hlt
          have hwt := whl_next hlt
          have hbp := blk_parts (cs.take i)
          have hbp1 := blk_parts (cs.take (i + 1))
          have hbk1 := blk_take cs (i + 1)
          have hW1 : RowKit.Below wr.heap.size wr (wr.alloc (.cells #[.string (bstr cs[i].row), .string (bstr cs[i].col), .int .u64 cs[i].ver, .bool cs[i].gone, .string (bstr cs[i].val)] 39)) := (RowKit.Below.refl _ _).alloc (Nat.le_refl _) _
          have hN1 := CellAt.new wr 39 cs[i].row cs[i].col cs[i].ver cs[i].gone cs[i].val
          rw [HM7.out] at hbp
          have hLk : (body (cs.take i)).length + (2 * m7 + 2) ≤ 32768 := by rw [← hbp]; exact HK.out
          have HBT : Hid _ := hbt
          have HBP1 : Hid _ := hbp1
          have HBK1 : Hid _ := hbk1
          clear hbp hbp1 hbk1 hbt
          by_cases h8 : i % 8 = 0
          · rw [if_pos h8] at hwt
            rw [ahd_0 hlt h8] at hcon HBT hll
            have hmod : ((i : Int) % 8 == 0) = true := by rw [beq_iff_eq]; omega
            have HWT : Hid _ := hwt
            have HWL : Hid ((whl (cs.take (i + 1))).length = m7 + 1) := by show _ = _; rw [hwt, List.length_append, HM7.out]; rfl
            clear hwt hal hR hR' hok
            generalize body (cs.take i) = L at *
            generalize whl (cs.take i) = M at *
            generalize hY : layB [] cs[i] = Y at *
            clear hY
            generalize cs[i] = c at *
            obtain ⟨r, k, v, z, x⟩ := c
            obtain ⟨c0, c1, c2, c3, c4⟩ := hAt
            simp only at c0 c1 c2 c3 c4 hcon hW1 hN1 hll hcl
            go_wp2_with fail
            generalize wr.alloc (.cells #[.string (bstr r), .string (bstr k), .int .u64 v, .bool z, .string (bstr x)] 39) = W at *
            have hI1 := HI.out.step hW1
            have hO1 := own_step HO.out hW1
            have hbe1 := below2 hbel hW1
            have hs1 : N + 1 ≤ W.heap.size := Nat.le_trans hNs hW1.size
            have hrow : some wr.heap.size ≠ (Value.slice q7 m7 c7).ownBlock := fun hk => Nat.lt_irrefl _ (HO.out.lt _ hk.symm).2
            clear hW1 HI HO hbel hNs c0 c1 c2 c3 c4
            refine (Len_any N N L W hI1).mono ?_
            rintro e w2 ⟨rfl, rfl⟩
            go_wp2_with (at_builtin; refine wpList_append_own _ rfl _ _ 134 rfl w.heap.size 3 i0 (.int .i64 0) 1 8 Tryz.underlying134 hi0 hz0 hz1 hz2 rfl (by decide) _ _ _ rfl (hO1.alloc _) ⟨w2.heap.size, 0, none⟩ 1 1 [Value.int .i64 (L.length : Int)] rfl rfl (news_one' _ _ _) (one_i64 _) (by unfold maxLen; omega) (by omega) (by have := hbe1.size; simp; omega) ?_)
            intro v' w2' hO2 hgrow _
            have hal2 : RowKit.Below w2.heap.size w2 (w2.alloc (.cells #[.int .i64 (L.length : Int)] 3)) := (RowKit.Below.refl _ _).alloc (Nat.le_refl _) _
            have hI2 := (hI1.step hal2).other (hO1.alloc _) (by decide) (by decide) hgrow
            have hbe2 : RowKit.Below w.heap.size w w2' := (below2 hbe1 hal2).grown hgrow (by have := hbe1.size; simp; omega) (fun k hk => (hO1.lt k hk).1)
            have hs2 : N + 1 ≤ w2'.heap.size := Nat.le_trans (by simp; omega) hgrow.size
            rw [← nCells_snoc] at hO2
            have hN2 := (hN1.step hal2).grow hgrow hrow
            obtain ⟨q8, c8, rfl⟩ := own_shape hO2
            obtain ⟨d0, d1, d2, d3, d4⟩ := hN2
            clear hO1 hI1 hbe1 hs1 hal2 hgrow hN1
            go_wp2_with fail
            refine (hcon _).mono ?_
            rintro e w3 ⟨rfl, hb3⟩
            have hI3 := hI2.step hb3
            have hO3 := (own_step hO2 hb3)
            have hbe3 := below2 hbe2 hb3
            have hs3 : N + 1 ≤ w3.heap.size := Nat.le_trans hs2 hb3.size
            clear hb3 hcon hI2 hO2 hbe2 hs2 d0 d1 d2 d3 d4
            go_wp2_with fail
            refine (WriteString_far N N L Y w3 hI3 (by omega) (by omega)).mono ?_
            rintro e w4 ⟨rfl, hI4, hb4, hf4⟩
            have hO4 := own_far hO3 (by decide) (by decide) hI3 hf4
            have hbe4 : RowKit.Below w.heap.size w w4 := hbe3.trans (hb4.mono hwN)
            have hs4 : N + 1 ≤ w4.heap.size := Nat.le_trans hs3 hb4.size
            clear hb4 hf4 hI3 hO3 hbe3 hs3
            go_wp2_with fail
            have HPX : Hid ((blkB (cs.take (i + 1))).length = L.length + Y.length + (2 * (m7 + 1) + 2)) := by show _ = _; rw [HBP1.out, HBT.out, HWL.out, List.length_append]
            have hLen := Len_any N N (L ++ Y) w4 hI4
            have hTs := fun W => tailSize_any (m7 + 1) W (by omega)
            rw [List.length_append] at hLen
            obtain ⟨t, ht⟩ : ∃ t, L.length + Y.length = t := ⟨_, rfl⟩
            obtain ⟨u, hu⟩ : ∃ u, 2 * (m7 + 1) + 2 = u := ⟨_, rfl⟩
            have ht2 : t ≤ 200000 := by omega
            have hu2 : u ≤ 40000 := by omega
            rw [ht] at hLen
            rw [hu] at hTs
            have HPY : Hid ((blkB (cs.take (i + 1))).length = t + u) := by show _ = _; rw [HPX.out, ht, hu]
            clear ht hu hll hcl hLk HPX
            refine hLen.mono ?_
            rintro e w5 ⟨rfl, rfl⟩
            clear hLen
            go_wp2_with fail
            refine (hTs _).mono ?_
            rintro e w6 ⟨rfl, rfl⟩
            clear hTs
            by_cases hgo : 32768 < t + u
            · obtain ⟨e1, e2⟩ := bld_long HA.out (by have := HBK1.out; have := HPY.out; omega)
              have HX : Hid (eB = [] ∧ eE = 3) := ⟨by rw [← HB.out]; exact e1, by rw [← HE.out]; exact e2⟩
              clear e1 e2
              go_wp2
              go_ret2
              exact ⟨by rw [HX.out.1, HX.out.2]; rfl, hbe4⟩
            · go_wp2
              go_roundw
              case rel => exact ⟨i + 1, _, _, m7 + 1, by go_num, rfl, by omega, HWL, by rw [HBT.out]; exact hI4, by rw [HWT.out]; exact hO4, by show _ ≤ _; rw [HPY.out]; omega, hs4, hbe4⟩
              case measure => simp [intOf]; omega
          · rw [if_neg h8] at hwt
            have hah := ahd_1 hlt h8
            rw [hah] at hcon HBT hll
            have hmod : ((i : Int) % 8 == 0) = false := by rw [beq_eq_false_iff_ne]; omega
            have HWT : Hid _ := hwt
            have HWL : Hid ((whl (cs.take (i + 1))).length = m7) := by show _ = _; rw [hwt, HM7.out]
            have i1 : (i : Int) - 1 = ((i - 1 : Nat) : Int) := by omega
            have hi1 : i - 1 < cs.length := by omega
            have p0 := ((hR' (i - 1) hi1).step hW1 (Nat.lt_of_lt_of_le hbl hbel.size)).c0
            clear hwt hal hR hR' hok hah
            generalize body (cs.take i) = L at *
            generalize whl (cs.take i) = M at *
            generalize hY : layB cs[i - 1].row cs[i] = Y at *
            clear hY
            generalize cs[i - 1].row = pr at *
            generalize cs[i] = c at *
            obtain ⟨r, k, v, z, x⟩ := c
            obtain ⟨c0, c1, c2, c3, c4⟩ := hAt
            simp only at c0 c1 c2 c3 c4 hcon hW1 hN1 hll hcl
            obtain ⟨d0, d1, d2, d3, d4⟩ := hN1
            go_wp2_with fail
            generalize wr.alloc (.cells #[.string (bstr r), .string (bstr k), .int .u64 v, .bool z, .string (bstr x)] 39) = W at *
            have hI2 := HI.out.step hW1
            have hO2 := own_step HO.out hW1
            have hbe2 := below2 hbel hW1
            have hs2 : N + 1 ≤ W.heap.size := Nat.le_trans hNs hW1.size
            clear hW1 HI HO hbel hNs c0 c1 c2 c3 c4 p0
            refine (hcon _).mono ?_
            rintro e w3 ⟨rfl, hb3⟩
            have hI3 := hI2.step hb3
            have hO3 := (own_step hO2 hb3)
            have hbe3 := below2 hbe2 hb3
            have hs3 : N + 1 ≤ w3.heap.size := Nat.le_trans hs2 hb3.size
            clear hb3 hcon hI2 hO2 hbe2 hs2 d0 d1 d2 d3 d4
            go_wp2_with fail
            refine (WriteString_far N N L Y w3 hI3 (by omega) (by omega)).mono ?_
            rintro e w4 ⟨rfl, hI4, hb4, hf4⟩
            have hO4 := own_far hO3 (by decide) (by decide) hI3 hf4
            have hbe4 : RowKit.Below w.heap.size w w4 := hbe3.trans (hb4.mono hwN)
            have hs4 : N + 1 ≤ w4.heap.size := Nat.le_trans hs3 hb4.size
            clear hb4 hf4 hI3 hO3 hbe3 hs3
            go_wp2_with fail
            have HPX : Hid ((blkB (cs.take (i + 1))).length = L.length + Y.length + (2 * (m7) + 2)) := by show _ = _; rw [HBP1.out, HBT.out, HWL.out, List.length_append]
            have hLen := Len_any N N (L ++ Y) w4 hI4
            have hTs := fun W => tailSize_any (m7) W (by omega)
            rw [List.length_append] at hLen
            obtain ⟨t, ht⟩ : ∃ t, L.length + Y.length = t := ⟨_, rfl⟩
            obtain ⟨u, hu⟩ : ∃ u, 2 * (m7) + 2 = u := ⟨_, rfl⟩
            have ht2 : t ≤ 200000 := by omega
            have hu2 : u ≤ 40000 := by omega
            rw [ht] at hLen
            rw [hu] at hTs
            have HPY : Hid ((blkB (cs.take (i + 1))).length = t + u) := by show _ = _; rw [HPX.out, ht, hu]
            clear ht hu hll hcl hLk HPX
            refine hLen.mono ?_
            rintro e w5 ⟨rfl, rfl⟩
            clear hLen
            go_wp2_with fail
            refine (hTs _).mono ?_
            rintro e w6 ⟨rfl, rfl⟩
            clear hTs
            by_cases hgo : 32768 < t + u
            · obtain ⟨e1, e2⟩ := bld_long HA.out (by have := HBK1.out; have := HPY.out; omega)
              have HX : Hid (eB = [] ∧ eE = 3) := ⟨by rw [← HB.out]; exact e1, by rw [← HE.out]; exact e2⟩
              clear e1 e2
              go_wp2
              go_ret2
              exact ⟨by rw [HX.out.1, HX.out.2]; rfl, hbe4⟩
            · go_wp2
              go_roundw
              case rel => exact ⟨i + 1, _, _, m7, by go_num, rfl, by omega, HWL, by rw [HBT.out]; exact hI4, by rw [HWT.out]; exact hO4, by show _ ≤ _; rw [HPY.out]; omega, hs4, hbe4⟩
              case measure => simp [intOf]; omega
        · have hie : i = cs.length := by omega
          subst hie
          rw [List.take_length] at HI HO HM7 HK
          obtain ⟨g7, hg7⟩ := own_nrow HO.out
          have hwl := whl_le cs
          have hbp := blk_parts cs
          have hk := HK.out
          have htl := tail_any q7 g7 0 c7 (whl cs) wr hg7 (by omega) (fun p hp => by have := hwl p hp; omega)
          rw [HM7.out] at htl
          have hI1 := HI.out
          obtain ⟨e1, e2⟩ := bld_ok HA.out hk
          have HX : Hid (eB = body cs ++ tailB (whl cs) ∧ eE = 0) := ⟨by rw [← HB.out]; exact e1, by rw [← HE.out]; exact e2⟩
          have htn := tailB_len (whl cs)
          rw [HM7.out] at htn hbp
          clear e1 e2 hg7 hwl HO HI HM7
          generalize body cs = L at *
          generalize tailB (whl cs) = Y at *
          go_wp2_with fail
          refine htl.mono ?_
          rintro e w2 ⟨rfl, hb2⟩
          have hI2 := hI1.step hb2
          have hbe2 := below2 hbel hb2
          have hs2 : N + 1 ≤ w2.heap.size := Nat.le_trans hNs hb2.size
          clear hb2 hI1 hbel hNs htl
          go_wp2_with fail
          refine (WriteString_any N N L Y w2 hI2 (by omega) (by omega)).mono ?_
          rintro e w3 ⟨rfl, hI3, hb3⟩
          have hbe3 : RowKit.Below w.heap.size w w3 := hbe2.trans (hb3.mono hwN)
          have hs3 : N + 1 ≤ w3.heap.size := Nat.le_trans hs2 hb3.size
          clear hb3 hI2 hbe2
          go_wp2_with fail
          refine (String_any N N (L ++ Y) w3 hI3 (by omega)).mono ?_
          rintro e w4 ⟨rfl, hb4⟩
          have hbe4 : RowKit.Below w.heap.size w w4 := hbe3.trans (hb4.mono hwN)
          go_wp2
          go_ret2
          exact ⟨by rw [HX.out.1, HX.out.2]; rfl, hbe4⟩

end Go.Proofs.YtmpnofbhbglfpaaGreatDoor
