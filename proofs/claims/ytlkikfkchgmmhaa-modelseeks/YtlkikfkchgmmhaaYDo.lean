/-
  A model: Do, of an operation that is no seek.
-/
import Derived.Test.YtlkikfkchgmmhaaYTou
import Derived.Deep.RegionHeld3
namespace Go.Proofs.Ytlkikfkchgmmhaa
open Go.RowKit Go.BigFrame Go.Sort
attribute [local go_sem] size_bstr toList_bstr ls_def

/-- The cells of a model are as cells may be in memory. -/
def FInv (F : Mf) : Prop := ∀ r c x, F r c = some x → Fits x ∧ 0 ≤ x.ver
theorem touL_all {F : Mf} (h : FInv F) (o : Oq) : ∀ c ∈ touL F o, Fits c ∧ 0 ≤ c.ver := by
  have h1 : ∀ r c y, y ∈ optL (F r c) → Fits y ∧ 0 ≤ y.ver := fun r c y hy => by
    cases hf : F r c with
    | none => rw [hf] at hy; cases hy
    | some z => rw [hf] at hy; rcases List.mem_singleton.1 hy with rfl; exact h r c _ hf
  intro c hc
  rcases List.mem_append.1 hc with h2 | h2
  · exact h1 _ _ _ h2
  · exact h1 _ _ _ h2
theorem touL_len (F : Mf) (o : Oq) : (touL F o).length ≤ 2 := fndL_len F o 2
theorem own_cget {w : World} {B : Nat} {v : Value} {cs : List Cl} (h : w.ownsRow B 38 5 v cs.length (ccells cs)) :
    ∃ p cap g, v = .slice p cs.length cap ∧ B ≤ g ∧ (0 < cs.length → p = some ⟨g, 0, none⟩ ∧ CRow w g 0 cs ∧ g < w.heap.size) := by
  obtain ⟨p, cap, hv, hm, _, hr⟩ := own_cslice h
  by_cases h0 : 0 < cs.length
  · obtain ⟨g, hp, hB, hg, hR, hf⟩ := hr h0
    exact ⟨p, cap, g, hv, hB, fun _ => ⟨hp, hR, hg⟩⟩
  · exact ⟨p, cap, B, hv, Nat.le_refl _, fun h => absurd h h0⟩
def putsF (F : Mf) (l : List Cl) : Mf := l.foldl putF F
theorem effC_fit (o : Oq) (cs : List Cl) : ∀ x ∈ effC o cs, x.row = o.row ∧ (x.col = [] ∨ x.col = o.col) := by
  intro x hx
  unfold effC at hx
  have hr := look_row o.row o.col cs
  split at hx
  · cases hx
  split at hx
  · cases hx
  split at hx
  · cases hx
  split at hx
  · cases hx
  unfold chgC at hx
  split at hx
  · cases hx
  · simp only [List.mem_cons, List.not_mem_nil, or_false] at hx
    rcases hx with rfl | rfl
    · exact ⟨hr.1, .inl rfl⟩
    · exact ⟨hr.1, .inr hr.2⟩
theorem effC_len (o : Oq) (cs : List Cl) : (effC o cs).length ≤ 2 := by
  unfold effC chgC
  repeat' split
  all_goals simp
theorem rzo {w2 wf : World} (h : Below (w2.alloc (.cells #[.int .i64 0, .bool false, .string ⟨#[]⟩, .string ⟨#[]⟩, .int .u64 0] 29)).drew.heap.size (w2.alloc (.cells #[.int .i64 0, .bool false, .string ⟨#[]⟩, .string ⟨#[]⟩, .int .u64 0] 29)).drew wf) : RzB wf w2.heap.size rz0 :=
  (h.block _ (by show _ < (w2.alloc _).heap.size; simp)).trans (RzB.new w2)
theorem rzo2 {w2 wf : World} (h : Below (w2.alloc (.cells #[.int .i64 0, .bool false, .string ⟨#[]⟩, .string ⟨#[]⟩, .int .u64 0] 29)).heap.size (w2.alloc (.cells #[.int .i64 0, .bool false, .string ⟨#[]⟩, .string ⟨#[]⟩, .int .u64 0] 29)) wf) : RzB wf w2.heap.size rz0 :=
  (h.block _ (by simp)).trans (RzB.new w2)
theorem rzo3 {w2 wf : World} (h : Below (w2.drew.alloc (.cells #[.int .i64 0, .bool false, .string ⟨#[]⟩, .string ⟨#[]⟩, .int .u64 0] 29)).heap.size (w2.drew.alloc (.cells #[.int .i64 0, .bool false, .string ⟨#[]⟩, .string ⟨#[]⟩, .int .u64 0] 29)) wf) : RzB wf w2.heap.size rz0 :=
  (h.block _ (by show _ < (w2.drew.alloc _).heap.size; simp)).trans (RzB.new w2.drew)
theorem RzB.frz {w : World} {b : Nat} {r : Rz} (h : RzB w b r) : ∀ o, w.frozen? ⟨b, o, none⟩ = false := (mcells h).2
theorem RzB.lt {w : World} {b : Nat} {r : Rz} (h : RzB w b r) : b < w.heap.size := blk_lt h
theorem kcY {w X wf : World} {b o : Nat} {v : Value} (h1 : Below w.heap.size w X) (h2 : Below X.heap.size X wf) (h : w.cell? ⟨b, o, none⟩ = some v) : wf.cell? ⟨b, o, none⟩ = some v := by
  have hb := block_lt_of_cell h
  rw [World.cell?_of_block ((h2.block b (Nat.lt_of_lt_of_le hb h1.size)).trans (h1.block b hb))]
  exact h

set_option maxHeartbeats 8000000 in
set_option maxRecDepth 100000 in
theorem YDo_any (g m n : Nat) (F : Mf) (o : Oq) (w : World) (h : Md w g m n F) (hgm : g ≠ m) (hI : FInv F) (hn : n < 100000000) (hk : ¬ o.kind = 5) (h1 : o.row.length ≤ bigL) (h2 : o.col.length ≤ bigL) :
    Calls Try.prog 10 #[.pointer (some ⟨g, 0, none⟩), oqV o] w fun e w' => e = .returned (rzV (effR o (touL F o))) ∧ Md w' g m (n + 2) (putsF F (effC o (touL F o))) ∧ Kp w w' (fun i => i = m) := by
  obtain ⟨er, her⟩ : ∃ er, er = effR o (touL F o) := ⟨_, rfl⟩
  obtain ⟨ec, hec⟩ : ∃ ec, ec = effC o (touL F o) := ⟨_, rfl⟩
  have hfit := effC_fit o (touL F o)
  have hlen := effC_len o (touL F o)
  have hT := fun (X : World) (hX : Md X g m n F) => touched_any g m n F o X hX h1 h2
  have hE := fun (X : World) (v : Value) (hv : ∃ B, X.ownsRow B 38 5 v (touL F o).length (ccells (touL F o))) => show Calls Try.prog 17 #[oqV o, v] X fun e w' => ∃ u, e = .returned (.tuple #[rzV (effR o (touL F o)), u]) ∧ w'.ownsRow X.heap.size 38 5 u (effC o (touL F o)).length (ccells (effC o (touL F o))) ∧ Below X.heap.size X w' from by
    obtain ⟨B, hv⟩ := hv
    obtain ⟨p, cap, gg, rfl, _, hr⟩ := own_cget hv
    exact YEffect_any o p gg 0 cap (touL F o) X hr (fun c hc => (touL_all hI o c hc).1) (fun c hc => (touL_all hI o c hc).2) (by have := touL_len F o; omega)
  rw [← her, ← hec] at hE
  rw [← hec] at hfit hlen
  rw [← her, ← hec]
  clear her hec
  obtain ⟨w1, hw1⟩ : ∃ w1, w1 = (w.alloc (.cells (oqC o) 32)).alloc (.cells #[.int .i64 0, .bool false, .string ⟨#[]⟩, .string ⟨#[]⟩, .int .u64 0] 29) := ⟨_, rfl⟩
  have hb1 : Below w.heap.size w w1 := by rw [hw1]; exact ((Below.refl _ _).alloc (Nat.le_refl _) _).alloc (by simp) _
  have x1 : OqB w1 w.heap.size o := by rw [hw1]; exact (Below.heap_alloc _ _ _ (by simp)).trans (heap_alloc_new w _)
  have y1 : RzB w1 (w.heap.size + 1) rz0 := by
    have h := RzB.new (w.alloc (.cells (oqC o) 32))
    rw [World.size_alloc] at h
    rw [hw1]
    exact h
  have hM1 := h.below hb1 h.lt.1 h.lt.2
  have hml := h.lt
  have hnn := none_any g m n F w1 hM1
  have HW1 : Hid _ := hw1
  clear hw1 h
  obtain ⟨c0, c1, c2, c3, c4, c5⟩ := x1.facts
  go_enter Try.func10, Try.ntmps10
  go_wp2_with fail
  rw [show #[.int .i64 o.kind, .string (bstr o.row), .string (bstr o.col), .string (bstr o.val), .bool o.has, .string (bstr o.exp)] = oqC o from rfl, ← HW1.out]
  refine hnn.mono ?_
  rintro e w2 ⟨rfl, rfl⟩
  clear HW1 hnn
  go_upto_region 5 with fail
  have hT2 := fun (X : World) (hX : Below w2.heap.size w2 X) => hT X (hM1.below hX hM1.lt.1 hM1.lt.2)
  clear hT
  have hNl := blk_lt x1
  go_cut [5, 6] from 23 (fun s5 s6 wx => ∃ P : Nat, s5 = .pointer (some ⟨P, 0, none⟩) ∧ w2.heap.size ≤ P ∧ RzB wx P er ∧ wx.ownsRow w2.heap.size 38 5 s6 ec.length (ccells ec) ∧ Below w2.heap.size w2 wx)
  case first =>
    have e0 := World.new_ne w2 _ c0
    have e1 := World.new_ne w2 _ c1
    have e2 := World.new_ne w2 _ c2
    have e3 := World.new_ne w2 _ c3
    have e4 := World.new_ne w2 _ c4
    have e5 := World.new_ne w2 _ c5
    go_region_held3 (fun w' => w'.cell? ⟨w.heap.size, 0, none⟩ = some (.int .i64 o.kind) ∧ w'.cell? ⟨w.heap.size, 1, none⟩ = some (.string (bstr o.row)) ∧ w'.cell? ⟨w.heap.size, 2, none⟩ = some (.string (bstr o.col)) ∧ w'.cell? ⟨w.heap.size, 3, none⟩ = some (.string (bstr o.val)) ∧ w'.cell? ⟨w.heap.size, 4, none⟩ = some (.bool o.has) ∧ w'.cell? ⟨w.heap.size, 5, none⟩ = some (.string (bstr o.exp))) (first | with_reducible exact ⟨c0, c1, c2, c3, c4, c5⟩ | with_reducible exact ⟨(cell_set5 hz).trans c0, (cell_set5 hz).trans c1, (cell_set5 hz).trans c2, (cell_set5 hz).trans c3, (cell_set5 hz).trans c4, (cell_set5 hz).trans c5⟩ | go_keep)
      (first
        | (go_at_call 23; with_reducible refine (hT2 _ ?_).mono ?_; (· repeat (first | exact RowKit.Below.refl _ _ | refine RowKit.Below.drew ?_ | refine RowKit.Below.alloc ?_ (by simp) _)); rintro e wf ⟨v, rfl, hov, hbf⟩; obtain ⟨X, hX⟩ : ∃ X, RowKit.Below w2.heap.size w2 X ∧ RowKit.Below X.heap.size X wf := ⟨_, (by repeat (first | exact RowKit.Below.refl _ _ | refine RowKit.Below.drew ?_ | refine RowKit.Below.alloc ?_ (by simp) _)), hbf⟩; replace c0 := kcY hX.1 hX.2 c0; replace c1 := kcY hX.1 hX.2 c1; replace c2 := kcY hX.1 hX.2 c2; replace c3 := kcY hX.1 hX.2 c3; replace c4 := kcY hX.1 hX.2 c4; replace c5 := kcY hX.1 hX.2 c5; have hbz := below2 hX.1 hX.2; (first | (have b0 : RzB wf w2.heap.size rz0 := rzo hbf; have hz : w.heap.size ≠ w2.heap.size := Nat.ne_of_lt hNl) | (have b0 : RzB wf w2.heap.size rz0 := rzo3 hbf; have hz : w.heap.size ≠ w2.heap.size := Nat.ne_of_lt hNl) | (have b0 : RzB wf w2.heap.size rz0 := rzo2 hbf; have hz : w.heap.size ≠ w2.heap.size := Nat.ne_of_lt hNl) | skip); have e0 := World.new_ne wf _ c0; have e1 := World.new_ne wf _ c1; have e2 := World.new_ne wf _ c2; have e3 := World.new_ne wf _ c3; have e4 := World.new_ne wf _ c4; have e5 := World.new_ne wf _ c5; clear hX)
        | (go_at_call 17; with_reducible refine (hE _ _ ?_).mono ?_; (· first | exact ⟨_, hov⟩ | exact ⟨_, hov.alloc _⟩); rintro e wg ⟨u, rfl, how, hbg⟩; obtain ⟨Y, hY⟩ : ∃ Y, RowKit.Below wf.heap.size wf Y ∧ RowKit.Below Y.heap.size Y wg := ⟨_, (by repeat (first | exact RowKit.Below.refl _ _ | refine RowKit.Below.alloc ?_ (by simp) _)), hbg⟩; replace c0 := kcY hY.1 hY.2 c0; replace c1 := kcY hY.1 hY.2 c1; replace c2 := kcY hY.1 hY.2 c2; replace c3 := kcY hY.1 hY.2 c3; replace c4 := kcY hY.1 hY.2 c4; replace c5 := kcY hY.1 hY.2 c5; have hYg := below2 hY.1 hY.2; have hbw := below2 hbz hYg; (first | (replace b0 := b0.below hYg (b0.lt); obtain ⟨q0, q1, q2, q3, q4⟩ := b0.facts; have fz := b0.frz) | (have b0 : RzB wg wf.heap.size rz0 := rzo2 hbg; have hz : w.heap.size ≠ wf.heap.size := Nat.ne_of_lt (Nat.lt_of_lt_of_le hNl hbz.size); obtain ⟨q0, q1, q2, q3, q4⟩ := b0.facts; have fz := b0.frz) | skip); have how2 : wg.ownsRow w2.heap.size 38 5 u ec.length (ccells ec) := own_mono how (by first | exact hbz.size | (simp only [World.size_alloc]; exact Nat.le_succ_of_le hbz.size)); have e0 := World.new_ne wg _ c0; have e1 := World.new_ne wg _ c1; have e2 := World.new_ne wg _ c2; have e3 := World.new_ne wg _ c3; have e4 := World.new_ne wg _ c4; have e5 := World.new_ne wg _ c5; clear hY))
    · go_wp2_with fail
      go_meet
      case rel => exact ⟨_, rfl, hbw.size, heap_alloc_new wg _, how2.alloc _, hbw.alloc hbw.size _⟩
    · have hgN : ∀ gg, u.ownBlock = some gg → gg ≠ wf.heap.size := by
        intro gg hg
        have h9 := (how.lt gg hg).1
        simp only [World.size_alloc] at h9
        omega
      have HR : Hid _ := b0.set er
      have HB : Hid _ := below_set5 (n := wf.heap.size) (.int .i64 er.err) (.bool er.found) (.string (bstr er.row)) (.string (bstr er.val)) (.int .u64 er.ver) hbw (hbz.size)
      have HO : Hid _ := own_set5 (p := .int .i64 er.err) (q := .bool er.found) (r := .string (bstr er.row)) (s := .string (bstr er.val)) (t := .int .u64 er.ver) how2 (N := wf.heap.size) hgN
      go_wp2_with fail
      go_meet
      case rel => exact ⟨_, rfl, hbz.size, HR.out, HO.out, HB.out⟩
    · have hgN : ∀ gg, u.ownBlock = some gg → gg ≠ w2.heap.size := by
        intro gg hg
        have h9 := (how.lt gg hg).1
        have h8 : w2.heap.size + 1 ≤ wf.heap.size := by simpa using hbf.size
        omega
      have HR : Hid _ := b0.set er
      have HB : Hid _ := below_set5 (n := w2.heap.size) (.int .i64 er.err) (.bool er.found) (.string (bstr er.row)) (.string (bstr er.val)) (.int .u64 er.ver) hbw (Nat.le_refl _)
      have HO : Hid _ := own_set5 (p := .int .i64 er.err) (q := .bool er.found) (r := .string (bstr er.row)) (s := .string (bstr er.val)) (t := .int .u64 er.ver) how2 (N := w2.heap.size) hgN
      go_wp2_with fail
      go_meet
      case rel => exact ⟨_, rfl, Nat.le_refl _, HR.out, HO.out, HB.out⟩
  case rest =>
    obtain ⟨P, rfl, hPw, hRP, how, hb3⟩ := hcut
    obtain ⟨p, cap, gg, rfl, hgg, hrow⟩ := own_cget how
    have hM3 := hM1.below hb3 hM1.lt.1 hM1.lt.2
    have hmw : m < w2.heap.size := hM1.lt.2
    have hyN : RzB wc (w.heap.size + 1) rz0 := y1.below hb3 (blk_lt y1)
    have hyl := blk_lt y1
    have hkw : Kp w wc (fun j => j = m) := Kp.of_below _ (below2 hb1 hb3)
    clear c0 c1 c2 c3 c4 c5 hE hT2 how x1 y1 hM1 hb1 hb3
    go_wp2_with fail
    go_loopw [8, 33] (fun _ s33 wr => ∃ i : Nat, s33 = .int .i64 (i : Int) ∧ i ≤ ec.length ∧ Md wr g m (n + i) (putsF F (ec.take i)) ∧ Kp wc wr (fun j => j = m)) (fun _ s33 _ => ec.length - (intOf s33).toNat)
    case atStart => exact ⟨0, rfl, by omega, hM3, Kp.refl _ _⟩
    case round =>
      clear hM3
      obtain ⟨i, rfl, hil, hM, hk3⟩ := hrel
      by_cases hlt : i < ec.length
      · have hiz : (i : Int) < (ec.length : Int) := by omega
        obtain ⟨rfl, hR, hbl⟩ := hrow (by omega)
        obtain ⟨c, hc⟩ : ∃ c, c = ec[i] := ⟨_, rfl⟩
        have hA := (hR.blk (hk3.block gg hbl (by omega))) i hlt
        rw [← hc] at hA
        have hfc := hfit c (by rw [hc]; exact List.getElem_mem hlt)
        have HTK : Hid (putsF F (ec.take (i + 1)) = putF (putsF F (ec.take i)) c) := by
          show _ = _
          unfold putsF
          rw [List.take_succ_eq_append_getElem hlt, List.foldl_append, hc]
          rfl
        obtain ⟨a0, a1, a2, a3, a4⟩ := id hA
        rw [Nat.zero_add] at a0 a1 a2 a3 a4
        have hb5 : Below wr.heap.size wr (wr.alloc (.cells #[.string (bstr c.row), .string (bstr c.col), .int .u64 c.ver, .bool c.gone, .string (bstr c.val)] 38)) := (Below.refl _ _).alloc (Nat.le_refl _) _
        have x5 := heap_alloc_new wr (.cells #[.string (bstr c.row), .string (bstr c.col), .int .u64 c.ver, .bool c.gone, .string (bstr c.val)] 38)
        obtain ⟨w5, hw5⟩ : ∃ w5, w5 = wr.alloc (.cells #[.string (bstr c.row), .string (bstr c.col), .int .u64 c.ver, .bool c.gone, .string (bstr c.val)] 38) := ⟨_, rfl⟩
        rw [← hw5] at hb5 x5
        have HW5 : Hid _ := hw5
        have hM5 := hM.below hb5 hM.lt.1 hM.lt.2
        have hk5 : Kp wc w5 (fun j => j = m) := hk3.trans (Kp.of_below (fun _ => False) hb5) (fun _ h => h.elim)
        have HLT : Hid (i + 1 ≤ ec.length) := hlt
        have hput := put_any g m (n + i) _ c w5 hM5 hgm (by omega) (by rw [hfc.1]; exact h1) (by rcases hfc.2 with e | e <;> rw [e]; exact Nat.zero_le _; exact h2)
        clear hw5 hR hA hc hlt hil hb5 hM hM5 hfc
        go_upto_region 9 with fail
        rw [← HW5.out]
        clear HW5 a0 a1 a2 a3 a4
        obtain ⟨d0, d1, d2, d3, d4⟩ : w5.cell? ⟨wr.heap.size, 0, none⟩ = some (.string (bstr c.row)) ∧ w5.cell? ⟨wr.heap.size, 1, none⟩ = some (.string (bstr c.col)) ∧ w5.cell? ⟨wr.heap.size, 2, none⟩ = some (.int .u64 c.ver) ∧ w5.cell? ⟨wr.heap.size, 3, none⟩ = some (.bool c.gone) ∧ w5.cell? ⟨wr.heap.size, 4, none⟩ = some (.string (bstr c.val)) := ⟨(mcells x5).1 0, (mcells x5).1 1, (mcells x5).1 2, (mcells x5).1 3, (mcells x5).1 4⟩
        go_wp2_with fail
        refine hput.mono ?_
        rintro e w6 ⟨rfl, hM6, hk6⟩
        rw [← HTK.out] at hM6
        have hk7 := hk5.trans hk6 (fun j h => .inl h)
        clear d0 d1 d2 d3 d4 x5 hput hk5 hk6
        go_wp2
        go_roundw
        case rel => exact ⟨i + 1, by go_num, HLT.out, hM6, hk7⟩
        case measure => have := HLT.out; simp [intOf]; omega
      · have hiz : ¬ (i : Int) < (ec.length : Int) := by omega
        have hie : i = ec.length := by omega
        subst hie
        rw [List.take_length] at hM
        have hM9 := hM.mono (n' := n + 2) (by omega)
        have hRr := hRP.kept hk3 (by omega)
        have hyr := hyN.kept hk3 (by omega)
        obtain ⟨q0, q1, q2, q3, q4⟩ := hyr.facts
        obtain ⟨z0, z1, z2, z3, z4⟩ := hRr.facts
        have fz := hyr.frz
        have HR : Hid _ := hyr.set er
        have hk9 := ((((((hkw.trans hk3 (fun j h => .inl h)).setCell (b := w.heap.size + 1) (o := 0) (.int .i64 er.err) (.inr (Nat.le_succ _))).setCell (b := w.heap.size + 1) (o := 1) (.bool er.found) (.inr (Nat.le_succ _))).setCell (b := w.heap.size + 1) (o := 2) (.string (bstr er.row)) (.inr (Nat.le_succ _))).setCell (b := w.heap.size + 1) (o := 3) (.string (bstr er.val)) (.inr (Nat.le_succ _))).setCell (b := w.heap.size + 1) (o := 4) (.int .u64 er.ver) (.inr (Nat.le_succ _)))
        have hgl := hml.1
        have hmm := hml.2
        have hs5 : ∀ j, j ≠ w.heap.size + 1 → (((((wr.setCell ⟨w.heap.size + 1, 0, none⟩ (.int .i64 er.err)).setCell ⟨w.heap.size + 1, 1, none⟩ (.bool er.found)).setCell ⟨w.heap.size + 1, 2, none⟩ (.string (bstr er.row))).setCell ⟨w.heap.size + 1, 3, none⟩ (.string (bstr er.val))).setCell ⟨w.heap.size + 1, 4, none⟩ (.int .u64 er.ver)).heap[j]? = wr.heap[j]? := fun j hj => (heap_set_other _ hj).trans ((heap_set_other _ hj).trans ((heap_set_other _ hj).trans ((heap_set_other _ hj).trans (heap_set_other _ hj))))
        have HM : Hid _ := hM9.kept (hs5 g (by omega)) (hs5 m (by omega))
        have HK : Hid _ := hk9
        clear hk9 hs5 hM hM9
        go_wp2
        exact ret_rz Try.results10 rfl HR.out rfl ⟨rfl, HM.out, HK.out⟩

end Go.Proofs.Ytlkikfkchgmmhaa
