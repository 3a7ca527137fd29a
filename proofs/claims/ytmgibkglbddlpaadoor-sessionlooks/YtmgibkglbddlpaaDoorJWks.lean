/-
  The laws' works; what is put is looked up.
-/
import Derived.Test.YtmgibkglbddlpaaDoorJLok
import Derived.Test.YtmgibkglbddlpaaDoorJPut
namespace Go.Proofs.YtmgibkglbddlpaaDoor
open Go.RowKit Go.BigFrame
attribute [local go_sem] size_bstr toList_bstr append_bstr

/-- A session's bytes are read as they were laid. -/
theorem rd_ss {q : Nat} {r : Rz} (h1 : 1 ≤ q) (h2 : q ≤ 1099511627776) (h : okR r = true) : rdOk (ssL q r) = true ∧ rdN (ssL q r) = q ∧ rdR (ssL q r) = r ∧ rdE (ssL q r) = 0 ∧ ssL q r ≠ [] := by
  obtain ⟨a1, a2, a3⟩ := okN_num (x := q) (r := layR r) (by omega)
  have hd := decO_lay h []
  obtain ⟨_, _, hr⟩ := dec_lay h []
  rw [List.append_nil] at hd hr
  have hk : rdOk (ssL q r) = true := by
    unfold rdOk ssL
    rw [a2, a3, hd]
    simp
    omega
  have hne : ssL q r ≠ [] := by
    intro e
    have := congrArg List.length e
    have hp := Lib.uvarint_pos q
    unfold ssL at this
    simp only [List.length_append, List.length_nil] at this
    omega
  refine ⟨hk, ?_, ?_, ?_, hne⟩
  · unfold rdN
    rw [hk, if_pos rfl]
    exact a2
  · unfold rdR
    rw [hk, if_pos rfl]
    unfold ssL
    rw [a3, hr]
  · unfold rdE
    rw [if_neg hne, hk]
    rfl
/-- Bytes that are no session's. -/
theorem rd_more {q : Nat} {r : Rz} (h2 : q ≤ 1099511627776) (h : okR r = true) (b : UInt8) : rdE (ssL q r ++ [b]) = 4 := by
  obtain ⟨a1, a2, a3⟩ := okN_num (x := q) (r := layR r ++ [b]) (by omega)
  have e : ssL q r ++ [b] = Lib.uvarint q ++ (layR r ++ [b]) := by unfold ssL; rw [List.append_assoc]
  have hk : rdOk (ssL q r ++ [b]) = false := by
    unfold rdOk
    rw [e, a3, decO_more h, Bool.and_false]
  unfold rdE
  rw [if_neg (by simp), hk]
  rfl
theorem rd_cut {q : Nat} {r : Rz} (h2 : q ≤ 1099511627776) (h : okR r = true) : rdE (ssL q r).dropLast = 4 := by
  obtain ⟨a1, a2, a3⟩ := okN_num (x := q) (r := (layR r).dropLast) (by omega)
  have hne : layR r ≠ [] := by
    intro e
    have := (layR_len h).2
    rw [e] at this
    simp at this
  have e : (ssL q r).dropLast = Lib.uvarint q ++ (layR r).dropLast := by unfold ssL; rw [List.dropLast_append_of_ne_nil hne]
  have hk : rdOk (ssL q r).dropLast = false := by
    unfold rdOk
    rw [e, a3, decO_cut h, Bool.and_false]
  unfold rdE
  rw [if_neg ?_, hk]
  · rfl
  · rw [e]
    intro h0
    have := congrArg List.length h0
    have hp := Lib.uvarint_pos q
    simp only [List.length_append, List.length_nil] at this
    omega
theorem pt_small {q : Nat} {r : Rz} (h1 : 1 ≤ q) (h2 : q ≤ 1099511627776) (h : okR r = true) (hl : r.row.length + r.val.length ≤ 60000) : ptL q r = ssL q r ∧ ptE q r = 0 ∧ (ssL q r).length ≤ 65536 := by
  have hu := Lib.uvarint_length64 (x := q) (by omega)
  have hr := (layR_len h).1
  have hle : (ssL q r).length ≤ 65536 := by
    unfold ssL
    rw [List.length_append]
    omega
  have hk : ptK q r = 2 := by unfold ptK; rw [if_pos ⟨h1, h2⟩, if_pos h, if_pos hle]
  refine ⟨?_, ?_, hle⟩
  · unfold ptL
    rw [hk, if_pos rfl]
  · unfold ptE
    rw [hk]
    rfl

theorem ss5 : ssL 5 rz0 = [5, 0, 0, 0, 0, 0] := by
  unfold ssL layR txt bol
  rw [uvarint_small (by decide), uvarint_small (by decide), uvarint_small (by decide), uvarint_small (by decide)]
  rfl

set_option maxHeartbeats 4000000 in
set_option maxRecDepth 100000 in
theorem works17_any (w : World) :
    Calls Tryd.prog 9 #[] w fun e w' => e = .returned (.bool true) ∧ Below w.heap.size w w' := by
  have hp := jPut_any 5 rz0
  have hl := jLook_any (ssL 5 rz0) 5
  obtain ⟨p1, p2, p3⟩ := pt_small (q := 5) (r := rz0) (by decide) (by decide) (by decide) (by decide)
  obtain ⟨r1, r2, r3, r4, r5⟩ := rd_ss (q := 5) (r := rz0) (by decide) (by decide) (by decide)
  have hk : lkK (ssL 5 rz0) 5 = 2 := by unfold lkK; rw [if_pos (by decide), if_pos r4, if_pos r2.symm]
  rw [p1, p2] at hp
  rw [show lkR (ssL 5 rz0) 5 = rz0 from by unfold lkR; rw [hk, if_pos rfl, r3], show lkA (ssL 5 rz0) 5 = true from by unfold lkA; rw [hk]; rfl, show lkE (ssL 5 rz0) 5 = 0 from by unfold lkE; rw [hk]; rfl] at hl
  clear p1 p2 r1 r2 r3 r4 r5 hk
  rw [ss5] at hp hl p3
  have hq := rz_eql
  have hg := rz_guard
  have hself : eqR rz0 rz0 = true := eqR_iff.2 rfl
  go_enter Tryd.func9, Tryd.ntmps9
  go_wp2_with fail
  refine (hp _ (by decide)).mono ?_
  rintro e w1 ⟨rfl, hb1⟩
  go_wp2_with fail
  refine (hl _ p3).mono ?_
  rintro e w2 ⟨rfl, hb2⟩
  have hB2 := bel_call hb2 (bel_call hb1 (Below.refl _ _))
  clear hp hl
  go_wp2
  go_ret
  exact ⟨rfl, bel_alloc hB2⟩

end Go.Proofs.YtmgibkglbddlpaaDoor
