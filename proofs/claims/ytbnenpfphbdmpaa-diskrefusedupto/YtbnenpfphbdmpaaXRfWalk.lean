/-
  DiskRefused: the walk.
-/
import Derived.Test.YtbnenpfphbdmpaaXRs
import Derived.Deep.QuietTactic
import Derived.BigQuiet
import Derived.Deep.Cut
import Derived.Deep.CutBlock
namespace Go.Proofs.Ytbnenpfphbdmpaa
open Go.RowKit
attribute [local go_sem] size_bstr toList_bstr append_bstr

/-- A block of another kind is written; the disk lies elsewhere. -/
theorem Dw.far {B : Nat} {w0 w w' : World} {d m : Nat} {L : List Fl} {fr N : Nat} (h : Dw B w0 w d m L fr N) {g : Nat} (hg : w.grownBy w' (some g)) (hf : ¬ Ft d m L g) (hB : B ≤ g) : Dw B w0 w' d m L fr N :=
  ⟨h.dk.kept fun i hi => hg.block i (h.dk.lt hi) (fun e => by cases e; exact hf hi), h.ge, b_grown h.bel hg h.hB hB, h.hB⟩

theorem Dk.drewN {w : World} {d m fr N : Nat} {L : List Fl} (h : Dk w d m L fr N) (n : Nat) : Dk (w.drewN n) d m L fr N := h.kept fun _ _ => rfl
theorem Dw.drewN {B : Nat} {w0 w : World} {d m : Nat} {L : List Fl} {fr N : Nat} (h : Dw B w0 w d m L fr N) (n : Nat) : Dw B w0 (w.drewN n) d m L fr N := ⟨h.dk.drewN n, h.ge, ⟨h.bel.os, h.bel.tape, h.bel.output, h.bel.size, h.bel.block⟩, h.hB⟩
/-- A row of texts, cell by cell. -/
theorem srow_cells {w : World} {B : Nat} {v : Value} {ns : List (List UInt8)} (h : w.ownsRow B 9 1 v ns.length (ns.map encStr)) : ∃ q cap, v = .slice q ns.length cap ∧ ∀ k (hk : k < ns.length), ∃ g, q = some ⟨g, 0, none⟩ ∧ w.cell? ⟨g, k, none⟩ = some (.string (bstr ns[k])) := by
  rcases h.2 with ⟨rfl, h0⟩ | ⟨g, cap, cur, rfl, _⟩
  · exact ⟨none, 0, by rw [h0], fun k hk => by omega⟩
  · refine ⟨_, cap, rfl, fun k hk => ⟨g, rfl, ?_⟩⟩
    have := h.cells (g := g) rfl k (encStr ns[k]) (by rw [List.getElem?_map, List.getElem?_eq_getElem hk]; rfl)
    rw [Addr.add_lit, Nat.zero_add] at this
    exact this
theorem nms_len {w : World} {d m fr N : Nat} {L : List Fl} (h : Dk w d m L fr N) {k : Nat} (hk : k < (nms L).length) : (nms L)[k].length ≤ maxLen := by
  have : (nms L)[k] ∈ nms L := List.getElem_mem _
  obtain ⟨f, hf, e⟩ := List.mem_map.1 this
  rw [← e]
  have := (h.fl f hf).nm.2
  unfold maxLen; omega
theorem Pu_sy {L L2 : List Fl} (h : Pu L2 = Pu L) (s : List UInt8) : sy (lk s L2) = sy (lk s L) := by
  have := Pu_lk h s
  cases e : lk s L with
  | none => rw [e] at this; cases e2 : lk s L2 with
    | none => rfl
    | some f => rw [e2] at this; cases this
  | some f => rw [e] at this; cases e2 : lk s L2 with
    | none => rw [e2] at this; cases this
    | some f2 =>
      rw [e2] at this
      simp only [Option.map_some, Option.some.injEq] at this
      have := congrArg (fun x => x.2.2) this
      simp only [pu] at this
      simp only [sy, this]
theorem Pu_by {L L2 : List Fl} (h : Pu L2 = Pu L) (s : List UInt8) : by_ (lk s L2) = by_ (lk s L) := by
  have := Pu_lk h s
  cases e : lk s L with
  | none => rw [e] at this; cases e2 : lk s L2 with
    | none => rfl
    | some f => rw [e2] at this; cases this
  | some f => rw [e] at this; cases e2 : lk s L2 with
    | none => rw [e2] at this; cases this
    | some f2 =>
      rw [e2] at this
      simp only [Option.map_some, Option.some.injEq] at this
      exact congrArg (fun x => x.2.1) this

set_option maxHeartbeats 8000000 in
set_option maxRecDepth 100000 in
theorem refused_any (room : Int) (q : Option Addr) (cap : Nat) (xs : List DoV) (w : World) (hx : DArg w w.heap.size q xs) (hsum : (xs.map (fun x => x.data.length)).sum ≤ 1048576) (hnm : ∀ x ∈ xs, x.name.length ≤ 1048576) (hr : room ≤ 9223372036854775807) :
    Calls Try.prog 5 #[.int .i64 room, .slice q xs.length cap] w fun e w' => e = .returned (.bool true) ∧ Below w.heap.size w w' := by
  go_enter Try.func5, Try.ntmps5
  go_wp2_with fail
  refine (works_any _).mono ?_
  rintro e w1 ⟨rfl, hb1⟩
  go_wp2_with fail
  refine (New_any room _).mono ?_
  rintro e w2 ⟨d, m, rfl, hD, hb, hft⟩
  have h1 : Dw w.heap.size w w2 d m [] room.toNat 0 := Dw.made (Nat.le_refl _) hb1 hD hb hft
  clear hD hb hft hb1
  go_wp2_with fail
  go_loopw [6] (fun s6 wr => ∃ (i : Nat) (L : List Fl) (fr : Nat), s6 = .int .i64 (i : Int) ∧ i ≤ xs.length ∧ i ≤ 100 ∧ Dw w.heap.size w wr d m L fr i ∧ Hid (fr + tot L = room.toNat) ∧ Hid (tot L ≤ dsm xs i)) (fun s6 _ => 100 - (intOf s6).toNat)
  case atStart => exact ⟨0, [], room.toNat, rfl, Nat.zero_le _, by decide, h1, by simp [tot, Hid], Nat.le_refl _⟩
  case round =>
    obtain ⟨i, L, fr, rfl, hi, hi100, hD, htot, hds⟩ := hrel
    clear h1
    by_cases hgo : i < xs.length ∧ i < 100
    · obtain ⟨hlt, hlt1⟩ := hgo
      obtain ⟨bl, ol, rfl, hbl, hcl⟩ := hx (by omega)
      have hA := (hcl i hlt).1.block (hD.bel.block bl hbl)
      obtain ⟨c0, c1, c2, c3⟩ := hA
      have hnl := hnm xs[i] (List.getElem_mem hlt)
      have hdl : dsm xs (i + 1) ≤ 1048576 := Nat.le_trans (dsm_le xs _) hsum
      have hds1 := dsm_succ hlt
      generalize xs[i] = x at *
      go_wp2_with fail
      have hD1 := hD.on ((Below.refl _ _).alloc (Nat.le_refl _) (.cells #[.int .i64 x.kind, .string (bstr x.name), .string (bstr x.data), .slice x.kq x.keep.length x.kc] 33))
      have hgx : (wr.alloc (.cells #[.int .i64 x.kind, .string (bstr x.name), .string (bstr x.data), .slice x.kq x.keep.length x.kc] 33)).heap[wr.heap.size]? = some (.cells #[.int .i64 x.kind, .string (bstr x.name), .string (bstr x.data), .slice x.kq x.keep.length x.kc] 33 (0, 0)) := heap_alloc_new wr _
      generalize wr.alloc (.cells #[.int .i64 x.kind, .string (bstr x.name), .string (bstr x.data), .slice x.kq x.keep.length x.kc] 33) = W at *
      generalize wr.heap.size = gx at *
      have hfit : fr + tot L ≤ 9223372036854775807 := by have := htot.out; omega
      have htl : tot L ≤ 1048576 := by have := hds.out; omega
      have hNN : i ≤ 1099511627776 := by omega
      clear hD c0 c1 c2 c3
      refine (Copy_any _ hD1.dk hNN (by omega)).mono ?_
      rintro e w3 ⟨c, m2, L2, rfl, hPu, hDc, hb3, hfc⟩
      have hD3 := hD1.on hb3
      have hgx3 := (hb3.block gx (Array.getElem?_eq_some_iff.1 hgx).1).trans hgx
      have hfd : ∀ j, Ft c m2 L2 j → ¬ Ft d m L j := fun j hj hd => by
        have h1 := hfc j hj
        have h2 := hD1.dk.lt hd
        omega
      clear hD1 hgx hb3 hfc
      go_wp2_with fail
      refine (Free_any _ hD3.dk).mono ?_
      intro e w4 he
      obtain ⟨rfl, hw4⟩ := he
      rw [hw4]
      clear hw4
      have f0 := (cells_block hgx3).1 0
      have f1 := (cells_block hgx3).1 1
      have f2 := (cells_block hgx3).1 2
      have hlx : x.name.length ≤ maxLen := by unfold maxLen; omega
      have hN2 : i < maxLen := by unfold maxLen; omega
      have hdat : tot L + x.data.length ≤ 140737488355328 := by omega
      have hap := App_r x.name x.data w3 hD3.dk hfit hdat hN2
      have hre := Ren_r x.name x.data w3 hD3.dk hlx hfit hN2
      have hrm := Rem_r x.name x.data.length w3 hD3.dk hlx hfit
      have hsy := Syn_r x.name x.data.length w3 hD3.dk hlx
      go_upto_block 2 with fail
      generalize (wrap64 (x.kind.tmod 4 + 4)).tmod 4 = kk at *
      go_cut [10] from 22 (fun s10 wx => ∃ (y : Int) (L' : List Fl) (fr' : Nat), s10 = .int .i64 y ∧ Rs w3 wx d m L fr i x.data.length y L' fr')
      case first =>
        by_cases k0 : kk = 0
        · subst k0
          go_wp2_with fail
          refine hap.mono ?_
          rintro e w5 ⟨y, L', fr', rfl, hR⟩
          go_wp2
          go_meet
          case rel => exact ⟨y, L', fr', rfl, hR⟩
        · by_cases k1 : kk = 1
          · subst k1
            go_wp2_with fail
            refine hre.mono ?_
            rintro e w5 ⟨y, L', fr', rfl, hR⟩
            go_wp2
            go_meet
            case rel => exact ⟨y, L', fr', rfl, hR⟩
          · by_cases k2 : kk = 2
            · subst k2
              go_wp2_with fail
              refine hrm.mono ?_
              rintro e w5 ⟨y, L', fr', rfl, hR⟩
              go_wp2
              go_meet
              case rel => exact ⟨y, L', fr', rfl, hR⟩
            · have q0 : (kk == 0) = false := by simpa using k0
              have q1 : (kk == 1) = false := by simpa using k1
              have q2 : (kk == 2) = false := by simpa using k2
              go_wp2_with fail
              refine hsy.mono ?_
              rintro e w5 ⟨y, L', fr', rfl, hR⟩
              go_wp2
              go_meet
              case rel => exact ⟨y, L', fr', rfl, hR⟩
      case rest =>
        obtain ⟨y, L', fr', rfl, hR⟩ := hcut
        have hD5 := hD3.step hR.stp
        have hDc5 : Dk wc c m2 L2 fr i := hDc.kept (fun j hj => hR.stp.kp.block j (hDc.lt hj) (hfd j hj))
        have hsum5 : Hid (fr' + tot L' = room.toNat) := hR.sum.trans htot.out
        have hle5 : Hid (tot L' ≤ dsm xs (i + 1)) := by
          have h1 := hR.le
          have h2 := hds.out
          show tot L' ≤ _
          omega
        have href := hR.ref
        have hmx : ¬ (max room 0 < (fr' : Int)) := by have := hsum5.out; omega
        have hfr0 : ¬ ((fr' : Int) < 0) := by omega
        clear hap hre hrm hsy hR hDc hfd f0 f1 f2 hgx3 hD3 hsum hds1 hdl hds htot hfit hdat
        have hfree := Free_any wc hD5.dk
        go_wp2_with fail
        refine hfree.mono ?_
        intro e w6 he
        obtain ⟨rfl, hw6⟩ := he
        rw [hw6]
        clear hw6
        go_wp2_with fail
        refine hfree.mono ?_
        intro e w6 he
        obtain ⟨rfl, hw6⟩ := he
        rw [hw6]
        clear hw6
        by_cases hy : y = 0
        · subst hy
          clear href
          go_wp2
          go_roundw
          case rel => exact ⟨i + 1, L', fr', by simp, hlt, hlt1, hD5, hsum5, hle5⟩
          case measure => simp [intOf]; omega
        · obtain ⟨rfl, rfl⟩ := href hy
          have hy2 : (y == 0) = false := by simpa using hy
          have hns : nms L2 = nms L' := Pu_nms hPu
          have hl1 := List_any [] wc hD5.dk (by omega)
          rw [lst_nil] at hl1
          go_wp2_with fail
          refine hl1.mono ?_
          rintro e w6 ⟨v1, rfl, hr1, hb6⟩
          have hD6 := hD5.on hb6
          have hDc6 := hDc5.below hb6
          clear hb6 hD5 hDc5 hfree hl1
          have hl2 := List_any [] w6 hDc6 hNN
          rw [lst_nil, hns] at hl2
          obtain ⟨q1, cap1, rfl, _⟩ := srow_cells hr1
          go_wp2_with fail
          refine hl2.mono ?_
          rintro e w7 ⟨v2, rfl, hr2, hb7⟩
          have hD7 := hD6.on hb7
          have hDc7 := hDc6.below hb7
          have hr1' := own_below hr1 hb7
          clear hb7 hD6 hDc6 hl2 hr1
          obtain ⟨q1', cap1', e1, hc1⟩ := srow_cells hr1'
          injection e1 with e1 _ _
          subst e1
          obtain ⟨q2, cap2, rfl, hc2⟩ := srow_cells hr2
          have hnl2 : ∀ k (hk : k < (nms L').length), (nms L')[k].length ≤ maxLen := fun k hk => nms_len hD7.dk hk
          have hnsl : (nms L').length ≤ 1000 := by have h1 := hD7.dk.len; simp only [nms, List.length_map]; omega
          clear hr1' hr2
          generalize hnsg : nms L' = ns at *
          have hfree := Free_any w7 hD7.dk
          go_wp2_with fail
          refine hfree.mono ?_
          intro e w8 he
          obtain ⟨rfl, hw8⟩ := he
          rw [hw8]
          clear hw8 hfree
          go_wp2_with fail
          go_loopw [13] (fun s13 wr => ∃ (k : Nat), s13 = .int .i64 (k : Int) ∧ k ≤ ns.length ∧ ∃ n, wr = w7.drewN n) (fun s13 _ => ns.length - (intOf s13).toNat)
          case atStart => exact ⟨0, rfl, Nat.zero_le _, 0, rfl⟩
          case round =>
            obtain ⟨k, rfl, hk, nn, hwr⟩ := hrel
            rw [hwr]
            clear hwr
            have hD8 := hD7.drewN nn
            by_cases hkl : k < ns.length
            · obtain ⟨g1, rfl, cc1⟩ := hc1 k hkl
              obtain ⟨g2, rfl, cc2⟩ := hc2 k hkl
              have cd1 : (w7.drewN nn).cell? ⟨g1, k, none⟩ = some (.string (bstr ns[k])) := cc1
              have cd2 : (w7.drewN nn).cell? ⟨g2, k, none⟩ = some (.string (bstr ns[k])) := cc2
              have hnk := hnl2 k hkl
              have hrd1 := Read_any ns[k] (w7.drewN nn) hD8.dk hnk
              have hrd2 := Read_any ns[k] (w7.drewN nn) (hDc7.drewN nn) hnk
              rw [Pu_by hPu] at hrd2
              have hs1 : ∀ n, Calls Try.prog 15 #[.pointer (some ⟨d, 0, none⟩), .string (bstr ns[k])] ((w7.drewN nn).drewN n) fun e w' => e = .returned (.int .i64 (sy (lk ns[k] L'))) ∧ w' = (w7.drewN nn).drewN n := fun n => Synced_any ns[k] _ (hD8.dk.drewN n) hnk
              have hs2 : ∀ n, Calls Try.prog 15 #[.pointer (some ⟨c, 0, none⟩), .string (bstr ns[k])] ((w7.drewN nn).drewN n) fun e w' => e = .returned (.int .i64 (sy (lk ns[k] L'))) ∧ w' = (w7.drewN nn).drewN n := fun n => by
                have := Synced_any ns[k] _ ((hDc7.drewN nn).drewN n) hnk
                rw [Pu_sy hPu] at this
                exact this
              have hki : (k : Int) < (ns.length : Int) := by omega
              have hdr : ∀ n, ∃ n', (w7.drewN nn).drewN n = w7.drewN n' := fun n => ⟨nn + n, by rw [World.drewN_drewN]⟩
              generalize w7.drewN nn = w8 at *
              generalize sy (lk ns[k] L') = sv at *
              generalize by_ (lk ns[k] L') = bv at *
              generalize fc (lk ns[k] L') = x1 at *
              generalize fc (lk ns[k] L2) = x2 at *
              generalize ns[k] = nk at *
              go_wp2_with fail
              refine hrd1.mono ?_
              intro e w9 he
              obtain ⟨rfl, hw9⟩ := he
              rw [hw9]
              clear hw9
              go_wp2_with fail
              refine hrd2.mono ?_
              intro e w9 he
              obtain ⟨rfl, hw9⟩ := he
              rw [hw9]
              clear hw9
              go_wp2_with fail
              go_quiet (first | (go_at_call 15; with_reducible refine Calls.quiet_of_same (hs1 _)) | (go_at_call 15; with_reducible refine Calls.quiet_of_same (hs2 _)))
              go_wp2
              go_roundw
              case rel => exact ⟨k + 1, by simp, hkl, hdr _⟩
              case measure => simp [intOf]; omega
            · have hkn : ¬ ((k : Int) < (ns.length : Int)) := by omega
              go_wp2
              go_roundw
              case rel => exact ⟨i + 1, L', fr', by simp, hlt, hlt1, hD8, hsum5, hle5⟩
              case measure => simp [intOf]; omega
    · rcases Nat.lt_or_ge i xs.length with hlt | hlt
      · have h100 : ¬ ((i : Int) < 100) := by omega
        go_wp2
        go_ret
        exact ⟨rfl, hD.bel⟩
      · have hge : ¬ ((i : Int) < (xs.length : Int)) := by omega
        go_wp2
        go_ret
        exact ⟨rfl, hD.bel⟩

end Go.Proofs.Ytbnenpfphbdmpaa
