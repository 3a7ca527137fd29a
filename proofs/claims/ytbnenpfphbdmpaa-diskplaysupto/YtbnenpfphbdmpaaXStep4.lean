/-
  A step of the law: Crash.
-/
import Derived.Test.YtbnenpfphbdmpaaXStep3
namespace Go.Proofs.Ytbnenpfphbdmpaa
open Go.RowKit
attribute [local go_sem] size_bstr toList_bstr append_bstr

theorem Try.infoInt : (Try.prog.info? 3).map (fun i => (i.zero, i.size, i.bytes)) = some (some (.int .i64 0), 1, 8) := by kernel_rfl
abbrev iCells (ks : List Int) : List Value := ks.map (fun k => Value.int .i64 k)
/-- A row of numbers appended to none. -/
theorem wpList_append_i {w : World} {ops : Array Oper} {rest : List Oper} {o : Oper} {a : Act} {Q : Exit → Act → World → Prop} (hgd : o.guard = none) (s x : Operand)
    (ho : o.op = .call { callee := .builtin .append, args := #[s, x], argTypes := #[31, 31] })
    (hs : a.eval s = .slice none 0 0) (q : Option Addr) (cap : Nat) (ks : List Int) (hx : a.eval x = .slice q ks.length cap) (hA : IAt w w.heap.size q ks) (hbytes : ks.length ≤ 1048576)
    (h : ∀ v' w', w'.ownsRow w.heap.size 3 1 v' ks.length (iCells ks) → Below w.heap.size w w' → wpList Try.prog ops Q rest (a.put o.dst v') w') : wpList Try.prog ops Q (o :: rest) a w := by
  obtain ⟨i0, hi, hz0, hz1, hz2⟩ := info_parts Try.infoInt
  have hown : w.ownsRow w.heap.size 3 1 (.slice none 0 0) 0 [] := World.ownsRow_nil _ _ _ _
  cases q with
  | none =>
    have h0 : ks = [] := by
      by_cases h : 0 < ks.length
      · obtain ⟨_, _, e, _⟩ := hA h
        cases e
      · exact List.eq_nil_of_length_eq_zero (by omega)
    subst h0
    have hrun : (Builtin.append_ #[31, 31] o.type #[.slice none 0 0, .slice none 0 cap]).run Try.prog w = .ok (.slice none 0 0) w := by simp [Builtin.append_, run_underlying Try.underlying31, Go.sizeOf, typeInfo, hi, Builtin.lenOf, Builtin.firstCells]
    refine wpList_plain hgd fun K hK => ?_
    unfold Oper.wp
    have hx' : a.eval x = .slice none 0 cap := hx
    simp [execOp, ho, resolve, invoke, builtin, hs, hx', hrun, Result.andThen]
    exact hK _ _ (h _ _ hown (Below.refl _ _))
  | some ad =>
    have hnews : ∀ j u, (iCells ks)[j]? = some u → w.cell? (ad.add j) = some u := by
      intro j u hj
      have hl : j < ks.length := by
        by_cases h : j < ks.length
        · exact h
        · rw [List.getElem?_eq_none (by simp; omega)] at hj; cases hj
      obtain ⟨b, off, e, _, hR⟩ := hA (by omega)
      cases e
      rw [Addr.add_lit]
      rw [List.getElem?_map, List.getElem?_eq_getElem hl] at hj
      simp only [Option.map_some, Option.some.injEq] at hj
      rw [← hj]
      exact hR j hl
    refine wpList_append_own w hgd s x 31 ho w.heap.size 3 i0 (.int .i64 0) 1 8 Try.underlying31 hi hz0 hz1 hz2 rfl (by decide) _ 0 [] hs hown ad ks.length cap (iCells ks) hx (by simp) hnews (by intro v hv; obtain ⟨k, _, rfl⟩ := List.mem_map.1 hv; rfl) (by unfold maxLen; omega) (by omega) (Nat.le_refl _) ?_
    intro v' w' hown' hgrow _
    refine h v' w' ?_ ((Below.refl _ _).grown hgrow (Nat.le_refl _) (fun k hk => (hown.lt k hk).1))
    simpa using hown'

/-- What Crash is handed: a row of the call's own. -/
theorem own_ints {w : World} {Bs : Nat} {v : Value} {ks : List Int} (h : w.ownsRow Bs 3 1 v ks.length (iCells ks)) : ∃ q cap, v = .slice q ks.length cap ∧ ∀ {d m fr N : Nat} {L : List Fl}, Dk w d m L fr N → KArg w q ks (Ft d m L) := by
  rcases h.2 with ⟨rfl, h0⟩ | ⟨g, cap, cur, rfl, _, hg, _, _, _, _⟩
  · exact ⟨none, 0, by rw [h0], fun _ h1 => by omega⟩
  · refine ⟨_, cap, rfl, fun hD _ => ⟨g, 0, rfl, (Array.getElem?_eq_some_iff.1 hg).1, hD.other hg ⟨by decide, by decide, by decide⟩, fun i hi => ?_⟩⟩
    have := h.cells (g := g) rfl i (.int .i64 ks[i]) (by simp [hi])
    rw [Addr.add_lit] at this
    exact this
theorem IAt.on {w0 W : World} {B : Nat} {q : Option Addr} {ks : List Int} (h : IAt w0 B q ks) (hb : Below B w0 W) (hB : B ≤ w0.heap.size) : IAt W W.heap.size q ks := fun h0 => by
  obtain ⟨b, off, h1, h2, h3⟩ := h h0
  exact ⟨b, off, h1, Nat.lt_of_lt_of_le h2 (Nat.le_trans hB hb.size), fun i hi => (World.cell?_of_block (a := ⟨b, off + i, none⟩) (hb.block b h2)).trans (h3 i hi)⟩

theorem crO_len (k : Int) (f : F3) : (crO k f).2.1.length ≤ f.2.1.length := by
  show (f.2.1.take _).length ≤ _
  rw [List.length_take]
  omega
theorem crP_tot (ks : List Int) (P : List F3) : totP (crP ks P) ≤ totP P := by
  unfold crP
  generalize kAt ks = g
  induction P generalizing g with
  | nil => exact Nat.le_refl _
  | cons f r ih =>
    rw [List.mapIdx_cons]
    have h1 := crO_len (g 0) f
    have h2 := ih (fun j => g (j + 1))
    unfold totP at h2 ⊢
    simp only [List.map_cons, List.sum_cons]
    omega

set_option maxHeartbeats 4000000 in
set_option maxRecDepth 100000 in
theorem step_crash {B : Nat} {w0 w : World} {d m : Nat} {L : List Fl} {fr N R : Nat} {q : Option Addr} {cap : Nat} (k : Int) (nm dt : List UInt8) (kq : Option Addr) (ks : List Int) (kc : Nat) (hS : St B w0 w d m L fr N R q cap) (hk : (k.tmod 7 + 7).tmod 7 = 5) (hk1 : -7 < k.tmod 7) (hk2 : k.tmod 7 < 7)
    (hI : IAt w0 B kq ks) (hkl : ks.length ≤ 1048576) (hL : tot L + dt.length ≤ 1048576) (hR : R ≤ 9223372036854775807) (hN : N ≤ 1000) :
    Calls Try.prog 10 #[.pointer (some ⟨d, 0, none⟩), rdV R q (Pu L).length cap, .agg #[.int .i64 k, .string (bstr nm), .string (bstr dt), .slice kq ks.length kc]] w fun e w' => StepPost B w0 w d m L N R (tot L + dt.length) e w' := by
  have hsz := Nat.le_trans hS.dw.hB hS.dw.bel.size
  obtain ⟨hb0, hC⟩ := three_blocks w R q (Pu L).length cap k nm dt kq ks.length kc
  have hPl : (Pu L).length ≤ 1000000 := by have := hS.dw.dk.len; simp only [Pu, List.length_map]; omega
  have hfit : fr + tot L ≤ 9223372036854775807 := by rw [hS.room]; exact hR
  have hsy : ∀ f ∈ Pu L, f.2.2 ≤ f.2.1.length ∧ f.2.1.length ≤ 140737488355328 := fun f hf => by
    obtain ⟨g, hg, rfl⟩ := List.mem_map.1 hf
    have h1 := tot_mem hg
    exact ⟨(hS.dw.dk.fl g hg).syn, Nat.le_trans h1 (by omega)⟩
  have hdoc := fun (W : World) (hF : FArg W q cap (Pu L)) (hI : IAt W W.heap.size kq ks) => RCrash_any R cap kc q kq (Pu L) ks W hF hPl hsy hI
  have hlen := crP_len ks (Pu L)
  have hD0 := hS.dw.on hb0
  have hF0 := hS.fa.below hb0
  have hroom := hS.room
  generalize hcp : crP ks (Pu L) = P' at *
  have HCP : Hid _ := hcp
  clear hcp hsy hlen
  go_enter Try.func10, Try.ntmps10
  have x3 := (cells_block hC.b1).1 3
  go_wp2_with (at_builtin; refine wpList_append_i rfl _ _ rfl rfl kq kc ks rfl (hI.on hD0.bel hD0.hB) hkl ?_; intro v1 w1 hv1 hb1)
  generalize ((w.alloc (.cells #[.int .i64 (R : Int), .slice q (Pu L).length cap] 27)).alloc (.cells #[.int .i64 k, .string (bstr nm), .string (bstr dt), .slice kq ks.length kc] 33)).alloc (.cells #[.int .i64 0, .slice none 0 0] 27) = W at *
  obtain ⟨vq, vc, rfl, hKA⟩ := own_ints hv1
  have hD1 := hD0.on hb1
  have hbA := b_step hb0 hb1 (Nat.le_refl _)
  have hC1 := hC.below hb1
  have hF1 := hF0.below hb1
  have hcr := Crash_any vq vc ks w1 hD1.dk (by omega) (hKA hD1.dk) hfit (by omega)
  clear hv1 hKA hD0 hC hF0 hb1 x3
  refine hcr.mono ?_
  rintro e w2 ⟨rfl, L', fr', hCr, hs2, hSt⟩
  have hPu := tie_crash hCr
  have hC2 := hC1.kp hD1.dk hSt.kp
  have hF2 := hF1.kp hD1.dk hSt.kp
  have hD2 := hD1.step hSt
  have S2 := hSt.kp
  have hle : tot L' ≤ tot L + dt.length := by
    have h1 : tot L' = totP (crP ks (Pu L)) := by rw [hPu, totP_Pu]
    have h2 : totP (crP ks (Pu L)) ≤ totP (Pu L) := crP_tot ks (Pu L)
    rw [totP_Pu] at h2
    omega
  rw [HCP.out] at hPu
  have c0 := (cells_block hC2.b0).1 0
  have c1 := (cells_block hC2.b0).1 1
  have x3 := (cells_block hC2.b1).1 3
  have hcall := hdoc w2.drew hF2.drew (hI.on hD2.bel.drew hD2.hB)
  clear hcr hCr hSt hD1 hC1 hF1 hdoc hF2
  go_wp2_with fail
  go_region_held3 (fun w' => w'.cell? ⟨w.heap.size, 0, none⟩ = some (.int .i64 (R : Int)) ∧ w'.cell? ⟨w.heap.size, 1, none⟩ = some (.slice q (Pu L).length cap) ∧ w'.cell? ⟨w.heap.size + 1, 3, none⟩ = some (.slice kq ks.length kc)) (first | with_reducible exact ⟨c0, c1, x3⟩ | with_reducible exact ⟨e0, e1, e2⟩ | go_keep)
    ((go_at_call 31; refine hcall.mono ?_; rintro e w3 ⟨q', cap', rfl, hF3, hb3⟩; have hb3' := (show Below w2.heap.size w2 w2.drew from (Below.refl _ _).drew).trans hb3; have hC3 := hC2.below hb3'; have hD3 := hD2.on hb3'; clear c0 c1 x3; have c0 := (cells_block hC3.b0).1 0; have c1 := (cells_block hC3.b0).1 1; have x3 := (cells_block hC3.b1).1 3; have t0 := (cells_block hC3.b2).1 0; have t1 := (cells_block hC3.b2).1 1; have u0 := (cells_block hC3.b2).2 0; have u1 := (cells_block hC3.b2).2 1; have HF : Hid _ := (show St B w0 w3 d m L' fr' (N + 1) R q' cap' from ⟨⟨hD3.dk.mono (Nat.le_succ _), hD3.ge, hD3.bel, hD3.hB⟩, by rw [← hPu]; exact hF3, by rw [hs2]; exact hroom⟩).put hC3.b2 (by omega) (.int .i64 (R : Int)) (.slice q' P'.length cap'); have hz := cells_block (set2_block hC3.b2 (.int .i64 (R : Int)) (.slice q' P'.length cap')); have r0 := hz.1 0; have r1 := hz.1 1; have KK : Hid _ := kp_put (g := w.heap.size + 1 + 1) hbA (S2.trans (Kp.of_below (Ft d m L) hb3') (fun i h => Or.inl h)) (by omega) (.int .i64 (R : Int)) (.slice q' P'.length cap'); have HP : Hid _ := hPu; have HL : Hid _ := hle; clear hPu hle hs2 hz; have e0 : ((w3.setCell ⟨w.heap.size + 1 + 1, 0, none⟩ (.int .i64 (R : Int))).setCell ⟨w.heap.size + 1 + 1, 1, none⟩ (.slice q' P'.length cap')).cell? ⟨w.heap.size, 0, none⟩ = some (.int .i64 (R : Int)) := (by rw [set_far _ (by omega), set_far _ (by omega)]; exact c0); have e1 : ((w3.setCell ⟨w.heap.size + 1 + 1, 0, none⟩ (.int .i64 (R : Int))).setCell ⟨w.heap.size + 1 + 1, 1, none⟩ (.slice q' P'.length cap')).cell? ⟨w.heap.size, 1, none⟩ = some (.slice q (Pu L).length cap) := (by rw [set_far _ (by omega), set_far _ (by omega)]; exact c1); have e2 : ((w3.setCell ⟨w.heap.size + 1 + 1, 0, none⟩ (.int .i64 (R : Int))).setCell ⟨w.heap.size + 1 + 1, 1, none⟩ (.slice q' P'.length cap')).cell? ⟨w.heap.size + 1, 3, none⟩ = some (.slice kq ks.length kc) := (by rw [set_far _ (by omega), set_far _ (by omega)]; exact x3)))
  all_goals
    go_wp2
    refine bodyPost_ret (v := .tuple #[.pointer (some ⟨d, 0, none⟩), rdV R q' P'.length cap', .bool true]) ?_ ?_ ?_
    · simp [results, Try.results10, go_sem, r0, r1]
    · rfl
    · exact ⟨d, m, L', fr', q', cap', by rw [HP.out], HF.out, HL.out, KK.out⟩

end Go.Proofs.Ytbnenpfphbdmpaa
