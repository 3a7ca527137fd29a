/-
  The contract of shorten.
-/
import Derived.Test.YtpldfakfgngaaaaGreatDoorWShort
namespace Go.Proofs.YtpldfakfgngaaaaGreatDoor
open Go.RowKit
attribute [local go_sem] size_bstr toList_bstr append_bstr

set_option maxRecDepth 100000 in
theorem slice_str (W : World) : (sizeOf (Tryz.prog.elem 62)).run Tryz.prog W = .ok 1 W := by
  obtain ⟨i0, hi, hz0, hz1, hz2⟩ := info_parts Tryz.infoS
  have hel : Tryz.prog.elem 62 = 9 := by kernel_rfl
  rw [hel]
  simp [Go.sizeOf, typeInfo, hi, hz1]

set_option maxRecDepth 100000 in
theorem slice_head (g off len cap n : Nat) (hn : n ≤ cap) (W : World) : (Instr.slice 62 (.slice (some ⟨g, off, none⟩) len cap) none (some (.int .u64 (n : Int))) (some (.int .u64 (n : Int)))).run Tryz.prog W = .ok (.slice (some ⟨g, off, none⟩) n n) W := by
  rw [run_slice_hm (P := Tryz.prog) W 62 (some ⟨g, off, none⟩) len cap Tryz.underlying62 .u64 .u64 (n : Int) (n : Int) (by omega) (by omega) (by omega), slice_str]
  show Result.ok (Value.slice (if n = 0 then some ⟨g, off, none⟩ else some ⟨g, off + 0 * 1, none⟩) (n - 0) (n - 0)) W = _
  simp

set_option maxRecDepth 100000 in
theorem slice_rest (g off len cap n : Nat) (hn : n < cap) (hl : n ≤ len) (W : World) : (Instr.slice 62 (.slice (some ⟨g, off, none⟩) len cap) (some (.int .u64 (n : Int))) none none).run Tryz.prog W = .ok (.slice (some ⟨g, off + n, none⟩) (len - n) (cap - n)) W := by
  rw [run_slice_l (P := Tryz.prog) W 62 (some ⟨g, off, none⟩) len cap Tryz.underlying62 .u64 (n : Int) (by omega) (by omega), slice_str, Int.toNat_natCast]
  have hne : ¬ cap = n := by omega
  simp [Result.andThen, sliced, hne, Addr.add_lit]

set_option maxRecDepth 100000 in
theorem zero_str (W : World) : (zeroValue 9).run Tryz.prog W = .ok (.string ⟨#[]⟩) W := by
  obtain ⟨i0, hi, hz0, hz1, hz2⟩ := info_parts Tryz.infoS
  simp [zeroValue, typeInfo, hi, hz0]

set_option maxHeartbeats 1000000 in
set_option maxRecDepth 100000 in
theorem shorten_any {B : Nat} {k : Wk} {F : List Wf} {v : Value} {f : Wf} {m fe N : Nat} {L : List Fl} (n c : Nat) (w : World) (h : Lo B w m L fe N k (F ++ [f]) v) (hc : c = f.num + n) (hc64 : c < 18446744073709551616) (hn : n < f.recs.length) (hsm : ∀ r ∈ f.recs, r.length ≤ 1048576) (ht : totS f.recs ≤ 1099511627776) (hp : k.p.length ≤ 48)
    (hfit : fe + tot L ≤ 9223372036854775807) (hroom : tot L + totS f.recs ≤ 140737488355328) (hN : N + 4 < maxLen) (hok : ¬ fe + tot L - totP (wtoP (sp k.p) (Pu L)) < totS (f.recs.take n)) :
    Calls Tryz.prog 60 #[.pointer (some ⟨k.g, 0, none⟩), .pointer (some ⟨f.g, 0, none⟩), .int .u64 (c : Int)] w fun e w' => e = .returned (.int .i64 0) ∧ ∃ L' fe' f', Lo B w' m L' fe' (N + 4) k (F ++ [f']) v ∧ pw f' = (f.num, f.recs.take n) ∧ Ks w w' m L L' k (F ++ [f]) (F ++ [f']) v v ∧ Pu L' = wthP (nm k.p f.num, fr (f.recs.take n), totS (f.recs.take n)) (wtoP (sp k.p) (Pu L)) ∧ fe' + tot L' = fe + tot L := by
  have hF := h.wm.fl f (by simp)
  obtain ⟨c0, c1, -, c3⟩ := cells4 hF.blk
  obtain ⟨g, off, cap, hv, hcell⟩ := hF.row.cell (i := n) (by rw [strV_len]; exact hn)
  rw [strV_len] at hv
  rw [hv] at c3
  have hcap : f.recs.length ≤ cap := by
    have := hF.row
    rw [hv] at this
    rcases this with ⟨e, _⟩ | ⟨g', off', cap', cur, e, _, a1, _⟩
    · cases e
    · rw [strV_len] at e a1
      cases e
      exact a1
  have hs1 := slice_head g off f.recs.length cap n (by omega)
  have hs2 := slice_rest g off f.recs.length cap n (by omega) (by omega)
  have e1 : (c : Int) - (f.num : Int) = (n : Int) := by omega
  have e2 : (n : Int) % 18446744073709551616 = (n : Int) := by omega
  have hlen : (f.recs.take n).length = n := by rw [List.length_take]; omega
  have htk : totS (f.recs.take n) ≤ totS f.recs := by
    conv => rhs; rw [← List.take_append_drop n f.recs]
    rw [tot_append]
    omega
  have HC : Hid _ := hc
  clear hc hcell
  have hRl : Rw w 9 (.slice (some ⟨g, off, none⟩) n n) (strV (f.recs.take n)) := by
    have := hF.row
    rw [hv] at this
    rcases this with ⟨e, _⟩ | ⟨g', off', cap', cur, e, a0, a1, a2, a3⟩
    · cases e
    · rw [strV_len] at e a1
      cases e
      refine Or.inr ⟨g, off, n, cur, by rw [strV_len, hlen], a0, by rw [strV_len, hlen]; exact Nat.le_refl _, by omega, fun i hi => ?_⟩
      rw [strV_len, hlen] at hi
      rw [a3 i (by rw [strV_len]; omega)]
      simp [strV]
  have hfo := framesOf_any (B := B) (some ⟨g, off, none⟩) n (f.recs.take n) w (by rw [hlen]; exact hRl) h.vw (fun r hr => hsm r (List.mem_of_mem_take hr)) (by omega)
  rw [hlen] at hfo
  have hfl := fr_length (f.recs.take n)
  go_enter Tryz.func60, Tryz.ntmps60
  go_wp2_with fail
  refine hfo.mono ?_
  rintro e w2 ⟨rfl, hb2⟩
  have h2 := h.below hb2
  have hF2 := h2.wm.fl f (by simp)
  have d3 : w2.cell? ⟨k.g, 3, none⟩ = some (.func (.func 73) #[] #[.pointer (some ⟨k.ca, 0, none⟩), .pointer (some ⟨k.cb, 0, none⟩)]) := (cells5 h2.wm.blk).2.2.2.1
  have d0 := (cells4 hF2.blk).1
  have hBd : Below w2.heap.size w2 w2.drew := below_drewN (Below.refl _ _) 1
  have h2d := h2.below hBd
  have han := anew_any (sp k.p) (nm k.p f.num) (fr (f.recs.take n)) w2.drew h2d.dk h2d.wm.bx (sp_ok hp) (nm_ok hp f.num) hfit (by omega) hN
  have hz : anA (fe + tot L) (sp k.p) (nm k.p f.num) (fr (f.recs.take n)) (Pu L) = (wthP (nm k.p f.num, fr (f.recs.take n), (fr (f.recs.take n)).length) (wtoP (sp k.p) (Pu L)), 0) := by unfold anA; rw [if_neg (by rw [hfl]; exact hok)]
  rw [hz, hfl] at han
  clear hz c0 c1 c3 hfo hRl
  go_wp2_with fail
  go_region_held3 (fun w' => w'.cell? ⟨k.g, 3, none⟩ = some (.func (.func 73) #[] #[.pointer (some ⟨k.ca, 0, none⟩), .pointer (some ⟨k.cb, 0, none⟩)]) ∧ w'.cell? ⟨f.g, 0, none⟩ = some (.string (bstr (nm k.p f.num)))) (first | with_reducible exact ⟨d3, d0⟩ | with_reducible exact ⟨x3, x0⟩ | go_keep)
    ((go_at_call 73; refine han.mono ?_; rintro e w5 ⟨rfl, L5, fe5, S5, P5, R5, T5⟩; have h5 := h2d.disk S5; have hF5 := h5.wm.fl f (by simp); have x3 : w5.cell? ⟨k.g, 3, none⟩ = some (.func (.func 73) #[] #[.pointer (some ⟨k.ca, 0, none⟩), .pointer (some ⟨k.cb, 0, none⟩)]) := (cells5 h5.wm.blk).2.2.2.1; have x0 := (cells4 hF5.blk).1))
  clear x3 x0 d3 d0 han
  have c3 := (cells4 hF5.blk).2.2.2
  rw [hv] at c3
  have hcl : ∀ ty, (Builtin.clear_ #[62] ty #[.slice (some ⟨g, off + n, none⟩) (f.recs.length - n) (cap - n)]).run Tryz.prog w5 = .ok (.tuple #[]) (w5.setCells g (off + n) (List.replicate (f.recs.length - n) (.string ⟨#[]⟩))) := by
    intro ty
    have hr := hF5.row
    rw [hv] at hr
    rcases hr with ⟨e, _⟩ | ⟨g', off', cap', cur, e, a0, a1, a2, a3⟩
    · cases e
    · rw [strV_len] at e a1
      cases e
      exact Lib.run_clear_slice w5 62 9 ty (.string ⟨#[]⟩) Tryz.underlying62 zero_str rfl rfl g (off + n) (f.recs.length - n) (cap - n) (by omega)
        (fun j hj => by rw [cell_of_row w5 g _ cur _ _ a0, Array.getElem?_eq_getElem (by omega)]; rfl) (fun j _ => (cells_block a0).2 _)
  obtain ⟨cur0, hc0⟩ := hF5.row.blk (i := g) (by rw [hv]; rfl)
  have hne : g ≠ f.g := fun e => by
    rw [e, hF5.blk] at hc0
    cases hc0
  have hset := setCells_rest (b := g) (List.replicate (f.recs.length - n) (.string ⟨#[]⟩)) (off + n) w5
  have blk6 := (hset.2.2.2.2 f.g (fun e => hne e.symm)).trans hF5.blk
  have k3 := (cells4 blk6).2.2.2
  have k2 := (cells4 blk6).2.2.1
  have z3 := (cells_block blk6).2 3
  have z2 := (cells_block blk6).2 2
  go_wp2
  go_ret
  obtain ⟨hW7, hK7⟩ := short_end (xs := List.replicate (f.recs.length - n) (.string ⟨#[]⟩)) hF5 hv (n := n) (by omega) rfl rfl
  obtain ⟨hL7, hKs⟩ := h5.turn hW7 rfl hK7 (Or.inr (Or.inl (by rw [hv]; rfl)))
  exact ⟨rfl, L5, fe5, _, hL7, rfl, ((Ks.of_below L k _ v hb2).trans ((Ks.of_below L k _ v hBd).trans (Ks.of_disk _ v S5))).trans hKs, P5, R5⟩

end Go.Proofs.YtpldfakfgngaaaaGreatDoor
