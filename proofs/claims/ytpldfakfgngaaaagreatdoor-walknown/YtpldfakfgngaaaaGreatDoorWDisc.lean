/-
  Files taken off a disk, one by one.
-/
import Derived.Test.YtpldfakfgngaaaaGreatDoorWFind
namespace Go.Proofs.YtpldfakfgngaaaaGreatDoor
open Go.RowKit
attribute [local go_sem] size_bstr toList_bstr append_bstr

theorem Wm.drew {w : World} {k : Wk} {F : List Wf} {v : Value} (h : Wm w k F v) : Wm w.drew k F v := h.kept fun _ _ => rfl
theorem cells3 {w : World} {g : Nat} {a b c : Value} {t : TypeId} (h : w.heap[g]? = some (.cells #[a, b, c] t (0, 0))) :
    w.cell? ⟨g, 0, none⟩ = some a ∧ w.cell? ⟨g, 1, none⟩ = some b ∧ w.cell? ⟨g, 2, none⟩ = some c :=
  ⟨cell_of_row w g 0 _ t _ h, cell_of_row w g 1 _ t _ h, cell_of_row w g 2 _ t _ h⟩
def rmAll (p : List UInt8) (ns : List Nat) (P : List F3) : List F3 := ns.foldl (fun P n => wtoP (nm p n) P) P
theorem rmAll_snoc (p : List UInt8) (ns : List Nat) (n : Nat) (P : List F3) : rmAll p (ns ++ [n]) P = wtoP (nm p n) (rmAll p ns P) := by simp [rmAll]
theorem rmAll_srt (p : List UInt8) : ∀ (ns : List Nat) {P : List F3}, SrtP P → SrtP (rmAll p ns P)
  | [], _, h => h
  | _ :: r, _, h => rmAll_srt p r (wtoP_srt h)
theorem lkP_rmAll_other {p s : List UInt8} : ∀ (ns : List Nat) {P : List F3}, SrtP P → (∀ n ∈ ns, s ≠ nm p n) → lkP s (rmAll p ns P) = lkP s P
  | [], _, _, _ => rfl
  | n :: r, P, h, hs => by
    show lkP s (rmAll p r (wtoP (nm p n) P)) = _
    rw [lkP_rmAll_other r (wtoP_srt h) (fun m hm => hs m (by simp [hm])), lkP_wto_other h (hs n (by simp))]
/-- What is told of files stands in a row. -/
structure Ab (w : World) (p : List UInt8) (g off : Nat) (ns : List Nat) : Prop where
  blk : ∃ cur, w.heap[g]? = some (.cells cur 97 (0, 0))
  at_ : ∀ i (h : i < ns.length), w.cell? ⟨g, off + i * 3, none⟩ = some (.string (bstr (nm p ns[i]))) ∧ w.cell? ⟨g, off + i * 3 + 1, none⟩ = some (.int .u64 (ns[i] : Int)) ∧ w.cell? ⟨g, off + i * 3 + 2, none⟩ = some (.int .i64 0)
theorem Ab.kept {w w' : World} {p : List UInt8} {g off : Nat} {ns : List Nat} (h : Ab w p g off ns) (hb : w'.heap[g]? = w.heap[g]?) : Ab w' p g off ns := by
  obtain ⟨cur, hc⟩ := h.blk
  refine ⟨⟨cur, hb.trans hc⟩, fun i hi => ?_⟩
  have e : ∀ o, w'.cell? ⟨g, o, none⟩ = w.cell? ⟨g, o, none⟩ := fun o => World.cell?_of_block hb
  rw [e, e, e]
  exact h.at_ i hi
theorem Ab.disk {w w' : World} {p : List UInt8} {g off : Nat} {ns : List Nat} (h : Ab w p g off ns) {d m fr N : Nat} {L : List Fl} (hD : Dk w d m L fr N) (hk : Kp w w' (Ft d m L)) : Ab w' p g off ns := by
  obtain ⟨cur, hc⟩ := h.blk
  exact h.kept (hk.block g (Array.getElem?_eq_some_iff.1 hc).1 (hD.other hc (by decide)))
theorem Ab.below {w w' : World} {p : List UInt8} {g off : Nat} {ns : List Nat} (h : Ab w p g off ns) (hb : Below w.heap.size w w') : Ab w' p g off ns := by
  obtain ⟨cur, hc⟩ := h.blk
  exact h.kept (hb.block g (Array.getElem?_eq_some_iff.1 hc).1)
theorem Ab.drop {w : World} {p : List UInt8} {g off : Nat} {ns : List Nat} (h : Ab w p g off ns) (k : Nat) : Ab w p g (off + k * 3) (ns.drop k) := by
  refine ⟨h.blk, fun i hi => ?_⟩
  rw [List.length_drop] at hi
  have := h.at_ (k + i) (by omega)
  have e : off + k * 3 + i * 3 = off + (k + i) * 3 := by omega
  rw [e]
  simpa using this
theorem ab_of_own {w : World} {B : Nat} {p : List UInt8} {q : Option Addr} {cap : Nat} {ns : List Nat} (h : w.ownsRow B 97 3 (.slice q ns.length cap) ns.length (abs3 p ns)) (h0 : 0 < ns.length) : ∃ g, q = some ⟨g, 0, none⟩ ∧ B ≤ g ∧ Ab w p g 0 ns := by
  obtain ⟨g, rfl, hB, hlt, hc⟩ := own_at h h0
  refine ⟨g, rfl, hB, ?_, fun i hi => ?_⟩
  · rcases h.2 with ⟨_, h1⟩ | ⟨g', cap', cur, e, _, hg, _⟩
    · omega
    · cases e; exact ⟨cur, hg⟩
  · have e := abs3_get p ns i hi
    refine ⟨?_, ?_, ?_⟩
    · have := hc (i * 3) (.string (bstr (nm p ns[i]))) (by have := e 0 (by omega); rw [Nat.add_zero] at this; rw [this]; rfl)
      rw [Nat.zero_add]; exact this
    · have := hc (i * 3 + 1) (.int .u64 (ns[i] : Int)) (by rw [e 1 (by omega)]; rfl)
      rw [Nat.zero_add]; exact this
    · have := hc (i * 3 + 2) (.int .i64 0) (by rw [e 2 (by omega)]; rfl)
      rw [Nat.zero_add]; exact this
theorem nm_ok {p : List UInt8} (hp : p.length ≤ 48) (n : Nat) : okN (nm p n) = true := by
  have := nm_length p n
  simp only [okN, Bool.and_eq_true, decide_eq_true_eq]
  omega

set_option maxHeartbeats 400000 in
set_option maxRecDepth 100000 in
theorem discard_any {k : Wk} {F : List Wf} {v : Value} {m fr N : Nat} {L : List Fl} (w : World) (q : Option Addr) (cap : Nat) (ns : List Nat) (hW : Wm w k F v) (hD : Dk w k.d m L fr N) (hA : 0 < ns.length → ∃ g off, q = some ⟨g, off, none⟩ ∧ Ab w k.p g off ns)
    (hns : ns.Pairwise (· < ·)) (hex : ∀ n ∈ ns, okNo n ∧ (lkP (nm k.p n) (Pu L)).isSome = true) (hp : k.p.length ≤ 48) (hfit : fr + tot L ≤ 9223372036854775807) (hn : ns.length ≤ 1000000) :
    Calls Tryz.prog 76 #[.pointer (some ⟨k.g, 0, none⟩), .slice q ns.length cap] w fun e w' => PB w w' e k.d m L fr N ns.length (rmAll k.p ns (Pu L)) 0 0 := by
  have hP := Pu_srt hD.srt
  go_enter Tryz.func76, Tryz.ntmps76
  go_wp2_with fail
  go_loopw [10] (fun s10 wr => ∃ (i : Nat) (L' : List Fl) (fr' : Nat), s10 = .int .i64 (i : Int) ∧ i ≤ ns.length ∧ Stp w wr k.d m L L' fr' (N + i) ∧ Hid (Pu L' = rmAll k.p (ns.take i) (Pu L)) ∧ fr' + tot L' = fr + tot L ∧ tot L' ≤ tot L) (fun s10 _ => ns.length - (intOf s10).toNat)
  case atStart => exact ⟨0, L, fr, rfl, Nat.zero_le _, Stp.refl hD, rfl, rfl, Nat.le_refl _⟩
  case round =>
    obtain ⟨i, L', fr', rfl, hi1, hS, HP, hR, hT⟩ := hrel
    by_cases hl : i < ns.length
    · have hil : (i : Int) < (ns.length : Int) := by omega
      obtain ⟨g, off, rfl, hAb⟩ := hA (by omega)
      have hW1 := hW.disk hD hS.kp
      have hA1 := hAb.disk hD hS.kp
      obtain ⟨a0, a1, a2⟩ := hA1.at_ i hl
      obtain ⟨hok, hsm⟩ := hex ns[i] (List.getElem_mem hl)
      have hin : (lkP (nm k.p ns[i]) (Pu L')).isSome = true := by
        rw [HP.out, lkP_rmAll_other _ hP (fun n hn2 e => ?_)]
        · exact hsm
        · have h1 : n < ns[i] := by
            obtain ⟨j, hj, rfl⟩ := List.mem_iff_getElem.1 hn2
            rw [List.length_take] at hj
            rw [List.getElem_take]
            exact List.pairwise_iff_getElem.1 hns j i (by omega) hl (by omega)
          have h2 := (hex n (List.mem_of_mem_take hn2)).1
          have := nm_inj k.p hok.2 h2.2 e
          omega
      have hsu : rmAll k.p (ns.take (i + 1)) (Pu L) = wtoP (nm k.p ns[i]) (Pu L') := by rw [List.take_succ_eq_append_getElem hl, rmAll_snoc, HP.out]
      have HSU : Hid _ := hsu
      clear hsu hAb hA hA1
      generalize ns[i] = n at *
      go_wp2_with fail
      have hBw : Below wr.heap.size wr (wr.alloc (.cells #[.string (bstr (nm k.p n)), .int .u64 (n : Int), .int .i64 0] 97)) := (Below.refl _ _).alloc (Nat.le_refl _) _
      have hbk : (wr.alloc (.cells #[.string (bstr (nm k.p n)), .int .u64 (n : Int), .int .i64 0] 97)).heap[wr.heap.size]? = some (.cells #[.string (bstr (nm k.p n)), .int .u64 (n : Int), .int .i64 0] 97 (0, 0)) := heap_alloc_new wr _
      generalize wr.alloc (.cells #[.string (bstr (nm k.p n)), .int .u64 (n : Int), .int .i64 0] 97) = W at *
      have hSw := hS.below hBw
      have b0 := (cells3 hbk).1
      have c0 := (cells5 (hW1.below hBw).blk).1
      have hrm := Rem_all (nm k.p n) 0 W.drew hSw.dk.drew (by rw [nm_length]; unfold maxLen; omega) (by omega)
      have e1 : rmA (nm k.p n) (Pu L') = (wtoP (nm k.p n) (Pu L'), 0) := by
        have hi : isP (nm k.p n) (Pu L') = true := hin
        simp [rmA, hi]
      rw [e1] at hrm
      clear e1 a0 a1 a2
      go_region_held3 (fun w' => w'.cell? ⟨k.g, 0, none⟩ = some (.pointer (some ⟨k.d, 0, none⟩)) ∧ w'.cell? ⟨wr.heap.size, 0, none⟩ = some (.string (bstr (nm k.p n)))) (first | with_reducible exact ⟨c0, b0⟩ | with_reducible exact ⟨d0, d1⟩ | go_keep)
        ((go_at_call 59; refine hrm.mono ?_; rintro e w3 ⟨rfl, L3, fr3, S3, P3, R3, T3⟩; have d0 : w3.cell? ⟨k.g, 0, none⟩ = some (.pointer (some ⟨k.d, 0, none⟩)) := (cells5 ((hW1.below hBw).drew.disk hSw.dk.drew S3.kp).blk).1; have d1 : w3.cell? ⟨wr.heap.size, 0, none⟩ = some (.string (bstr (nm k.p n))) := (cells3 ((S3.kp.block _ (Array.getElem?_eq_some_iff.1 hbk).1 (hSw.dk.drew.other hbk (by decide))).trans hbk)).1))
      go_wp2
      go_roundw
      case rel => exact ⟨i + 1, L3, fr3, by simp, hl, (hSw.drew).trans S3, (P3.trans HSU.out.symm : Pu L3 = _), by omega, by omega⟩
      case measure => simp [intOf]; omega
    · have hil : ¬ (i : Int) < (ns.length : Int) := by omega
      obtain rfl : i = ns.length := by omega
      go_wp2
      go_ret
      have hpp := HP.out
      rw [List.take_length] at hpp
      exact ⟨rfl, L', fr', hS, hpp, hR, hT⟩

end Go.Proofs.YtpldfakfgngaaaaGreatDoor
