/-
  A walk ends: it is no more among those under way.
-/
import Derived.Test.YtijfmgpipnhkkaaSRng
import Derived.LaidEqlPtr
import Derived.Lib.SliceRun
namespace Go.Proofs.Ytijfmgpipnhkkaa
open Go.RowKit Go.BigFrame Go.Sort
attribute [local go_sem] size_bstr toList_bstr ls_def

set_option maxHeartbeats 1000000 in
set_option maxRecDepth 100000 in
theorem same_self (k bx : Nat) (w : World) (hb : w.cell? ⟨bx, 0, none⟩ = some (.pointer (some ⟨k, 0, none⟩))) :
    Calls Try.prog 46 #[.pointer (some ⟨k, 0, none⟩), .pointer (some ⟨bx, 0, none⟩)] w fun e w' => e = .returned (.bool true) ∧ w' = w := by
  have hj : ∃ j, Try.prog.info? 74 = some j := Option.isSome_iff_exists.1 (by kernel_rfl)
  obtain ⟨j, hj⟩ := hj
  have heq := fun w : World => run_eql_ptr_same (P := Try.prog) w (tp := 72) ⟨k, 0, none⟩ Try.underlying72 hj
  go_enter Try.func46, Try.ntmps46
  go_wp2
  go_ret
  exact ⟨rfl, rfl⟩

set_option maxHeartbeats 1000000 in
theorem idx_none (p : Option Addr) (cap : Nat) (fv : Value) (w : World) :
    Calls Try.prog 49 #[.slice p 0 cap, fv] w fun e w' => e = .returned (.int .i64 (-1)) ∧ w' = w := by
  go_enter Try.func49, Try.ntmps49
  go_wp2
  go_loop [8] (fun s8 => s8 = .int .i64 0) (fun _ => 0)
  case atStart => rfl
  case round =>
    subst hrel
    go_wp2
    go_ret
    exact ⟨rfl, rfl⟩

set_option maxHeartbeats 1000000 in
theorem idx_one (g off cap k bx : Nat) (w : World) (hg : w.cell? ⟨g, off, none⟩ = some (.pointer (some ⟨k, 0, none⟩))) (hb : w.cell? ⟨bx, 0, none⟩ = some (.pointer (some ⟨k, 0, none⟩))) :
    Calls Try.prog 49 #[.slice (some ⟨g, off, none⟩) 1 cap, .func (.func 46) #[] #[.pointer (some ⟨bx, 0, none⟩)]] w fun e w' => e = .returned (.int .i64 0) ∧ w' = w := by
  have hsm := same_self k bx w hb
  go_enter Try.func49, Try.ntmps49
  go_wp2
  go_loop [8] (fun s8 => s8 = .int .i64 0) (fun _ => 0)
  case atStart => rfl
  case round =>
    subst hrel
    go_wp2_with fail
    refine hsm.mono ?_
    rintro e w' ⟨rfl, rfl⟩
    go_wp2
    go_ret
    exact ⟨rfl, rfl⟩

set_option maxHeartbeats 1000000 in
theorem del_none (p : Option Addr) (cap : Nat) (fv : Value) (w : World) :
    Calls Try.prog 45 #[.slice p 0 cap, fv] w fun e w' => e = .returned (.slice p 0 cap) ∧ w' = w := by
  go_enter Try.func45, Try.ntmps45
  go_wp2_with fail
  refine (idx_none p cap fv w).mono ?_
  rintro e w' ⟨rfl, rfl⟩
  go_wp2
  go_ret
  exact ⟨rfl, rfl⟩

set_option maxHeartbeats 2000000 in
set_option maxRecDepth 100000 in
theorem del_one (g off cap k bx : Nat) (w : World) (hcap : 1 ≤ cap) (hg : w.cell? ⟨g, off, none⟩ = some (.pointer (some ⟨k, 0, none⟩))) (hf : w.frozen? ⟨g, off, none⟩ = false) (hb : w.cell? ⟨bx, 0, none⟩ = some (.pointer (some ⟨k, 0, none⟩))) :
    Calls Try.prog 45 #[.slice (some ⟨g, off, none⟩) 1 cap, .func (.func 46) #[] #[.pointer (some ⟨bx, 0, none⟩)]] w fun e w' => e = .returned (.slice (some ⟨g, off, none⟩) 0 cap) ∧ w' = w.setCell ⟨g, off, none⟩ (.pointer none) := by
  have hic : (1 : Int) ≤ (cap : Int) := by omega
  have hid := idx_one g off cap k bx w hg hb
  have hcl : (Builtin.clear_ #[56] 0 #[.slice (some ⟨g, off, none⟩) 1 cap]).run Try.prog w = .ok (.tuple #[]) (w.setCell ⟨g, off, none⟩ (.pointer none)) :=
    Lib.run_clear_slice (P := Try.prog) w 56 72 0 (.pointer none) Try.underlying56 (fun w => by kernel_rfl) rfl rfl g off 1 cap (by omega) (fun j hj => by
      have : j = 0 := by omega
      subst this
      rw [Nat.add_zero, hg]; rfl) (fun j hj => by
      have : j = 0 := by omega
      subst this
      exact hf)
  go_enter Try.func45, Try.ntmps45
  go_wp2_with fail
  refine hid.mono ?_
  rintro e w' ⟨rfl, rfl⟩
  go_wp2_with fail
  go_loop [5, 6] (fun s5 s6 => s5 = .int .i64 0 ∧ s6 = .int .i64 1) (fun _ _ => 0)
  case atStart => exact ⟨rfl, rfl⟩
  case round =>
    obtain ⟨rfl, rfl⟩ := hrel
    go_wp2
    go_ret
    exact ⟨rfl, rfl⟩

set_option maxHeartbeats 4000000 in
set_option maxRecDepth 100000 in
theorem end_any (l hd k : Nat) (T : List Tw) (F : Nat → Prop) (R : List Cl) (w : World) (u : FrameMode) (h : Stt l hd k T F R w) :
    CallsDIn Fence.wide 2 Try.prog 39 #[.pointer (some ⟨l, 0, none⟩), .pointer (some ⟨k, 0, none⟩)] u w fun e u' w' => u' = u ∧ ((∃ x, e = .returned x) ∧ (∃ v', Ls w' l hd T v' [] ∧ ∀ i, Ow l hd T v' i → F i) ∧ Kp w w' F) := by
  obtain ⟨v, xs, B, rest, rs, h⟩ := h
  have hb : Below w.heap.size w (w.alloc (.cells #[.pointer (some ⟨k, 0, none⟩)] 72)) := (Below.refl _ _).alloc (Nat.le_refl _) _
  have hbx : (w.alloc (.cells #[.pointer (some ⟨k, 0, none⟩)] 72)).cell? ⟨w.heap.size, 0, none⟩ = some (.pointer (some ⟨k, 0, none⟩)) := by rw [World.cell?_alloc_at _ _ w.heap.size 0 rfl]; rfl
  have hL := h.ls.below hb
  have hmf : ∀ (fn : Fn) (first cap : Array Value) (w : World), (Instr.makeFunc fn first cap).run Try.prog w = .ok (.func fn first cap) w := fun _ _ _ _ => rfl
  generalize hw0 : w.alloc (.cells #[.pointer (some ⟨k, 0, none⟩)] 72) = w0 at *
  have hwk := hL.blk.walks
  have hfr := hL.blk.free 13
  refine callsDIn_of_wp Try.func39 rfl trivial (wpIn_wide.2 ?_) rfl
  simp only [Try.ntmps39, List.size_toArray, List.length_cons, List.length_nil, Nat.reduceAdd, Nat.reduceSub, Array.replicate_succ, Array.replicate_zero, List.push_toArray, List.append_toArray, List.nil_append, List.cons_append]
  rcases h.way with ⟨rfl, _, _⟩ | ⟨rfl, _⟩
  · rcases hL.row with ⟨_, e⟩ | ⟨g, off, cap, cur, rfl, hg, hc1, hc2, hc3⟩
    · cases e
    · simp only [List.length_cons, List.length_nil, Nat.zero_add] at hwk hc1 hL
      have hg0 : w0.cell? ⟨g, off, none⟩ = some (.pointer (some ⟨k, 0, none⟩)) := by
        have := hc3 0 (by simp)
        simp only [Nat.add_zero] at this
        simp only [World.cell?, hg]
        exact this
      have hgf : w0.frozen? ⟨g, off, none⟩ = false := by simp [World.frozen?, hg]
      have hgl : g ≠ l := fun e => by
        have h1 : w0.heap[l]? = _ := hL.blk
        rw [← e, hg] at h1
        cases h1
      have hgt : ∀ t ∈ hdT hd :: T, t.b ≠ g := fun t ht e => by
        obtain ⟨X, Y, e2⟩ := List.append_of_mem ht
        have h1 : w0.heap[t.b]? = _ := hL.ch.at_ X t Y e2
        rw [e, hg] at h1
        cases h1
      have hl2 : LsAt (w0.setCell ⟨g, off, none⟩ (.pointer none)) l hd _ _ := (heap_set_other _ (Ne.symm hgl)).trans hL.blk
      have hd := del_one g off cap k w.heap.size w0 hc1 hg0 hgf hbx
      have HG : Hid _ := hg
      clear hg hc3
      go_wp2_with fail
      refine hd.mono ?_
      rintro e w1 ⟨rfl, rfl⟩
      have hwk2 := hl2.walks
      have hfr2 := hl2.free 13
      go_wp2
      go_end0
      have hFg : F g := h.foot g (Or.inl (Or.inr (Or.inr (Or.inr rfl))))
      refine ⟨⟨_, rfl⟩, ⟨.slice (some ⟨g, off, none⟩) 0 cap, ⟨hl2.setW _, ?_, h.ls.asc, h.ls.hgt, h.ls.may, ?_⟩, fun i hi => ?_⟩, ?_⟩
      · exact hL.ch.kept fun t ht => (heap_set_other _ (hL.apart ht)).trans (heap_set_other _ (hgt t ht))
      · exact Or.inr ⟨g, off, cap, _, rfl, (heap_set_other _ hgl).trans (heap_set_same HG.out _), Nat.zero_le _, by simpa using hc2, fun i hi => by simp at hi⟩
      · rcases hi with hi | hi | hi | hi
        · exact h.foot i (Or.inl (Or.inl hi))
        · exact h.foot i (Or.inl (Or.inr (Or.inl hi)))
        · exact h.foot i (Or.inl (Or.inr (Or.inr (Or.inl hi))))
        · cases hi
          exact hFg
      · exact ((Kp.of_below F hb).setCell _ (Or.inl hFg)).setCell _ (Or.inl (h.foot l (Or.inl (Or.inl rfl))))
  · obtain ⟨p, cap, rfl⟩ := hL.row.len
    simp only [List.length_nil] at hwk hL
    have hd := del_none p cap (.func (.func 46) #[] #[.pointer (some ⟨w.heap.size, 0, none⟩)]) w0
    go_wp2_with fail
    refine hd.mono ?_
    rintro e w1 ⟨rfl, rfl⟩
    go_wp2
    go_end0
    refine ⟨⟨_, rfl⟩, ⟨.slice p 0 cap, ⟨hL.blk.setW _, hL.ch.kept fun t ht => heap_set_other _ (hL.apart ht), h.ls.asc, h.ls.hgt, h.ls.may, hL.row.kept fun i hi => heap_set_other _ (fun e => ?_)⟩, fun i hi => h.foot i (Or.inl hi)⟩, ?_⟩
    · obtain ⟨cur, hc⟩ := hL.row.blk hi
      have h1 : w1.heap[l]? = _ := hL.blk
      rw [e, h1] at hc
      cases hc
    · exact (Kp.of_below F hb).setCell _ (Or.inl (h.foot l (Or.inl (Or.inl rfl))))

end Go.Proofs.Ytijfmgpipnhkkaa
