/-
  The laws' own: at, same, tells.
-/
import Derived.Test.YtnpjbdbhjbccbaaGMam
import Derived.Test.YtnpjbdbhjbccbaaCW0
namespace Go.Proofs.Ytnpjbdbhjbccbaa
open Go.RowKit Go.BigFrame Go.Sort
attribute [local go_sem] size_bstr toList_bstr ls_def

theorem Kp.drewN {w w' : World} {S : Nat → Prop} (h : Kp w w' S) (n : Nat) : Kp w (w'.drewN n) S := ⟨h.os, h.tape, h.output, h.size, h.block⟩
theorem neq_same (c : Cl) (w : World) : (binOp .neq 39 (.agg #[.string (bstr c.row), .string (bstr c.col), .int .u64 c.ver, .bool c.gone, .string (bstr c.val)]) (.agg #[.string (bstr c.row), .string (bstr c.col), .int .u64 c.ver, .bool c.gone, .string (bstr c.val)])).run Try.prog w = .ok (.bool false) w := by
  have := cell_neq c c w
  rw [eqC_self] at this
  exact this
theorem neq_zero (w : World) : (binOp .neq 39 (.agg #[.string ⟨#[]⟩, .string ⟨#[]⟩, .int .u64 0, .bool false, .string ⟨#[]⟩]) (.agg #[.string ⟨#[]⟩, .string ⟨#[]⟩, .int .u64 0, .bool false, .string ⟨#[]⟩])).run Try.prog w = .ok (.bool false) w := neq_same zC w

set_option maxHeartbeats 1000000 in
theorem at_any (r : List UInt8) (v : Int) (z : Bool) (w : World) : Calls Try.prog 29 #[.string (bstr r), .int .u64 v, .bool z] w fun e w' => e = .returned (clV (xc r v z)) ∧ Below w.heap.size w w' := by
  have hA := At5.new w (xc r v z) 39 rfl
  obtain ⟨r0, r1, r2, r3, r4⟩ := hA
  simp only [Nat.zero_add, xc] at r0 r1 r2 r3 r4
  simp only [show bstr [120] = ⟨#[120]⟩ from rfl, show bstr [] = ⟨#[]⟩ from rfl] at r0 r1 r2 r3 r4
  go_enter Try.func29, Try.ntmps29
  go_wp2
  refine bodyPost_ret (v := clV (xc r v z)) ?_ rfl ⟨rfl, (Below.refl _ _).alloc (Nat.le_refl _) _⟩
  simp [results, Try.results29, go_sem, xc]
  exact ⟨rfl, rfl⟩

set_option maxHeartbeats 2000000 in
set_option maxRecDepth 100000 in
theorem same_yes (q q' : Option Addr) (b off cap b' off' cap' : Nat) (cs : List Cl) (w : World) (h1 : 0 < cs.length → q = some ⟨b, off, none⟩ ∧ CRow w b off cs) (h2 : 0 < cs.length → q' = some ⟨b', off', none⟩ ∧ CRow w b' off' cs) (hn : cs.length * 64 ≤ 140737488351232) :
    Calls Try.prog 24 #[.slice q cs.length cap, .slice q' cs.length cap'] w fun e w' => e = .returned (.bool true) ∧ Below w.heap.size w w' := by
  have hg := cell_guard .neq
  go_enter Try.func24, Try.ntmps24
  go_wp2
  go_loopw [5] (fun s5 wr => ∃ i : Nat, s5 = .int .i64 (i : Int) ∧ i ≤ cs.length ∧ Below w.heap.size w wr) (fun s5 _ => cs.length - (intOf s5).toNat)
  case atStart => exact ⟨0, rfl, by omega, Below.refl _ _⟩
  case round =>
    obtain ⟨i, rfl, hil, hbel⟩ := hrel
    by_cases hlt : i < cs.length
    · obtain ⟨rfl, r1⟩ := h1 (by omega)
      obtain ⟨rfl, r2⟩ := h2 (by omega)
      obtain ⟨c, hc⟩ : ∃ c, cs[i]? = some c := ⟨_, List.getElem?_eq_getElem hlt⟩
      have a1 := r1.get hc
      have a2 := r2.get hc
      obtain ⟨a0, a1, a2', a3, a4⟩ := a1.step hbel a1.lt
      obtain ⟨b0, b1, b2', b3, b4⟩ := a2.step hbel a2.lt
      have hneq := fun W => neq_same c W
      clear r1 r2 a2 hc
      go_wp2_with fail
      go_quiet (fail)
      go_wp2
      go_roundw
      case rel => exact ⟨i + 1, by go_num, by omega, ⟨hbel.os, hbel.tape, hbel.output, hbel.size, hbel.block⟩⟩
      case measure => simp [intOf]; omega
    · have hie : i = cs.length := by omega
      go_wp2
      go_ret
      exact ⟨rfl, hbel⟩

set_option maxHeartbeats 4000000 in
set_option maxRecDepth 100000 in
theorem tells_yes {g : Nat} {caps : Array Value} {F : Nat → Prop} {cs : List Cl} {J : Nat → World → Prop} (hT : Tlr g caps F cs J) (n : Nat) (q : Option Addr) (b off cap : Nat) (l : List Cl) (w : World) (hJ : J n w) (hl : l = cs.drop n) (hq : 0 < l.length → q = some ⟨b, off, none⟩ ∧ CRow w b off l ∧ b < w.heap.size ∧ ¬ F b) (hn : l.length * 64 ≤ 140737488351232) :
    Calls Try.prog 10 #[.func (.func g) #[] caps, .slice q l.length cap] w fun e w' => e = .returned (.bool true) ∧ Kp w w' F := by
  have hE1 := fun g caps w => fn_eql g caps w
  have hg := cell_guard .neq
  have eg := hT.eg
  have hll : l.length = cs.length - n := by rw [hl, List.length_drop]
  have hget : ∀ i c, l[i]? = some c → cs[n + i]? = some c := fun i c h => by rw [hl, List.getElem?_drop] at h; exact h
  have HLL : Hid _ := hll
  have HGT : Hid _ := hget
  clear hl hll hget
  go_enter Try.func10, Try.ntmps10
  go_wp2
  go_loopw [5] (fun s5 wr => ∃ i : Nat, s5 = .int .i64 (i : Int) ∧ i ≤ l.length ∧ J (n + i) wr ∧ Kp w wr F) (fun s5 _ => l.length - (intOf s5).toNat)
  case atStart => exact ⟨0, rfl, by omega, hJ, Kp.refl _ _⟩
  case round =>
    obtain ⟨i, rfl, hil, hJi, hK⟩ := hrel
    by_cases hlt : i < l.length
    · obtain ⟨rfl, r1, rl, rf⟩ := hq (by omega)
      obtain ⟨c, hc⟩ : ∃ c, l[i]? = some c := ⟨_, List.getElem?_eq_getElem hlt⟩
      have hcall := hT.step (n + i) wr hJi
      rw [ansV_yes (HGT.out i c hc)] at hcall
      have ha := r1.get hc
      have HA : Hid _ := ha
      clear hc r1 ha hJi
      go_wp2_with fail
      refine hcall.mono ?_
      rintro e w1 ⟨rfl, hJ1, hK1⟩
      have hK2 := hK.trans hK1 (fun i hi => Or.inl hi)
      have ha1 : At5 w1 b (off + i * 5) c := HA.out.same fun _ => World.cell?_of_block (hK2.block b rl rf)
      have hbl : b < w1.heap.size := ha1.lt
      obtain ⟨a0, a1, a2, a3, a4⟩ := ha1
      have hneq := fun W => neq_same c W
      clear hcall
      go_wp2_with fail
      go_quiet (fail)
      go_wp2
      go_roundw
      case rel => exact ⟨i + 1, by go_num, by omega, hT.kept _ _ _ (hT.below hJ1 ((Below.refl _ _).alloc (Nat.le_refl _) _)) (fun _ _ => rfl), (hK2.alloc _).drewN _⟩
      case measure => simp [intOf]; omega
    · have hie : i = l.length := by omega
      subst hie
      have HJI : Hid _ := hJi
      clear hJi
      go_wp2
      go_loopw [8] (fun s8 wr => ∃ k : Nat, s8 = .int .i64 (k : Int) ∧ k ≤ 3 ∧ J (n + l.length + k) wr ∧ Kp w wr F) (fun s8 _ => 3 - (intOf s8).toNat)
      case atStart => exact ⟨0, rfl, by omega, HJI.out, hK⟩
      case round =>
        obtain ⟨k, rfl, hk3, hJk, hKk⟩ := hrel
        by_cases hk : k < 3
        · have hcall := hT.step (n + l.length + k) wr hJk
          rw [ansV_no (by have := HLL.out; omega)] at hcall
          have hneq := fun W => neq_zero W
          clear hJk
          go_wp2_with fail
          refine hcall.mono ?_
          rintro e w1 ⟨rfl, hJ1, hK1⟩
          have hK2 := hKk.trans hK1 (fun i hi => Or.inl hi)
          clear hcall
          go_wp2
          go_roundw
          case rel => exact ⟨k + 1, by go_num, by omega, hT.below hJ1 ((Below.refl _ _).alloc (Nat.le_refl _) _), hK2.alloc _⟩
          case measure => simp [intOf]; omega
        · go_wp2
          go_ret
          exact ⟨rfl, hKk⟩

end Go.Proofs.Ytnpjbdbhjbccbaa
