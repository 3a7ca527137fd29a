/-
  The contracts of slices.Clone at two numbers, of bloom.hashes from its two bases, of bloom.places.
-/
import Derived.Test.YtiingodillcleaaBMem
namespace Go.Proofs.Ytiingodillcleaa
open Go.RowKit
attribute [local go_sem] size_bstr getElem_bstr toList_bstr

theorem cells_block {w : World} {g : Nat} {cur : Array Value} {t : TypeId} (h : w.heap[g]? = some (.cells cur t (0, 0))) : (∀ o, w.cell? ⟨g, o, none⟩ = cur[o]?) ∧ ∀ o, w.frozen? ⟨g, o, none⟩ = false :=
  ⟨fun o => by simp [World.cell?, h], fun o => by simp [World.frozen?, h]⟩
theorem Try.infoU64 : (Try.prog.info? 41).map (fun i => (i.zero, i.size, i.bytes)) = some (some (.int .u64 0), 1, 8) := by kernel_rfl
/-- Two numbers lie at the head of a block. -/
structure TwoU (w : World) (g x y : Nat) : Prop where
  out : ∃ cur, w.heap[g]? = some (.cells cur 41 (0, 0)) ∧ cur[0]? = some (.int .u64 (x : Int)) ∧ cur[1]? = some (.int .u64 (y : Int))
theorem TwoU.facts {w : World} {g x y : Nat} (h : TwoU w g x y) : w.cell? ⟨g, 0, none⟩ = some (.int .u64 (x : Int)) ∧ w.cell? ⟨g, 1, none⟩ = some (.int .u64 (y : Int)) ∧ w.frozen? ⟨g, 0, none⟩ = false ∧ w.frozen? ⟨g, 1, none⟩ = false := by
  obtain ⟨cur, h1, h2, h3⟩ := h.out
  obtain ⟨a, b⟩ := cells_block h1
  exact ⟨(a 0).trans h2, (a 1).trans h3, b 0, b 1⟩
theorem TwoU.set0 {w : World} {g x y : Nat} (h : TwoU w g x y) (z : Nat) : TwoU (w.setCell ⟨g, 0, none⟩ (.int .u64 (z : Int))) g z y := by
  obtain ⟨cur, h1, h2, h3⟩ := h.out
  have hs : 0 < cur.size := (Array.getElem?_eq_some_iff.1 h2).1
  exact ⟨_, heap_set_same h1 _, by simp [hs], by rw [← h3]; simp⟩
theorem TwoU.set1 {w : World} {g x y : Nat} (h : TwoU w g x y) (z : Nat) : TwoU (w.setCell ⟨g, 1, none⟩ (.int .u64 (z : Int))) g x z := by
  obtain ⟨cur, h1, h2, h3⟩ := h.out
  have hs : 1 < cur.size := (Array.getElem?_eq_some_iff.1 h3).1
  exact ⟨_, heap_set_same h1 _, by rw [← h2]; simp, by simp [hs]⟩
theorem TwoU.drewN {w : World} {g x y : Nat} (h : TwoU w g x y) (n : Nat) : TwoU (w.drewN n) g x y := ⟨h.out⟩

set_option maxHeartbeats 1000000 in
set_option maxRecDepth 100000 in
theorem Clone2 (b c x y : Nat) (w : World) (h0 : w.cell? ⟨b, 0, none⟩ = some (.int .u64 (x : Int))) (h1 : w.cell? ⟨b, 1, none⟩ = some (.int .u64 (y : Int))) :
    Calls Try.prog 21 #[.slice (some ⟨b, 0, none⟩) 2 c] w fun e w' => ∃ g cap, e = .returned (.slice (some ⟨g, 0, none⟩) 2 cap) ∧ 2 ≤ cap ∧ w.heap.size ≤ g ∧ TwoU w' g x y ∧ Below w.heap.size w w' := by
  obtain ⟨i0, hi0, hz0, hz1, hz2⟩ := info_parts Try.infoU64
  have q22 : ∀ (w : World) (a : Option Addr) (n c n' c' : Nat), (binOp .eql 39 (.slice a n c) (.slice none n' c')).run Try.prog w = .ok (.bool a.isNone) w := fun w a n c n' c' => Lib.run_eql_slice_nil w _ _ a n c n' c' Try.underlying39
  go_enter Try.func21, Try.ntmps21
  go_wp2_with (at_builtin; refine wpList_append_own _ rfl _ _ 39 rfl w.heap.size 41 i0 (.int .u64 0) 1 8 Try.underlying39 hi0 hz0 hz1 hz2 rfl (by decide) _ _ _ rfl (World.ownsRow_made w #[] 0 (Nat.le_refl _) (Nat.zero_le _) rfl) ⟨b, 0, none⟩ 2 c [.int .u64 (x : Int), .int .u64 (y : Int)] rfl ?qc1 ?qc2 ?qc3 ?qc4 ?qc5 ?qc6 ?_)
  case qc1 => rfl
  case qc2 =>
    intro j u hj
    rw [Addr.add_lit]
    refine Lib.cell?_alloc_some _ ?_
    match j, hj with
    | 0, hj => cases hj; exact h0
    | 1, hj => cases hj; exact h1
  case qc3 => intro u hu; simp at hu; rcases hu with rfl | rfl <;> rfl
  case qc4 => decide
  case qc5 => decide
  case qc6 => simp
  intro v' w1 hown hgrow _
  have hb : Below w.heap.size w w1 := ((Below.refl _ w).alloc (Nat.le_refl _) _).grown hgrow (by simp) (by intro k hk; simp [Value.ownBlock] at hk; omega)
  rcases hown.2 with ⟨_, e0⟩ | ⟨g, cap, cur, rfl, hbg, hg, hnc, hcm, hcs, htake⟩
  · cases e0
  have hc0 := hown.cells (g := g) rfl 0 _ rfl
  have hc1 := hown.cells (g := g) rfl 1 _ rfl
  rw [Addr.add_lit] at hc0 hc1
  have ht : TwoU w1 g x y := ⟨cur, hg, ((cells_block hg).1 0).symm.trans hc0, ((cells_block hg).1 1).symm.trans hc1⟩
  clear hc0 hc1 hown hgrow
  go_wp2
  go_ret
  exact ⟨g, cap, rfl, hnc, hbg, ht, hb⟩

theorem hst_int (x : Nat) (hx : x < 18446744073709551616) (b : UInt8) : IntKind.u64.wrap (bits .xor .u64 (x : Int) (IntKind.u64.wrap (b.toNat : Int)) * 1099511628211) = (hst x b : Int) := by
  have hb := b.toNat_lt
  have e : IntKind.u64.wrap (b.toNat : Int) = (b.toNat : Int) := by rw [IntKind.wrap_u64]; omega
  rw [e, u64_xor_nat _ _ hx (by omega), IntKind.wrap_u64]
  unfold hst
  omega
theorem TwoU.drew {w : World} {g x y : Nat} (h : TwoU w g x y) : TwoU w.drew g x y := ⟨h.out⟩
theorem below_set {B : Nat} {w w' : World} (h : Below B w w') {g o : Nat} (hg : B ≤ g) (v : Value) : Below B w (w'.setCell ⟨g, o, none⟩ v).drew :=
  ⟨h.os, h.tape, h.output, by show _ ≤ (w'.heap.modify _ _).size; rw [Array.size_modify]; exact h.size, fun k hk => (heap_set_other v (by omega)).trans (h.block k hk)⟩

set_option maxHeartbeats 2000000 in
set_option maxRecDepth 100000 in
theorem hashes_any (s : List UInt8) (b c fa fb : Nat) (w : World) (h0 : w.cell? ⟨b, 0, none⟩ = some (.int .u64 (fa : Int))) (h1 : w.cell? ⟨b, 1, none⟩ = some (.int .u64 (fb : Int))) (ha : fa < 18446744073709551616) (hb : fb < 18446744073709551616) (hs : s.length ≤ 9223372036854775807) :
    Calls Try.prog 19 #[.string (bstr s), .slice (some ⟨b, 0, none⟩) 2 c] w fun e w' => ∃ g cap, e = .returned (.slice (some ⟨g, 0, none⟩) 2 cap) ∧ 2 ≤ cap ∧ TwoU w' g (hsh fa s) (hsh fb s) ∧ Below w.heap.size w w' := by
  go_enter Try.func19, Try.ntmps19
  go_wp2_with fail
  refine (Clone2 b c fa fb w h0 h1).mono ?_
  rintro e w1 ⟨g, cap, rfl, hcap, hg, ht, hbel⟩
  clear h0 h1
  go_wp2_with fail
  go_loopw [12] (fun s12 wr => ∃ i : Nat, s12 = .int .i64 (i : Int) ∧ i ≤ s.length ∧ TwoU wr g (hsh fa (s.take i)) (hsh fb (s.take i)) ∧ Below w.heap.size w wr) (fun s12 _ => s.length - (intOf s12).toNat)
  case atStart => exact ⟨0, rfl, Nat.zero_le _, ht, hbel⟩
  case round =>
    clear ht hbel
    obtain ⟨i, rfl, hi, ht, hbel⟩ := hrel
    obtain ⟨wo, rfl⟩ : ∃ wo, wr = wo := ⟨_, rfl⟩
    by_cases hlt : i < s.length
    · have hla := hsh_lt ha (s.take i)
      have hlb := hsh_lt hb (s.take i)
      have HA : Hid _ := hsh_succ fa hlt
      have HB : Hid _ := hsh_succ fb hlt
      generalize hsh fa (s.take i) = x at *
      generalize hsh fb (s.take i) = y at *
      go_wp2_with fail
      go_loopw [17] (fun s17 wr => ∃ n : Nat, s17 = .int .i64 (n : Int) ∧ n ≤ 2 ∧ TwoU wr g (if 0 < n then hst x s[i] else x) (if 1 < n then hst y s[i] else y) ∧ Below w.heap.size w wr) (fun s17 _ => 2 - (intOf s17).toNat)
      case atStart => exact ⟨0, rfl, by omega, by simpa only [Nat.not_lt_zero, if_false] using ht, hbel⟩
      case round =>
        clear ht hbel
        obtain ⟨n, rfl, hn, ht, hbel⟩ := hrel
        obtain ⟨c0, c1, f0, f1⟩ := ht.facts
        have e0 := hst_int x hla s[i]
        have e1 := hst_int y hlb s[i]
        rcases (by omega : n = 0 ∨ n = 1 ∨ n = 2) with rfl | rfl | rfl
        · simp only [Nat.lt_irrefl, if_false, Nat.not_lt_zero] at c0 c1 ht
          go_wp2_with fail
          go_region
          have ht' := (ht.set0 (hst x s[i])).drew
          have hbe' := below_set hbel hg (g := g) (o := 0) (.int .u64 (hst x s[i] : Int))
          generalize (wr.setCell ⟨g, 0, none⟩ (.int .u64 (hst x s[i] : Int))).drew = w2 at *
          clear ht c0 c1 f0 f1 e0 e1 hbel
          go_wp2
          go_roundw
          case rel => exact ⟨1, by go_num, by omega, by simpa only [Nat.zero_lt_one, Nat.lt_irrefl, if_true, if_false] using ht', hbe'⟩
          case measure => simp [intOf]
        · simp only [Nat.lt_irrefl, if_false, Nat.zero_lt_one, if_true] at c0 c1 ht
          go_wp2_with fail
          go_region
          have ht' := (ht.set1 (hst y s[i])).drew
          have hbe' := below_set hbel hg (g := g) (o := 1) (.int .u64 (hst y s[i] : Int))
          generalize (wr.setCell ⟨g, 1, none⟩ (.int .u64 (hst y s[i] : Int))).drew = w2 at *
          clear ht c0 c1 f0 f1 e0 e1 hbel
          go_wp2
          go_roundw
          case rel => exact ⟨2, by go_num, by omega, by simpa only [Nat.one_lt_two, Nat.zero_lt_two, if_true] using ht', hbe'⟩
          case measure => simp [intOf]
        · simp only [Nat.one_lt_two, Nat.zero_lt_two, if_true] at ht
          clear c0 c1 f0 f1 e0 e1
          go_wp2
          go_roundw
          case rel => exact ⟨i + 1, by go_num, by omega, by rw [HA.out, HB.out]; exact ht, hbel⟩
          case measure => simp [intOf]; omega
    · have hz : i = s.length := by omega
      subst hz
      rw [List.take_length] at ht
      go_wp2
      go_ret
      exact ⟨g, cap, rfl, hcap, ht, hbel⟩

end Go.Proofs.Ytiingodillcleaa
