/-
  The contracts of slices.Clone at two numbers, of bloom.hashes from its two bases, of bloom.places.
  Places in eight bytes; where the blocks end, as the footer says.
-/
import Derived.Test.YtmpnofbhbglfpaaGreatDoorZMem
import Derived.Test.YtmpnofbhbglfpaaGreatDoorGTFn
namespace Go.Proofs.YtmpnofbhbglfpaaGreatDoor.Bl
open Go.RowKit
attribute [local go_sem] size_bstr getElem_bstr toList_bstr

theorem cells_block {w : World} {g : Nat} {cur : Array Value} {t : TypeId} (h : w.heap[g]? = some (.cells cur t (0, 0))) : (∀ o, w.cell? ⟨g, o, none⟩ = cur[o]?) ∧ ∀ o, w.frozen? ⟨g, o, none⟩ = false :=
  ⟨fun o => by simp [World.cell?, h], fun o => by simp [World.frozen?, h]⟩
theorem Tryz.infoU64 : (Tryz.prog.info? 37).map (fun i => (i.zero, i.size, i.bytes)) = some (some (.int .u64 0), 1, 8) := by kernel_rfl
/-- Two numbers lie at the head of a block. -/
structure TwoU (w : World) (g x y : Nat) : Prop where
  out : ∃ cur, w.heap[g]? = some (.cells cur 37 (0, 0)) ∧ cur[0]? = some (.int .u64 (x : Int)) ∧ cur[1]? = some (.int .u64 (y : Int))
theorem TwoU.facts {w : World} {g x y : Nat} (h : TwoU w g x y) : w.cell? ⟨g, 0, none⟩ = some (.int .u64 (x : Int)) ∧ w.cell? ⟨g, 1, none⟩ = some (.int .u64 (y : Int)) ∧ w.frozen? ⟨g, 0, none⟩ = false ∧ w.frozen? ⟨g, 1, none⟩ = false := by
  obtain ⟨cur, h1, h2, h3⟩ := h.out
  obtain ⟨a, b⟩ := cells_block h1
  exact ⟨(a 0).trans h2, (a 1).trans h3, b 0, b 1⟩
theorem TwoU.set0 {w : World} {g x y : Nat} (h : TwoU w g x y) (z : Nat) : TwoU (w.setCell ⟨g, 0, none⟩ (.int .u64 (z : Int))) g z y := by
  obtain ⟨cur, h1, h2, h3⟩ := h.out
  have hs : 0 < cur.size := (Array.getElem?_eq_some_iff.1 h2).1
  exact ⟨_, heap_set_same h1 _, by simp [hs], by rw [← h3]; simp⟩
theorem TwoU.set1 {w : World} {g x y : Nat} (h : TwoU w g x y) (z : Nat) : TwoU (w.setCell ⟨g, 1, none⟩ (.int .u64 (z : Int))) g x z := by
  obtain ⟨cur, h1, h2, h3⟩ := h.out
  have hs : 1 < cur.size := (Array.getElem?_eq_some_iff.1 h3).1
  exact ⟨_, heap_set_same h1 _, by rw [← h2]; simp, by simp [hs]⟩
theorem TwoU.drewN {w : World} {g x y : Nat} (h : TwoU w g x y) (n : Nat) : TwoU (w.drewN n) g x y := ⟨h.out⟩

set_option maxHeartbeats 1000000 in
set_option maxRecDepth 100000 in
theorem Clone2 (b c x y : Nat) (w : World) (h0 : w.cell? ⟨b, 0, none⟩ = some (.int .u64 (x : Int))) (h1 : w.cell? ⟨b, 1, none⟩ = some (.int .u64 (y : Int))) :
    Calls Tryz.prog 144 #[.slice (some ⟨b, 0, none⟩) 2 c] w fun e w' => ∃ g cap, e = .returned (.slice (some ⟨g, 0, none⟩) 2 cap) ∧ 2 ≤ cap ∧ w.heap.size ≤ g ∧ TwoU w' g x y ∧ Below w.heap.size w w' := by
  obtain ⟨i0, hi0, hz0, hz1, hz2⟩ := info_parts Tryz.infoU64
  have q22 : ∀ (w : World) (a : Option Addr) (n c n' c' : Nat), (binOp .eql 169 (.slice a n c) (.slice none n' c')).run Tryz.prog w = .ok (.bool a.isNone) w := fun w a n c n' c' => Lib.run_eql_slice_nil w _ _ a n c n' c' Tryz.underlying169
  go_enter Tryz.func144, Tryz.ntmps144
  go_wp2_with (at_builtin; refine wpList_append_own _ rfl _ _ 169 rfl w.heap.size 37 i0 (.int .u64 0) 1 8 Tryz.underlying169 hi0 hz0 hz1 hz2 rfl (by decide) _ _ _ rfl (World.ownsRow_made w #[] 0 (Nat.le_refl _) (Nat.zero_le _) rfl) ⟨b, 0, none⟩ 2 c [.int .u64 (x : Int), .int .u64 (y : Int)] rfl ?qc1 ?qc2 ?qc3 ?qc4 ?qc5 ?qc6 ?_)
  case qc1 => rfl
  case qc2 =>
    intro j u hj
    rw [Addr.add_lit]
    refine Lib.cell?_alloc_some _ ?_
    match j, hj with
    | 0, hj => cases hj; exact h0
    | 1, hj => cases hj; exact h1
  case qc3 => intro u hu; simp at hu; rcases hu with rfl | rfl <;> rfl
  case qc4 => decide
  case qc5 => decide
  case qc6 => simp
  intro v' w1 hown hgrow _
  have hb : Below w.heap.size w w1 := ((Below.refl _ w).alloc (Nat.le_refl _) _).grown hgrow (by simp) (by intro k hk; simp [Value.ownBlock] at hk; omega)
  rcases hown.2 with ⟨_, e0⟩ | ⟨g, cap, cur, rfl, hbg, hg, hnc, hcm, hcs, htake⟩
  · cases e0
  have hc0 := hown.cells (g := g) rfl 0 _ rfl
  have hc1 := hown.cells (g := g) rfl 1 _ rfl
  rw [Addr.add_lit] at hc0 hc1
  have ht : TwoU w1 g x y := ⟨cur, hg, ((cells_block hg).1 0).symm.trans hc0, ((cells_block hg).1 1).symm.trans hc1⟩
  clear hc0 hc1 hown hgrow
  go_wp2
  go_ret
  exact ⟨g, cap, rfl, hnc, hbg, ht, hb⟩

theorem hst_int (x : Nat) (hx : x < 18446744073709551616) (b : UInt8) : IntKind.u64.wrap (bits .xor .u64 (x : Int) (IntKind.u64.wrap (b.toNat : Int)) * 1099511628211) = (hst x b : Int) := by
  have hb := b.toNat_lt
  have e : IntKind.u64.wrap (b.toNat : Int) = (b.toNat : Int) := by rw [IntKind.wrap_u64]; omega
  rw [e, u64_xor_nat _ _ hx (by omega), IntKind.wrap_u64]
  unfold hst
  omega
theorem TwoU.drew {w : World} {g x y : Nat} (h : TwoU w g x y) : TwoU w.drew g x y := ⟨h.out⟩
theorem below_set {B : Nat} {w w' : World} (h : Below B w w') {g o : Nat} (hg : B ≤ g) (v : Value) : Below B w (w'.setCell ⟨g, o, none⟩ v).drew :=
  ⟨h.os, h.tape, h.output, by show _ ≤ (w'.heap.modify _ _).size; rw [Array.size_modify]; exact h.size, fun k hk => (heap_set_other v (by omega)).trans (h.block k hk)⟩

set_option maxHeartbeats 2000000 in
set_option maxRecDepth 100000 in
theorem hashes_any (s : List UInt8) (b c fa fb : Nat) (w : World) (h0 : w.cell? ⟨b, 0, none⟩ = some (.int .u64 (fa : Int))) (h1 : w.cell? ⟨b, 1, none⟩ = some (.int .u64 (fb : Int))) (ha : fa < 18446744073709551616) (hb : fb < 18446744073709551616) (hs : s.length ≤ 9223372036854775807) :
    Calls Tryz.prog 124 #[.string (bstr s), .slice (some ⟨b, 0, none⟩) 2 c] w fun e w' => ∃ g cap, e = .returned (.slice (some ⟨g, 0, none⟩) 2 cap) ∧ 2 ≤ cap ∧ TwoU w' g (hsh fa s) (hsh fb s) ∧ Below w.heap.size w w' := by
  go_enter Tryz.func124, Tryz.ntmps124
  go_wp2_with fail
  refine (Clone2 b c fa fb w h0 h1).mono ?_
  rintro e w1 ⟨g, cap, rfl, hcap, hg, ht, hbel⟩
  clear h0 h1
  go_wp2_with fail
  go_loopw [12] (fun s12 wr => ∃ i : Nat, s12 = .int .i64 (i : Int) ∧ i ≤ s.length ∧ TwoU wr g (hsh fa (s.take i)) (hsh fb (s.take i)) ∧ Below w.heap.size w wr) (fun s12 _ => s.length - (intOf s12).toNat)
  case atStart => exact ⟨0, rfl, Nat.zero_le _, ht, hbel⟩
  case round =>
    clear ht hbel
    obtain ⟨i, rfl, hi, ht, hbel⟩ := hrel
    obtain ⟨wo, rfl⟩ : ∃ wo, wr = wo := ⟨_, rfl⟩
    by_cases hlt : i < s.length
    · have hla := hsh_lt ha (s.take i)
      have hlb := hsh_lt hb (s.take i)
      have HA : Hid _ := hsh_succ fa hlt
      have HB : Hid _ := hsh_succ fb hlt
      generalize hsh fa (s.take i) = x at *
      generalize hsh fb (s.take i) = y at *
      go_wp2_with fail
      go_loopw [17] (fun s17 wr => ∃ n : Nat, s17 = .int .i64 (n : Int) ∧ n ≤ 2 ∧ TwoU wr g (if 0 < n then hst x s[i] else x) (if 1 < n then hst y s[i] else y) ∧ Below w.heap.size w wr) (fun s17 _ => 2 - (intOf s17).toNat)
      case atStart => exact ⟨0, rfl, by omega, by simpa only [Nat.not_lt_zero, if_false] using ht, hbel⟩
      case round =>
        clear ht hbel
        obtain ⟨n, rfl, hn, ht, hbel⟩ := hrel
        obtain ⟨c0, c1, f0, f1⟩ := ht.facts
        have e0 := hst_int x hla s[i]
        have e1 := hst_int y hlb s[i]
        rcases (by omega : n = 0 ∨ n = 1 ∨ n = 2) with rfl | rfl | rfl
        · simp only [Nat.lt_irrefl, if_false, Nat.not_lt_zero] at c0 c1 ht
          go_wp2_with fail
          go_region
          have ht' := (ht.set0 (hst x s[i])).drew
          have hbe' := below_set hbel hg (g := g) (o := 0) (.int .u64 (hst x s[i] : Int))
          generalize (wr.setCell ⟨g, 0, none⟩ (.int .u64 (hst x s[i] : Int))).drew = w2 at *
          clear ht c0 c1 f0 f1 e0 e1 hbel
          go_wp2
          go_roundw
          case rel => exact ⟨1, by go_num, by omega, by simpa only [Nat.zero_lt_one, Nat.lt_irrefl, if_true, if_false] using ht', hbe'⟩
          case measure => simp [intOf]
        · simp only [Nat.lt_irrefl, if_false, Nat.zero_lt_one, if_true] at c0 c1 ht
          go_wp2_with fail
          go_region
          have ht' := (ht.set1 (hst y s[i])).drew
          have hbe' := below_set hbel hg (g := g) (o := 1) (.int .u64 (hst y s[i] : Int))
          generalize (wr.setCell ⟨g, 1, none⟩ (.int .u64 (hst y s[i] : Int))).drew = w2 at *
          clear ht c0 c1 f0 f1 e0 e1 hbel
          go_wp2
          go_roundw
          case rel => exact ⟨2, by go_num, by omega, by simpa only [Nat.one_lt_two, Nat.zero_lt_two, if_true] using ht', hbe'⟩
          case measure => simp [intOf]
        · simp only [Nat.one_lt_two, Nat.zero_lt_two, if_true] at ht
          clear c0 c1 f0 f1 e0 e1
          go_wp2
          go_roundw
          case rel => exact ⟨i + 1, by go_num, by omega, by rw [HA.out, HB.out]; exact ht, hbel⟩
          case measure => simp [intOf]; omega
    · have hz : i = s.length := by omega
      subst hz
      rw [List.take_length] at ht
      go_wp2
      go_ret
      exact ⟨g, cap, rfl, hcap, ht, hbel⟩

end Go.Proofs.YtmpnofbhbglfpaaGreatDoor.Bl

namespace Go.Proofs.YtmpnofbhbglfpaaGreatDoor
open Go.RowKit
attribute [local go_sem] size_bstr getElem_bstr toList_bstr append_bstr

theorem be8_at {n : Nat} (_h : n < 18446744073709551616) : ∀ (i : Nat) (hi : i < 8), ((be8 n)[i]'hi).toNat = n / 256 ^ (7 - i) % 256 := by
  intro i hi
  obtain rfl | rfl | rfl | rfl | rfl | rfl | rfl | rfl : i = 0 ∨ i = 1 ∨ i = 2 ∨ i = 3 ∨ i = 4 ∨ i = 5 ∨ i = 6 ∨ i = 7 := by omega
  all_goals (simp only [be8, be4, List.cons_append, List.nil_append, List.getElem_cons_zero, List.getElem_cons_succ]; rw [toNat_toU8 (by omega)]; (try simp only [Nat.reduceSub, Nat.reducePow, Nat.div_one]); (try omega))

set_option maxHeartbeats 2000000 in
set_option maxRecDepth 100000 in
theorem layPlace_any (n : Nat) (w : World) (hn : n ≤ 4294967295) :
    Calls Tryz.prog 59 #[.int .i64 (n : Int)] w fun e w' => e = .returned (.string (bstr (be8 n))) ∧ RowKit.Below w.heap.size w w' := by
  have hmk : ∀ W : World, (Instr.makeSlice 88 (.int .i64 8) (.int .i64 8)).run Tryz.prog W = .ok (.slice (some ⟨W.heap.size, 0, none⟩) 8 8) (W.alloc (.cells (zs 8) 5)) := fun W => make_run .i64 8 (by omega) W
  have hms : (zs 8).size = 8 := by rw [← Array.length_toList, zs_toList, Lib.byteCells_length, zeros_length]
  have hun : IntKind.u64.wrap (n : Int) = (n : Int) := by rw [IntKind.wrap_u64]; omega
  have HB := be8_at (n := n) (by omega)
  have HB2 : Hid _ := HB
  clear HB
  go_enter Tryz.func59, Tryz.ntmps59
  go_wp2
  have hw0 : (w.alloc (Obj.cells (zs 8) 5)).heap[w.heap.size]? = some (.cells (zs 8) 5 (0, 0)) := heap_alloc_new w _
  have hb0 : Below w.heap.size w (w.alloc (Obj.cells (zs 8) 5)) := (Below.refl _ w).alloc (Nat.le_refl _) _
  generalize w.alloc (Obj.cells (zs 8) 5) = w0 at *
  clear hmk
  go_loopw [8] (fun s8 wr => ∃ (j : Nat) (cur : Array Value), s8 = .int .i64 (j : Int) ∧ j ≤ 8 ∧ wr.heap[w.heap.size]? = some (.cells cur 5 (0, 0)) ∧ cur.size = 8 ∧ cur.toList.take j = Lib.byteCells ((be8 n).take j) ∧ Below w.heap.size w wr) (fun s8 _ => 8 - (intOf s8).toNat)
  case atStart => exact ⟨0, _, rfl, by omega, hw0, hms, rfl, hb0⟩
  case round =>
    obtain ⟨j, cur, rfl, hj, hblk, hsz, htk, hbel⟩ := hrel
    clear hw0 hb0 hms
    have HT : Hid _ := htk
    clear htk
    by_cases hlt : j < 8
    · obtain ⟨x, hx⟩ : ∃ x : Nat, x = n / 256 ^ (7 - j) % 256 := ⟨_, rfl⟩
      have c1 : wr.cell? ⟨w.heap.size, j, none⟩ = some cur[j] := by rw [(Bl.cells_block hblk).1, Array.getElem?_eq_getElem (by omega)]
      have f1 := (Bl.cells_block hblk).2 j
      have hset := heap_set_same (o := j) hblk (.int .u8 (x : Int))
      have hb2 : Below w.heap.size w (wr.setCell ⟨w.heap.size, j, none⟩ (.int .u8 (x : Int))) := hbel.setCell (p := ⟨w.heap.size, j, none⟩) (Nat.le_refl _) _
      have hx8 := HB2.out j hlt
      have hrel2 : ∃ cur' : Array Value, (wr.setCell ⟨w.heap.size, j, none⟩ (.int .u8 (x : Int))).heap[w.heap.size]? = some (.cells cur' 5 (0, 0)) ∧ cur'.size = 8 ∧ cur'.toList.take (j + 1) = Lib.byteCells ((be8 n).take (j + 1)) := by
        refine ⟨_, hset, by simp [hsz], ?_⟩
        rw [Array.toList_setIfInBounds, List.take_succ_eq_append_getElem (by simp; omega), List.getElem_set_self, List.take_set_of_le (Nat.le_refl _), HT.out, List.take_succ_eq_append_getElem (by rw [be8_length]; omega), byteCells_append, hx, ← hx8]
        rfl
      have HR : Hid _ := hrel2
      clear hrel2 hset hblk hx8 HT
      generalize cur[j] = y at *
      have hx256 : x < 256 := by omega
      obtain rfl | rfl | rfl | rfl | rfl | rfl | rfl | rfl : j = 0 ∨ j = 1 ∨ j = 2 ∨ j = 3 ∨ j = 4 ∨ j = 5 ∨ j = 6 ∨ j = 7 := by omega
      all_goals (
        simp only [Nat.reduceSub, Nat.reducePow, Nat.div_one] at hx
        go_wp2
        go_roundw
        case rel =>
          obtain ⟨cur', h1, h2, h3⟩ := HR.out
          first
            | rw [show (n : Int) / 72057594037927936 = (x : Int) by omega]
            | rw [show (n : Int) / 281474976710656 = (x : Int) by omega]
            | rw [show (n : Int) / 281474976710656 % 256 = (x : Int) by omega]
            | rw [show (n : Int) / 1099511627776 = (x : Int) by omega]
            | rw [show (n : Int) / 4294967296 = (x : Int) by omega]
            | rw [show (n : Int) / 16777216 = (x : Int) by omega]
            | rw [show (n : Int) / 1099511627776 % 256 = (x : Int) by omega]
            | rw [show (n : Int) / 4294967296 % 256 = (x : Int) by omega]
            | rw [show (n : Int) / 16777216 % 256 = (x : Int) by omega]
            | rw [show (n : Int) / 65536 % 256 = (x : Int) by omega]
            | rw [show (n : Int) / 256 % 256 = (x : Int) by omega]
            | rw [show (n : Int) % 256 = (x : Int) by omega]
          exact ⟨_, cur', by go_num, by omega, h1, h2, h3, hb2⟩
        case measure => simp [intOf])
    · have hje : j = 8 := by omega
      subst hje
      have hfin : cur.toList = Lib.byteCells (be8 n) := by
        have h1 := HT.out
        rw [List.take_of_length_le (by rw [Array.length_toList]; omega), List.take_of_length_le (by rw [be8_length]; omega)] at h1
        exact h1
      have hown : wr.ownsRow w.heap.size 5 1 (.slice (some ⟨w.heap.size, 0, none⟩) 8 8) 8 (Lib.byteCells (be8 n)) := by
        refine ⟨by rw [Lib.byteCells_length, be8_length], .inr ⟨w.heap.size, 8, cur, rfl, Nat.le_refl _, hblk, Nat.le_refl _, by unfold maxLen; omega, by omega, ?_⟩⟩
        rw [hfin, List.take_of_length_le (by rw [Lib.byteCells_length, be8_length]; omega)]
      have hcv := run_convert_own (P := Tryz.prog) hown Tryz.underlying88 Tryz.underlying5 Tryz.underlying9
      clear hown hfin HT hblk HB2
      obtain ⟨L, hL⟩ : ∃ L, L = be8 n := ⟨_, rfl⟩
      rw [← hL] at hcv
      have HL : Hid _ := hL
      clear hL
      go_wp2
      go_ret
      exact ⟨by rw [← HL.out]; rfl, hbel⟩

/-- What bytes say, the highest first. -/
def rdN (l : List UInt8) : Nat := l.foldl (fun x b => x * 256 + b.toNat) 0
theorem rdN_snoc (l : List UInt8) (b : UInt8) : rdN (l ++ [b]) = rdN l * 256 + b.toNat := by simp [rdN]
theorem rdN_from (l : List UInt8) : ∀ x : Nat, l.foldl (fun x b => x * 256 + b.toNat) x < (x + 1) * 256 ^ l.length := by
  induction l with
  | nil => intro x; simp
  | cons b l ih =>
    intro x
    have h1 := ih (x * 256 + b.toNat)
    have h2 := b.toNat_lt
    rw [List.foldl_cons, List.length_cons, Nat.pow_succ]
    refine Nat.lt_of_lt_of_le h1 ?_
    have : (x * 256 + b.toNat + 1) * 256 ^ l.length ≤ (x + 1) * 256 * 256 ^ l.length := Nat.mul_le_mul_right _ (by omega)
    rw [Nat.mul_assoc, Nat.mul_comm 256] at this
    exact this
theorem rdN_lt (l : List UInt8) : rdN l < 256 ^ l.length := by
  have := rdN_from l 0
  rw [Nat.zero_add, Nat.one_mul] at this
  exact this
theorem rdN_small {l : List UInt8} (h : l.length ≤ 7) : rdN l < 72057594037927936 := by
  refine Nat.lt_of_lt_of_le (rdN_lt l) ?_
  have : 256 ^ l.length ≤ 256 ^ 7 := Nat.pow_le_pow_right (by decide) h
  exact this
theorem rd8_rdN {l : List UInt8} (h : 8 ≤ l.length) : rd8 l = rdN (l.take 8) := by
  obtain ⟨a, b, c, d, e, f, g, i, t, rfl⟩ := ex8 h
  show rd4 a b c d * 4294967296 + rd4 e f g i = _
  unfold rd4 rdN
  simp only [List.take_succ_cons, List.take_zero, List.foldl_cons, List.foldl_nil]
  omega

set_option maxHeartbeats 2000000 in
set_option maxRecDepth 100000 in
theorem blocksEnd_any (s : List UInt8) (w : World) (hs : s.length ≤ 4611686018427387904) :
    Calls Tryz.prog 31 #[.string (bstr s)] w fun e w' => e = .returned (.int .i64 (bEnd s : Int)) ∧ w' = w := by
  by_cases h16 : s.length < 16
  · have he : bEnd s = 0 := by unfold bEnd; rw [if_pos h16]
    have hg : (s.length : Int) - 16 < 0 := by omega
    rw [he]
    clear he
    go_enter Tryz.func31, Tryz.ntmps31
    go_wp2
    go_ret
    exact ⟨rfl, rfl⟩
  · obtain ⟨f, hf⟩ : ∃ f : Nat, f = s.length - 16 := ⟨_, rfl⟩
    have hfi : (s.length : Int) - 16 = (f : Int) := by omega
    have hg : ¬ ((f : Int) < 0) := by omega
    have hd : 8 ≤ (s.drop f).length := by rw [List.length_drop]; omega
    have hend : bEnd s = if f < rdN ((s.drop f).take 8) then 0 else rdN ((s.drop f).take 8) := by
      unfold bEnd
      rw [if_neg h16, ← hf, rd8_rdN hd]
    have HE : Hid _ := hend
    have HF : Hid _ := hf
    have HD : Hid _ := hd
    clear hend hd hf
    go_enter Tryz.func31, Tryz.ntmps31
    go_wp2
    go_loop [4, 11] (fun ve vi => ∃ i : Nat, vi = .int .i64 (i : Int) ∧ i ≤ 8 ∧ ve = .int .u64 (rdN ((s.drop f).take i) : Int)) (fun _ vi => 8 - (intOf vi).toNat)
    case atStart => exact ⟨0, rfl, by omega, rfl⟩
    case round =>
      obtain ⟨i, rfl, hi, rfl⟩ := hrel
      by_cases h8 : i < 8
      · have hk : f + i < s.length := by have := HF.out; omega
        have hki : (f : Int) + (i : Int) < (s.length : Int) := by omega
        have hk0 : (0 : Int) ≤ (f : Int) + (i : Int) := by omega
        have hkn : ((f : Int) + (i : Int)).toNat = f + i := by omega
        have hxb := rdN_small (l := (s.drop f).take i) (by rw [List.length_take]; omega)
        have hnx : rdN ((s.drop f).take (i + 1)) = rdN ((s.drop f).take i) * 256 + (s[f + i]'hk).toNat := by
          rw [List.take_succ_eq_append_getElem (by have := HD.out; omega), rdN_snoc, List.getElem_drop]
        have hor : bits .or .u64 ((rdN ((s.drop f).take i) : Int) * 256) ((s[f + i]'hk).toNat : Int) = (rdN ((s.drop f).take (i + 1)) : Int) := by
          have hb := (s[f + i]'hk).toNat_lt
          have h1 := u64_or_nat (rdN ((s.drop f).take i) * 256) (s[f + i]'hk).toNat (by omega) (by omega)
          have h2 := or_join (a := rdN ((s.drop f).take i)) (b := (s[f + i]'hk).toNat) (k := 8) (by omega)
          rw [show (2 : Nat) ^ 8 = 256 from rfl] at h2
          rw [h2, ← hnx] at h1
          rw [← h1]
          simp
        have hbl := (s[f + i]'hk).toNat_lt
        have HN : Hid _ := hnx
        clear hnx
        generalize rdN ((s.drop f).take i) = x at *
        generalize hy : rdN ((s.drop f).take (i + 1)) = y at *
        go_wp2
        go_round
        case rel => exact ⟨i + 1, by go_num, by omega, by rw [hy]⟩
        case measure => simp [intOf]; omega
      · have hi8 : i = 8 := by omega
        subst hi8
        generalize hx : rdN ((s.drop f).take 8) = x at *
        have hfs : (f : Int) ≤ 4611686018427387904 := by have := HF.out; omega
        by_cases hlt : f < x
        · have hli : (f : Int) < (x : Int) := by omega
          have E0 : Hid (bEnd s = 0) := by rw [HE.out, if_pos hlt]; rfl
          clear HE hx
          go_wp2
          go_ret
          exact ⟨by rw [E0.out]; rfl, rfl⟩
        · have hli : ¬ ((f : Int) < (x : Int)) := by omega
          have E0 : Hid (bEnd s = x) := by rw [HE.out, if_neg hlt]; rfl
          clear HE hx
          have hxw : wrap64 (x : Int) = (x : Int) := by unfold wrap64; omega
          go_wp2
          go_ret
          exact ⟨by rw [E0.out]; rfl, rfl⟩

end Go.Proofs.YtmpnofbhbglfpaaGreatDoor
