/-
  The document's answers for bloom: Hash, Places, Check, Has.
-/
import Derived.Test.YtiingodillcleaaBCut
namespace Go.Proofs.Ytiingodillcleaa
open Go.RowKit
attribute [local go_sem] size_bstr getElem_bstr toList_bstr

set_option maxHeartbeats 1000000 in
theorem RHash_any (s : List UInt8) (f : Nat) (w : World) (hf : f < 18446744073709551616) (hs : s.length ≤ 9223372036854775807) :
    Calls Try.prog 20 #[.string (bstr s), .int .u64 (f : Int)] w fun e w' => e = .returned (.int .u64 (hsh f s : Int)) ∧ w' = w := by
  go_enter Try.func20, Try.ntmps20
  go_wp2_with fail
  go_loopw [1, 5] (fun s1 s5 wr => ∃ i : Nat, s5 = .int .i64 (i : Int) ∧ i ≤ s.length ∧ s1 = .int .u64 (hsh f (s.take i) : Int) ∧ wr = w) (fun _ s5 _ => s.length - (intOf s5).toNat)
  case atStart => exact ⟨0, rfl, Nat.zero_le _, rfl, rfl⟩
  case round =>
    obtain ⟨i, rfl, hi, rfl, rfl⟩ := hrel
    by_cases hlt : i < s.length
    · have c1 : (i : Int) < (s.length : Int) := by omega
      have hx := hsh_lt hf (s.take i)
      have HS : Hid _ := hsh_succ f hlt
      generalize hsh f (s.take i) = x at *
      have e0 := hst_int x hx s[i]
      go_wp2
      go_roundw
      case rel => exact ⟨i + 1, by go_num, by omega, by rw [HS.out], trivial⟩
      case measure => simp [intOf]; omega
    · have hz : i = s.length := by omega
      subst hz
      rw [List.take_length]
      go_wp2
      go_ret
      exact ⟨rfl, rfl⟩

theorem Try.infoInt : (Try.prog.info? 3).map (fun i => (i.zero, i.size, i.bytes)) = some (some (.int .i64 0), 1, 8) := by kernel_rfl
/-- Numbers as cells. -/
def iCells (ps : List Nat) : List Value := ps.map fun p : Nat => Value.int .i64 (p : Int)
theorem iCells_length (ps : List Nat) : (iCells ps).length = ps.length := by simp [iCells]
theorem iCells_append (a b : List Nat) : iCells (a ++ b) = iCells a ++ iCells b := by simp [iCells]
/-- What Places tells, as a row. -/
structure IRow (w : World) (q : Option Addr) (g : Nat) (ps : List Nat) : Prop where
  out : 0 < ps.length → q = some ⟨g, 0, none⟩ ∧ g < w.heap.size ∧ ∀ j (h : j < ps.length), w.cell? ⟨g, j, none⟩ = some (.int .i64 (ps[j] : Int))
theorem own_irow {w : World} {B e : Nat} {v : Value} {n : Nat} {ps : List Nat} (h : w.ownsRow B e 1 v n (iCells ps)) : n = ps.length ∧ ∃ q cap g, v = .slice q ps.length cap ∧ ps.length ≤ cap ∧ IRow w q g ps ∧ (0 < ps.length → B ≤ g) := by
  have hn : ps.length = n := by have := h.1; rw [iCells_length] at this; omega
  subst hn
  refine ⟨rfl, ?_⟩
  rcases h.2 with ⟨rfl, h0⟩ | ⟨g, cap, cur, rfl, hbg, hg, hnc, hcm, hcs, htake⟩
  · exact ⟨none, 0, 0, by rw [h0], by omega, ⟨fun h1 => by omega⟩, fun h1 => by omega⟩
  · refine ⟨some ⟨g, 0, none⟩, cap, g, rfl, hnc, ⟨fun _ => ⟨rfl, blk_lt hg, fun j hj => ?_⟩⟩, fun _ => hbg⟩
    have := h.cells (g := g) rfl j (.int .i64 (ps[j] : Int)) (by simp [iCells, hj])
    rw [Addr.add_lit, Nat.zero_add] at this
    exact this

theorem place_int (s : List UInt8) (m i xa xb : Nat) (ha : xa = hA s) (hb : xb = hB s) : ∃ y1 y2 : Nat, IntKind.u64.wrap ((i : Int) * (xb : Int)) = (y1 : Int) ∧ IntKind.u64.wrap ((xa : Int) + (y1 : Int)) = (y2 : Int) ∧ (y2 : Int).tmod (m : Int) = (plc s m i : Int) ∧ (y2 : Int) % (m : Int) = (plc s m i : Int) := by
  rw [ha, hb]
  refine ⟨i * hB s % 18446744073709551616, pll s i, ?_, ?_, ?_, ?_⟩
  · rw [IntKind.wrap_u64, ← Int.natCast_mul]
    generalize i * hB s = y
    omega
  · unfold pll
    rw [IntKind.wrap_u64]
    generalize i * hB s = y
    generalize hA s = x
    omega
  · rw [Int.tmod_eq_emod_of_nonneg (by omega)]
    unfold plc
    rw [Int.natCast_emod]
  · unfold plc
    rw [Int.natCast_emod]

set_option maxHeartbeats 2000000 in
set_option maxRecDepth 100000 in
theorem RPlaces_any (s : List UInt8) (k m : Nat) (w : World) (hk : k ≤ 8) (hm0 : 0 < m) (hm : m ≤ 1048576) (hs : s.length ≤ 9223372036854775807) :
    Calls Try.prog 17 #[.string (bstr s), .int .i64 (k : Int), .int .i64 (m : Int)] w fun e w' => ∃ v, e = .returned v ∧ w'.ownsRow w.heap.size 3 1 v k (iCells (plcs s k m)) ∧ Below w.heap.size w w' := by
  obtain ⟨i0, hi0, hz0, hz1, hz2⟩ := info_parts Try.infoInt
  have h1 := RHash_any s 14695981039346656037 w (by decide) hs
  have h2 := RHash_any s 9521554427338878180 w (by decide) hs
  go_enter Try.func17, Try.ntmps17
  go_wp2_with fail
  refine h1.mono ?_
  rintro e w1 ⟨rfl, rfl⟩
  go_wp2_with fail
  refine h2.mono ?_
  rintro e w2 ⟨rfl, rfl⟩
  have hla : hsh 14695981039346656037 s < 18446744073709551616 := hA_lt s
  have hlb : hsh 9521554427338878180 s < 18446744073709551616 := hB_lt s
  clear h1 h2
  obtain ⟨xa, hxa⟩ : ∃ xa, xa = hsh 14695981039346656037 s := ⟨_, rfl⟩
  obtain ⟨xb, hxb⟩ : ∃ xb, xb = hsh 9521554427338878180 s := ⟨_, rfl⟩
  rw [← hxa, ← hxb]
  rw [← hxa] at hla
  rw [← hxb] at hlb
  have HXA : Hid (xa = hA s) := hxa
  have HXB : Hid (xb = hB s) := hxb
  clear hxa hxb
  go_wp2_with fail
  go_loopw [7, 10] (fun s7 s10 wr => ∃ i : Nat, s10 = .int .i64 (i : Int) ∧ i ≤ k ∧ wr.ownsRow w2.heap.size 3 1 s7 i (iCells (plcs s i m)) ∧ Below w2.heap.size w2 wr) (fun _ s10 _ => k - (intOf s10).toNat)
  case atStart => exact ⟨0, rfl, Nat.zero_le _, ⟨rfl, .inl ⟨rfl, rfl⟩⟩, Below.refl _ _⟩
  case round =>
    obtain ⟨i, rfl, hik, hown, hbel⟩ := hrel
    by_cases hlt : i < k
    · have c1 : (i : Int) < (k : Int) := by omega
      have hpl := plc_lt s hm0 i
      have HEP : Hid ((wrap64 ((IntKind.u64.wrap ((xa : Int) + IntKind.u64.wrap ((i : Int) * (xb : Int)))).tmod (m : Int))) = (plc s m i : Int)) := by
        obtain ⟨y1, y2, hy1, hy2, hp1, hp2⟩ := place_int s m i xa xb HXA.out HXB.out
        show _ = _
        rw [hy1, hy2, hp1]
        unfold wrap64
        omega
      have HS : Hid _ := plcs_succ s i m
      have hsz := hbel.size
      have hnews : ∀ j u, [Value.int .i64 (wrap64 ((IntKind.u64.wrap ((xa : Int) + IntKind.u64.wrap ((i : Int) * (xb : Int)))).tmod (m : Int)))][j]? = some u → (wr.alloc (.cells #[.int .i64 (wrap64 ((IntKind.u64.wrap ((xa : Int) + IntKind.u64.wrap ((i : Int) * (xb : Int)))).tmod (m : Int)))] 3)).cell? ((⟨wr.heap.size, 0, none⟩ : Addr).add j) = some u := by
        intro j u hj
        rw [Addr.add_lit]
        match j, hj with
        | 0, hj =>
          cases hj
          exact (cells_block (heap_alloc_new wr _)).1 0
      have y3 : Hid (i + 1 ≤ maxLen) := by show _ ≤ _; unfold maxLen; omega
      have y4 : Hid ((i + 1) * 8 ≤ 140737488355328) := by show _ ≤ _; omega
      have y5 : Hid (w2.heap.size ≤ (wr.alloc (.cells #[.int .i64 (wrap64 ((IntKind.u64.wrap ((xa : Int) + IntKind.u64.wrap ((i : Int) * (xb : Int)))).tmod (m : Int)))] 3)).heap.size) := by show _ ≤ _; simp; omega
      have y6 : Hid (∀ u ∈ [Value.int .i64 (wrap64 ((IntKind.u64.wrap ((xa : Int) + IntKind.u64.wrap ((i : Int) * (xb : Int)))).tmod (m : Int)))], u.oneCell' = true) := by intro u hu; simp at hu; subst hu; rfl
      have HN : Hid _ := hnews
      clear hnews hpl
      go_wp2_with (at_builtin; refine wpList_append_own _ rfl _ _ 36 rfl w2.heap.size 3 i0 (.int .i64 0) 1 8 Try.underlying36 hi0 hz0 hz1 hz2 rfl (by decide) _ _ _ rfl (hown.alloc _) ⟨wr.heap.size, 0, none⟩ 1 1 [.int .i64 (wrap64 ((IntKind.u64.wrap ((xa : Int) + IntKind.u64.wrap ((i : Int) * (xb : Int)))).tmod (m : Int)))] rfl rfl HN.out y6.out y3.out y4.out y5.out ?_)
      intro v4 w4 hown4 hgr4 _
      have hbw4 : Below w2.heap.size w2 w4 := (hbel.alloc hbel.size _).grown hgr4 (by simp; omega) (fun k hk => (hown.lt k hk).1)
      rw [HEP.out] at hown4
      have hown5 : w4.ownsRow w2.heap.size 3 1 v4 (i + 1) (iCells (plcs s (i + 1) m)) := by
        rw [HS.out, iCells_append]
        exact hown4
      obtain ⟨q4, cap4, rfl⟩ := own_succ hown5
      clear hown hown4 hgr4 HN y5 y6
      go_wp2
      go_roundw
      case rel => exact ⟨i + 1, by go_num, by omega, hown5, hbw4⟩
      case measure => simp [intOf]; omega
    · have hz : i = k := by omega
      subst hz
      have c1 : ¬ (i : Int) < (i : Int) := by omega
      go_wp2
      go_ret
      exact ⟨_, rfl, hown, hbel⟩

end Go.Proofs.Ytiingodillcleaa
