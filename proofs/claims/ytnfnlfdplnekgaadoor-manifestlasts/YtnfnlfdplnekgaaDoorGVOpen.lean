/-
  The laws' states, as lists: level by level so many files, whose rows rise; they may be.
  The laws' states, in memory: what is known between levels and between files.
  How an argument that is a list of bytes is read.
-/
import Derived.Test.YtnfnlfdplnekgaaDoorGVChkM
import Derived.Test.YtnfnlfdplnekgaaDoorGVWks
import Derived.Test.YtnfnlfdplnekgaaDoorRows
import Derived.ProofKit
import Derived.OpenShut
import Derived.ShutString
import Derived.ChangeSame
import Derived.Carry
import Derived.ChangeSlices
namespace Go.Proofs.YtnfnlfdplnekgaaDoor

/-- A file of a state that is made: the k-th of level i, where the first one's Id is a. -/
def mdF (a i k : Nat) : Fi := ⟨a + k, [(2 * k).toUInt8, i.toUInt8], [(2 * k + 1).toUInt8], 1 + (k : Int)⟩
def mdL (a i c : Nat) : List Fi := (List.range c).map (mdF a i)
/-- The next Id, ahead of level i. -/
def mdN (xs : List Nat) : Nat → Nat
  | 0 => 1
  | i + 1 => mdN xs i + (xs.getD i 0) % 30
def mdS (xs : List Nat) (m : Nat) : List (List Fi) := (List.range m).map fun i => mdL (mdN xs i) i ((xs.getD i 0) % 30)
theorem mdL_length (a i c : Nat) : (mdL a i c).length = c := by simp [mdL]
theorem mdS_length (xs : List Nat) (m : Nat) : (mdS xs m).length = m := by simp [mdS]
theorem mdL_succ (a i c : Nat) : mdL a i (c + 1) = mdL a i c ++ [mdF a i c] := by
  unfold mdL
  rw [List.range_succ, List.map_append]
  rfl
theorem mdS_succ (xs : List Nat) (m : Nat) : mdS xs (m + 1) = mdS xs m ++ [mdL (mdN xs m) m ((xs.getD m 0) % 30)] := by
  unfold mdS
  rw [List.range_succ, List.map_append]
  rfl
theorem mdN_le (xs : List Nat) (i : Nat) : 1 ≤ mdN xs i ∧ mdN xs i ≤ 1 + 29 * i := by
  induction i with
  | zero => exact ⟨Nat.le_refl _, Nat.le_refl _⟩
  | succ i ih =>
    have : (xs.getD i 0) % 30 < 30 := Nat.mod_lt _ (by decide)
    unfold mdN
    omega
/-- Its Ids, one behind the other. -/
theorem mdS_ids (xs : List Nat) (m : Nat) : (mdS xs m).flatten.map Fi.id = List.range' 1 (mdN xs m - 1) := by
  induction m with
  | zero => rfl
  | succ m ih =>
    rw [mdS_succ, List.flatten_append, List.map_append, ih]
    have h1 := mdN_le xs m
    have e : mdN xs (m + 1) - 1 = (mdN xs m - 1) + (xs.getD m 0) % 30 := by
      show mdN xs m + (xs.getD m 0) % 30 - 1 = _
      omega
    rw [e, List.range'_append_1.symm]
    congr 1
    simp only [List.flatten_cons, List.flatten_nil, List.append_nil]
    have e2 : 1 + (mdN xs m - 1) = mdN xs m := by omega
    rw [e2]
    generalize (xs.getD m 0) % 30 = c
    generalize mdN xs m = a
    clear ih h1 e e2
    induction c with
    | zero => rfl
    | succ c ih =>
      rw [mdL_succ, List.map_append, ih, List.range'_1_concat]
      rfl
theorem many_mdS (xs : List Nat) (m : Nat) : many (mdS xs m) = mdN xs m - 1 := by
  have h := congrArg List.length (mdS_ids xs m)
  rw [List.length_map, List.length_range'] at h
  rw [many_flat, h]
theorem u8n {k : Nat} (h : k < 256) : k.toUInt8.toNat = k := by simp [Nat.toUInt8]; omega
theorem ls_cons {a b : UInt8} {x y : List UInt8} (h : a.toNat < b.toNat) : ls (a :: x) (b :: y) = true := by
  unfold ls
  simp [Op.bytesLess]
  left
  exact UInt8.lt_iff_toNat_lt.2 h
theorem mdF_may (a i k : Nat) (hk : k < 30) (ha : 1 ≤ a) : mayF (mdF a i k) = true := by
  have h1 : ls (mdF a i k).low (mdF a i k).high = true := ls_cons (by rw [u8n (by omega), u8n (by omega)]; omega)
  simp only [mayF, Bool.and_eq_true, decide_eq_true_eq, Bool.or_eq_true]
  refine ⟨by show 1 ≤ a + k; omega, .inl h1, by show max 2 1 ≤ 32; decide, by show (1 : Int) ≤ 1 + (k : Int); omega, by show 1 + (k : Int) ≤ _; omega⟩
/-- A state that is made may be. -/
theorem mdS_ok (xs : List Nat) (m : Nat) (hm : m ≤ 7) (log : Nat) (hl : log < 4294967296) : OkS (mdN xs m) (1 + log) (mdS xs m) := by
  have hn := mdN_le xs m
  refine ⟨?_, ?_, by rw [mdS_length]; exact hm, by rw [many_mdS]; omega, fun l hl f hf => ?_, ?_, fun i l t f f' hl hi h1 h2 => ?_⟩
  · simp only [cntB, Bool.and_eq_true, decide_eq_true_eq]; omega
  · simp only [cntB, Bool.and_eq_true, decide_eq_true_eq]; omega
  · have hid : f.id ∈ (mdS xs m).flatten.map Fi.id := List.mem_map.2 ⟨f, List.mem_flatten.2 ⟨l, hl, hf⟩, rfl⟩
    rw [mdS_ids, List.mem_range'_1] at hid
    refine ⟨?_, by omega⟩
    unfold mdS at hl
    obtain ⟨i, _, rfl⟩ := List.mem_map.1 hl
    unfold mdL at hf
    obtain ⟨k, hk, rfl⟩ := List.mem_map.1 hf
    have h30 : (xs.getD i 0) % 30 < 30 := Nat.mod_lt _ (by decide)
    exact mdF_may _ _ _ (by have := List.mem_range.1 hk; omega) (mdN_le xs i).1
  · rw [mdS_ids]
    exact List.nodup_range'
  · have him : i < m := by
      have := (List.getElem?_eq_some_iff.1 hl).1
      rwa [mdS_length] at this
    have hle : l = mdL (mdN xs i) i ((xs.getD i 0) % 30) := by
      unfold mdS at hl
      simp [him] at hl
      exact hl.symm
    subst hle
    have h30 : (xs.getD i 0) % 30 < 30 := Nat.mod_lt _ (by decide)
    have ht : t + 1 < (xs.getD i 0) % 30 := by
      have := (List.getElem?_eq_some_iff.1 h2).1
      rwa [mdL_length] at this
    unfold mdL at h1 h2
    rw [List.getElem?_map, List.getElem?_range (by omega)] at h1 h2
    cases h1
    cases h2
    have h3 : ls [(2 * t + 1).toUInt8] [(2 * (t + 1)).toUInt8, i.toUInt8] = true := ls_cons (by rw [u8n (by omega), u8n (by omega)]; omega)
    show (!(ls [(2 * t + 1).toUInt8] [(2 * (t + 1)).toUInt8, i.toUInt8])) = false
    rw [h3]
    rfl

end Go.Proofs.YtnfnlfdplnekgaaDoor

namespace Go.Proofs.YtnfnlfdplnekgaaDoor
open Go.RowKit Go.BigFrame Go.Sort
attribute [local go_sem] size_bstr toList_bstr ls_def

theorem run_convert_one (W : World) (z : Nat) (hz : z < 256) :
    (convert 30 9 (.slice (some ⟨W.heap.size, 0, none⟩) 1 1)).run Tryd.prog (W.alloc (.cells #[.int .u8 (z : Int)] 5)) = .ok (.string (bstr [z.toUInt8])) (W.alloc (.cells #[.int .u8 (z : Int)] 5)) := by
  have hown : (W.alloc (.cells #[.int .u8 (z : Int)] 5)).ownsRow W.heap.size 5 1 (.slice (some ⟨W.heap.size, 0, none⟩) 1 1) 1 (Lib.byteCells [z.toUInt8]) := by
    have h := World.ownsRow_lit (base := W.heap.size) (e := 5) (size := 1) W #[.int .u8 (z : Int)] 1 (Nat.le_refl _) (by decide) (by simp)
    have e : Lib.byteCells [z.toUInt8] = [.int .u8 (z : Int)] := by simp [Lib.byteCells, Nat.toUInt8]; omega
    rw [e]
    exact h
  exact run_convert_own hown Tryd.underlying30 Tryd.underlying5 Tryd.underlying9
theorem run_convert_two (W : World) (a b : Nat) (ha : a < 256) (hb : b < 256) :
    (convert 30 9 (.slice (some ⟨W.heap.size, 0, none⟩) 2 2)).run Tryd.prog (W.alloc (.cells #[.int .u8 (a : Int), .int .u8 (b : Int)] 5)) = .ok (.string (bstr [a.toUInt8, b.toUInt8])) (W.alloc (.cells #[.int .u8 (a : Int), .int .u8 (b : Int)] 5)) := by
  have hown : (W.alloc (.cells #[.int .u8 (a : Int), .int .u8 (b : Int)] 5)).ownsRow W.heap.size 5 1 (.slice (some ⟨W.heap.size, 0, none⟩) 2 2) 2 (Lib.byteCells [a.toUInt8, b.toUInt8]) := by
    have h := World.ownsRow_lit (base := W.heap.size) (e := 5) (size := 1) W #[.int .u8 (a : Int), .int .u8 (b : Int)] 2 (Nat.le_refl _) (by decide) (by simp)
    have e : Lib.byteCells [a.toUInt8, b.toUInt8] = [.int .u8 (a : Int), .int .u8 (b : Int)] := by simp [Lib.byteCells, Nat.toUInt8]; omega
    rw [e]
    exact h
  exact run_convert_own hown Tryd.underlying30 Tryd.underlying5 Tryd.underlying9
theorem mad_num {k i c xi : Nat} (hk : k < c) (hc : c < 30) (hi : i < 7) (ht : (xi : Int).tmod 30 = (c : Int)) :
    wrap64 (2 * (k : Int)) = 2 * (k : Int) ∧ IntKind.u8.wrap (2 * (k : Int)) = 2 * (k : Int) ∧ wrap64 (2 * (k : Int) + 1) = 2 * (k : Int) + 1 ∧ IntKind.u8.wrap (2 * (k : Int) + 1) = 2 * (k : Int) + 1 ∧ IntKind.u8.wrap (i : Int) = (i : Int) ∧ wrap64 (1 + (k : Int)) = 1 + (k : Int) ∧ (xi : Int) % 30 = (c : Int) ∧ (k : Int) < (c : Int) ∧ wrap64 ((k : Int) + 1) = (k : Int) + 1 := by
  refine ⟨by unfold wrap64; omega, by rw [IntKind.wrap_u8]; omega, by unfold wrap64; omega, by rw [IntKind.wrap_u8]; omega, by rw [IntKind.wrap_u8]; omega, by unfold wrap64; omega, ?_, by omega, by unfold wrap64; omega⟩
  rw [← ht, Int.tmod_eq_emod_of_nonneg (by omega)]
theorem mad_conv (wx : World) {k i c : Nat} (hk : k < c) (hc : c < 30) (hi : i < 7) :
    (convert 30 9 (.slice (some ⟨wx.heap.size, 0, none⟩) 2 2)).run Tryd.prog (wx.alloc (.cells #[.int .u8 (2 * (k : Int)), .int .u8 (i : Int)] 5)) = .ok (.string (bstr [(2 * k).toUInt8, i.toUInt8])) (wx.alloc (.cells #[.int .u8 (2 * (k : Int)), .int .u8 (i : Int)] 5)) ∧
    (convert 30 9 (.slice (some ⟨wx.heap.size + 1, 0, none⟩) 1 1)).run Tryd.prog ((wx.alloc (.cells #[.int .u8 (2 * (k : Int)), .int .u8 (i : Int)] 5)).alloc (.cells #[.int .u8 (2 * (k : Int) + 1)] 5)) = .ok (.string (bstr [(2 * k + 1).toUInt8])) ((wx.alloc (.cells #[.int .u8 (2 * (k : Int)), .int .u8 (i : Int)] 5)).alloc (.cells #[.int .u8 (2 * (k : Int) + 1)] 5)) := by
  have k1 := run_convert_two wx (2 * k) i (by omega) (by omega)
  have k2 := run_convert_one (wx.alloc (.cells #[.int .u8 ((2 * k : Nat) : Int), .int .u8 (i : Int)] 5)) (2 * k + 1) (by omega)
  have e1 : ((2 * k : Nat) : Int) = 2 * (k : Int) := by omega
  have e2 : ((2 * k + 1 : Nat) : Int) = 2 * (k : Int) + 1 := by omega
  rw [e1] at k1 k2
  rw [e2, World.size_alloc] at k2
  exact ⟨k1, k2⟩
/-- Bytes that are read. -/
def ByRow (w : World) (b off : Nat) (xs : List Nat) : Prop := ∀ i (h : i < xs.length), w.cell? ⟨b, off + i, none⟩ = some (.int .u8 (xs[i] : Int))
/-- The state under way: its box, its levels. -/
structure MJ (w : World) (SB log : Nat) (xs : List Nat) (i : Nat) (vS : Value) (vs : List Value) (W : World) : Prop where
  sb : W.heap[SB]? = some (.cells #[.int .u64 (mdN xs i : Int), .int .u64 (1 + log : Int), vS] 28 (0, 0))
  rc : W.heap[w.heap.size]? = some (.cells #[.int .u64 0, .int .u64 0, .slice none 0 0] 28 (0, 0))
  len : vs.length = i
  lv : W.ownsRow (SB + 1) 46 1 vS i vs
  rows : ∀ (j : Nat) (u : Value), vs[j]? = some u → W.ownsRow (SB + 1) 48 4 u ((xs.getD j 0) % 30) (fcells (mdL (mdN xs j) j ((xs.getD j 0) % 30)))
  bl : Below w.heap.size w W
theorem own_apart {w w' : World} {B B2 e e2 size size2 n n2 : Nat} {v v2 : Value} {xs ys : List Value} (h : w.ownsRow B e size v n xs) (h2 : w.ownsRow B2 e2 size2 v2 n2 ys) (hne : e ≠ e2) (hg : w.grownBy w' v2.ownBlock) : w'.ownsRow B e size v n xs := by
  rcases h.2 with h0 | ⟨g, cap, cur, hv, hbg, hgc, hnc, hcm, hcs, htake⟩
  · exact ⟨h.1, .inl h0⟩
  · have hnot : v2.ownBlock ≠ some g := by
      intro hs
      rcases h2.2 with ⟨hv2, _⟩ | ⟨g2, cap2, cur2, hv2, _, hgc2, _⟩
      · rw [hv2] at hs
        exact absurd hs (by simp [Value.ownBlock])
      · rw [hv2] at hs
        have : g2 = g := by simpa [Value.ownBlock] using hs
        rw [this, hgc] at hgc2
        have := Option.some.inj hgc2
        injection this with _ h5 _
        exact hne h5
    exact h.kept hg (.inr (by rw [hv]; exact fun heq => hnot heq.symm))
theorem own_mono {w : World} {B B' e size n : Nat} {v : Value} {xs : List Value} (h : w.ownsRow B e size v n xs) (hB : B' ≤ B) : w.ownsRow B' e size v n xs := by
  rcases h.2 with h0 | ⟨g, cap, cur, hv, hbg, r⟩
  · exact ⟨h.1, .inl h0⟩
  · exact ⟨h.1, .inr ⟨g, cap, cur, hv, by omega, r⟩⟩
/-- A file was appended to a level: the state's own box, and what else there was. -/
theorem mad_kept {wr wx w4 : World} {SB : Nat} {o1 o2 o3 : Obj} {e size n : Nat} {u : Value} {ys : List Value} (hk : Kp wr wx (fun j => j = SB)) (hSB : SB < wr.heap.size) (hown : wx.ownsRow wr.heap.size e size u n ys) (hg : (((wx.alloc o1).alloc o2).alloc o3).grownBy w4 u.ownBlock) :
    w4.heap[SB]? = wx.heap[SB]? ∧ Kp wr w4 (fun j => j = SB) := by
  have h1 := hk.size
  have hlt : SB < wx.heap.size := by omega
  have hn : some SB ≠ u.ownBlock := fun h => by have := (own_blk_lt hown h.symm).2; omega
  have hb : Kp wx w4 (fun j => u.ownBlock = some j) := (((Kp.refl wx _).alloc o1).alloc o2 |>.alloc o3).trans (Kp.of_grown hg (S := fun j => u.ownBlock = some j) fun k h => h) fun i h => .inl h
  exact ⟨hb.block SB hlt fun h => hn h.symm, hk.trans hb fun i h => .inr (by have := (own_blk_lt hown h).2; omega)⟩
/-- A level is through. -/
theorem MJ.next {w wr wx w5 : World} {log i a c : Nat} {xs : List Nat} {vS v' u : Value} {vs : List Value} {o : Obj} (hM : MJ w (w.heap.size + 1) log xs i vS vs wr) (hk : Kp wr wx (fun j => j = w.heap.size + 1)) (hown : wx.ownsRow wr.heap.size 48 4 u c (fcells (mdL a i c))) (hc : xs.getD i 0 % 30 = c) (ha : mdN xs i = a)
    (hs : wx.heap[w.heap.size + 1]? = some (.cells #[.int .u64 (a + c : Int), .int .u64 (1 + log : Int), vS] 28 (0, 0))) (hown5 : w5.ownsRow (w.heap.size + 1 + 1) 46 1 v' (i + 1) (vs ++ [u])) (hg : (wx.alloc o).grownBy w5 vS.ownBlock) : MJ w (w.heap.size + 1) log xs (i + 1) v' (vs ++ [u]) (w5.setCell ⟨w.heap.size + 1, 2, none⟩ v') := by
  have hsw := lt_of_block hM.sb
  have hsx : w.heap.size + 1 < wx.heap.size := by have := hk.size; omega
  have hlvx : wx.ownsRow (w.heap.size + 1 + 1) 46 1 vS i vs := own_kept hM.lv fun g h => hk.block g (own_blk_lt hM.lv h).1 (by have := (own_blk_lt hM.lv h).2.1; omega)
  have hb : Kp wx w5 (fun j => vS.ownBlock = some j) := ((Kp.refl wx _).alloc o).trans (Kp.of_grown hg (S := fun j => vS.ownBlock = some j) fun k h => h) fun i h => .inl h
  have hn : ∀ j, j ≤ w.heap.size + 1 → ¬ vS.ownBlock = some j := fun j hj h => by have := (own_blk_lt hlvx h).2.1; omega
  have hset : ∀ {e size n : Nat} {v : Value} {ys : List Value}, w5.ownsRow (w.heap.size + 1 + 1) e size v n ys → (w5.setCell ⟨w.heap.size + 1, 2, none⟩ v').ownsRow (w.heap.size + 1 + 1) e size v n ys := fun h => own_kept h fun g hg => heap_set_other _ (by have := (own_blk_lt h hg).2.1; omega)
  have hap : ∀ {n : Nat} {v : Value} {ys : List Value}, wx.ownsRow (w.heap.size + 1 + 1) 48 4 v n ys → (w5.setCell ⟨w.heap.size + 1, 2, none⟩ v').ownsRow (w.heap.size + 1 + 1) 48 4 v n ys := fun h => hset (own_apart (h.alloc o) (hlvx.alloc o) (by decide) hg)
  refine ⟨?_, ?_, ?_, hset hown5, fun j v hj => ?_, ?_⟩
  · have h5 := (hb.block _ hsx (hn _ (Nat.le_refl _))).trans hs
    have h6 := heap_set_same h5 (o := 2) v'
    rw [h6]
    have e : (mdN xs (i + 1) : Int) = (a : Int) + (c : Int) := by show ((mdN xs i + xs.getD i 0 % 30 : Nat) : Int) = _; rw [ha, hc]; omega
    rw [e]
    rfl
  · rw [heap_set_other _ (by omega), hb.block _ (by omega) (hn _ (by omega)), hk.block _ (by omega) (by omega)]
    exact hM.rc
  · rw [List.length_append, hM.len]; rfl
  · by_cases hji : j < i
    · rw [List.getElem?_append_left (by rw [hM.len]; exact hji)] at hj
      have h := hM.rows j v hj
      exact hap (own_kept h fun g hg => hk.block g (own_blk_lt h hg).1 (by have := (own_blk_lt h hg).2.1; omega))
    · have hji2 : j = i := by
        have := (List.getElem?_eq_some_iff.1 hj).1
        rw [List.length_append, hM.len] at this
        have e1 : [u].length = 1 := rfl
        omega
      subst hji2
      rw [List.getElem?_append_right (by rw [hM.len]; exact Nat.le_refl _), hM.len, Nat.sub_self] at hj
      cases hj
      rw [hc, ha]
      exact hap (own_mono hown (by omega))
  · have h1 := hk.below (B := w.heap.size) (by omega) (fun j h => by omega)
    have h2 := hb.below (B := w.heap.size) (by omega) (fun j h => by have := (own_blk_lt hlvx h).2.1; omega)
    have h3 : Below w.heap.size w w5 := ⟨h2.os.trans (h1.os.trans hM.bl.os), h2.tape.trans (h1.tape.trans hM.bl.tape), h2.output.trans (h1.output.trans hM.bl.output), Nat.le_trans hM.bl.size (Nat.le_trans h1.size h2.size), fun i hi => (h2.block i hi).trans ((h1.block i hi).trans (hM.bl.block i hi))⟩
    exact below_setv h3 (by omega) _
/-- Its levels, as an argument. -/
theorem MJ.arg {w W W' : World} {log i : Nat} {xs : List Nat} {vS : Value} {vs : List Value} (h : MJ w (w.heap.size + 1) log xs i vS vs W) (hW : ∀ j, w.heap.size + 1 < j → W'.heap[j]? = W.heap[j]?) : LArg W' vS vs (mdS xs i) := by
  have hl : W'.ownsRow (w.heap.size + 1 + 1) 46 1 vS i vs := own_kept h.lv fun g hg => hW g (by have := (own_blk_lt h.lv hg).2.1; omega)
  refine ⟨by rw [h.len, mdS_length], ?_, fun k u l hu hl2 => ?_⟩
  · rw [mdS_length]
    rcases hl.2 with ⟨rfl, h0⟩ | ⟨g, cap, cur, hv, hbg, hg, hnc, hcm, hcs, htake⟩
    · exact ⟨none, 0, by rw [h0], by omega, fun h1 => by omega⟩
    · refine ⟨_, cap, hv, hnc, fun _ => ⟨g, 0, rfl, lt_of_block hg, fun k u hu => ?_⟩⟩
      rw [(vcb hg).1, Nat.zero_add]
      have hk : k < i := by have := (List.getElem?_eq_some_iff.1 hu).1; rw [h.len] at this; exact this
      rw [← htake, List.getElem?_take, if_pos (by omega)] at hu
      rw [← hu, Array.getElem?_toList]
  · have hk : k < i := by have := (List.getElem?_eq_some_iff.1 hu).1; rw [h.len] at this; exact this
    have hr := h.rows k u hu
    have hr2 : W'.ownsRow (w.heap.size + 1 + 1) 48 4 u ((xs.getD k 0) % 30) (fcells (mdL (mdN xs k) k ((xs.getD k 0) % 30))) := own_kept hr fun g hg => hW g (by have := (own_blk_lt hr hg).2.1; omega)
    have hle : l = mdL (mdN xs k) k ((xs.getD k 0) % 30) := by
      unfold mdS at hl2
      simp [hk] at hl2
      exact hl2.symm
    subst hle
    refine own_varg (B := w.heap.size + 1 + 1) (e := 48) ?_
    rw [mdL_length]
    exact hr2

end Go.Proofs.YtnfnlfdplnekgaaDoor

namespace Go.Proofs.YtnfnlfdplnekgaaDoor
set_option maxRecDepth 100000
open Go.ChangeShapes Go.WideShapes Go.ChangeAt Go.RowKit

theorem k_laidOut : laidOutB Tryd.prog = true := by kernel_rfl
theorem byte_cells : Tryd.prog.cellsOf 5 = 1 := by kernel_rfl

section
variable {H : Type} {enc : TypeId × Value → H} {w : World} {base : Nat} {spare : Nat → Bool} {held : Bool}

/-- An argument that is a list of bytes. -/
theorem arg_byrow {v : Value} {d : DataW H} {p : List MemPlace} {r : Reach} {b : Nat} (hv : Value.okWide Tryd.prog w r b 30 v) (h : DataW.Trod enc Tryd.prog w base spare held 30 v d p) :
    ∃ (q : Option Addr) (b off cap : Nat) (l : List Nat), v = .slice q l.length cap ∧ (0 < l.length → q = some ⟨b, off, none⟩ ∧ ByRow w b off l ∧ b < w.heap.size) ∧ ∀ x ∈ l, x < 256 := by
  obtain ⟨a0, len0, cap0, rfl⟩ := okWide_slice Tryd.underlying30 hv
  obtain ⟨fuel, hf⟩ := h
  rcases open_ints Tryd.underlying30 Tryd.underlying5 byte_cells hf with ⟨hcs, _⟩ | ⟨a, len, cap, zs, hcs, _, hl, hm, hz, _, hcell, hwz⟩
  · simp [Value.cells] at hcs
    obtain ⟨rfl, rfl, rfl⟩ := hcs
    exact ⟨none, 0, 0, 0, [], rfl, fun h => absurd h (by simp), fun x hx => absurd hx (by simp)⟩
  · simp [Value.cells] at hcs
    obtain ⟨rfl, rfl, rfl⟩ := hcs
    have hlz : len0 ≤ zs.length := by rw [hz]; split <;> omega
    have htl : ((zs.take len0).map Int.toNat).length = len0 := by rw [List.length_map, List.length_take]; omega
    obtain ⟨bb, off, spot⟩ := a
    refine ⟨some ⟨bb, off, spot⟩, bb, off, cap0, (zs.take len0).map Int.toNat, by rw [htl], fun h0 => ?_, fun x hx => ?_⟩
    · rw [htl] at h0
      have hc0 := hcell 0 (by omega)
      have hspot : spot = none := by simpa [Addr.add] using World.cell?_spot hc0
      subst hspot
      rw [Addr.add_lit] at hc0
      refine ⟨rfl, fun i hi => ?_, block_lt_of_cell hc0⟩
      rw [htl] at hi
      have := hcell i (by omega)
      rw [Addr.add_lit] at this
      rw [this]
      have hiz : i < zs.length := by omega
      have hw := bounds_u8 (hwz zs[i] (List.getElem_mem hiz))
      simp [List.getD, List.getElem?_eq_getElem hiz, Int.toNat_of_nonneg hw.1]
    · obtain ⟨z, hz1, rfl⟩ := List.mem_map.1 hx
      have hw := bounds_u8 (hwz z (List.mem_of_mem_take hz1))
      omega
end

end Go.Proofs.YtnfnlfdplnekgaaDoor
