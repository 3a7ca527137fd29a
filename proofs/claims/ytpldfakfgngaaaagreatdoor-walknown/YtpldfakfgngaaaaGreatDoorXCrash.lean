/-
  The contracts of a file's crash, and of disk.Crash.
-/
import Derived.Test.YtpldfakfgngaaaaGreatDoorXList
namespace Go.Proofs.YtpldfakfgngaaaaGreatDoor
open Go.RowKit

/-- How many of u bytes stay. -/
def kn (k : Int) (u : Nat) : Nat := (k % ((u : Int) + 1)).toNat
theorem kn_le (k : Int) (u : Nat) : kn k u ≤ u := by
  unfold kn
  have h1 := Int.emod_nonneg k (b := (u : Int) + 1) (by omega)
  have h2 := Int.emod_lt_of_pos k (b := (u : Int) + 1) (by omega)
  omega
theorem kn_neg {k : Int} {u : Nat} (h : k.tmod ((u : Int) + 1) < 0) : ((kn k u : Nat) : Int) = k.tmod ((u : Int) + 1) + ((u : Int) + 1) := by
  unfold kn
  have h1 := Int.emod_nonneg k (b := (u : Int) + 1) (by omega)
  have h2 := Int.emod_lt_of_pos k (b := (u : Int) + 1) (by omega)
  rw [Int.tmod_eq_emod] at h ⊢
  split at h
  · omega
  · rw [Int.toNat_of_nonneg h1]
    have : ((u : Int) + 1).natAbs = u + 1 := by omega
    simp only [this]
    split
    · omega
    · omega
theorem kn_pos {k : Int} {u : Nat} (h : ¬ k.tmod ((u : Int) + 1) < 0) : ((kn k u : Nat) : Int) = k.tmod ((u : Int) + 1) := by
  unfold kn
  have h1 := Int.emod_nonneg k (b := (u : Int) + 1) (by omega)
  have h2 := Int.emod_lt_of_pos k (b := (u : Int) + 1) (by omega)
  rw [Int.tmod_eq_emod] at h ⊢
  have : ((u : Int) + 1).natAbs = u + 1 := by omega
  split at h
  · rename_i hc
    rw [if_pos hc]; omega
  · rename_i hc
    simp only [this] at h
    omega

/-- A file behind a loss of power. -/
def crF (k : Int) (f : Fl) (v' : Value) : Fl := { f with bytes := f.bytes.take (f.syn + kn k (f.bytes.length - f.syn)), syn := f.syn + kn k (f.bytes.length - f.syn), v := v' }
theorem own_take {w : World} {e : TypeId} {q : Option Addr} {cap n : Nat} {l : List UInt8} (h : w.ownsRow 0 e 1 (.slice q l.length cap) l.length (Lib.byteCells l)) (hn : n ≤ l.length) (hq : q ≠ none) : w.ownsRow 0 e 1 (.slice q n cap) (l.take n).length (Lib.byteCells (l.take n)) := by
  have e1 : (l.take n).length = n := by rw [List.length_take]; omega
  rcases h.2 with ⟨a, _⟩ | ⟨g, cp, cur, a, b1, b2, b3, b4, b5, b6⟩
  · injection a with a1 a2 a3
    exact absurd a1 hq
  · injection a with a1 a2 a3
    subst a1 a3
    refine ⟨by simp [Lib.byteCells], .inr ⟨g, cap, cur, by rw [e1], b1, b2, by omega, b4, b5, ?_⟩⟩
    have e2 : Lib.byteCells (l.take n) = (Lib.byteCells l).take n := by simp [Lib.byteCells, List.map_take]
    rw [e2, ← b6, List.take_take, e1]
    congr 1
    omega
theorem Dk.cut {w : World} {d m fr N : Nat} {L : List Fl} (h : Dk w d m L fr N) {f : Fl} (e : lk f.name L = some f) (k : Int) (v' : Value)
    (hv : w.ownsRow 0 5 1 v' (crF k f v').bytes.length (Lib.byteCells (crF k f v').bytes)) (hb : v'.ownBlock = f.v.ownBlock) :
    Stp w ((w.setCell ⟨f.g, 1, none⟩ (.int .i64 ((f.syn + kn k (f.bytes.length - f.syn) : Nat) : Int))).setCell ⟨f.g, 0, none⟩ v') d m L (wth (crF k f v') L) fr N := by
  obtain ⟨hm, _⟩ := lk_some e
  have hF := h.fl f hm
  obtain ⟨n1, n2, n3⟩ := h.ne_file hm
  have hrow : (crF k f v').v.ownBlock = none ∨ (crF k f v').v.ownBlock = f.v.ownBlock ∨ ∃ j, (crF k f v').v.ownBlock = some j ∧ w.heap.size ≤ j := Or.inr (Or.inl hb)
  have hk : ∀ i, i ≠ f.g → ((w.setCell ⟨f.g, 1, none⟩ (.int .i64 ((f.syn + kn k (f.bytes.length - f.syn) : Nat) : Int))).setCell ⟨f.g, 0, none⟩ v').heap[i]? = w.heap[i]? := fun i hi => by
    rw [Below.heap_setCell _ _ _ _ hi, Below.heap_setCell _ _ _ _ hi]
  have hle := kn_le k (f.bytes.length - f.syn)
  have hsy := hF.syn
  have g2 := grown_trans (grown_setCell w f.g 1 (.int .i64 ((f.syn + kn k (f.bytes.length - f.syn) : Nat) : Int))) (grown_setCell _ f.g 0 v')
  have hne : v'.ownBlock ≠ some f.g := by rw [hb]; exact n3 f hm
  refine ⟨h.write (f' := crF k f v') e rfl rfl ⟨?_, hv.kept g2 (Or.inr hne), ?_, hF.nm⟩ hrow (fun i _ hi _ _ => hk i hi) ((hk d (fun e => n1 e.symm)).trans h.blk), Kp.of_grown g2 (Or.inr (Or.inr ⟨f, hm, Or.inl rfl⟩)), fun i hi => Ft.write (f' := crF k f v') h.srt e rfl hrow hi⟩
  · have b1 := block_set hF.blk 1 (.int .i64 ((f.syn + kn k (f.bytes.length - f.syn) : Nat) : Int))
    show ((w.setCell ⟨f.g, 1, none⟩ _).setCell ⟨f.g, 0, none⟩ v').heap[f.g]? = _
    rw [block_set b1 0]; rfl
  · show f.syn + kn k (f.bytes.length - f.syn) ≤ (f.bytes.take _).length
    rw [List.length_take]; omega

set_option maxHeartbeats 4000000 in
set_option maxRecDepth 100000 in
theorem crash_walk (g b cap n sy : Nat) (k : Int) (w : World) (c0 : w.cell? ⟨g, 0, none⟩ = some (.slice (some ⟨b, 0, none⟩) n cap)) (c1 : w.cell? ⟨g, 1, none⟩ = some (.int .i64 (sy : Int)))
    (f0 : w.frozen? ⟨g, 0, none⟩ = false) (f1 : w.frozen? ⟨g, 1, none⟩ = false) (hs : sy ≤ n) (hn : n ≤ cap) (hcap : n ≤ 140737488355328) :
    Calls Tryz.prog 64 #[.pointer (some ⟨g, 0, none⟩), .int .i64 k] w fun e w' => e = .returned (.int .i64 ((n - sy - kn k (n - sy) : Nat) : Int)) ∧
      w' = (((w.setCell ⟨g, 1, none⟩ (.int .i64 ((sy + kn k (n - sy) : Nat) : Int))).setCell ⟨g, 0, none⟩ (.slice (some ⟨b, 0, none⟩) (sy + kn k (n - sy)) cap))).drew.drew := by
  have hle := kn_le k (n - sy)
  have hu : (((n - sy : Nat) : Int)) = (n : Int) - (sy : Int) := by omega
  by_cases hneg : k.tmod (((n - sy : Nat) : Int) + 1) < 0
  · have hkn := kn_neg hneg
    rw [hu] at hneg hkn
    go_enter Tryz.func64, Tryz.ntmps64
    go_wp2_with fail
    go_region
    go_wp2_with fail
    simp only [← hkn]
    generalize hz : kn k (n - sy) = z at *
    clear hneg hkn
    go_region
    go_wp2
    go_ret
    subst hz
    have e1 : (n : Int) - (sy : Int) - ((kn k (n - sy) : Nat) : Int) = ((n - sy - kn k (n - sy) : Nat) : Int) := by omega
    refine ⟨?_, ?_⟩
    · show Ending.returned (.int .i64 ((n : Int) - (sy : Int) - ((kn k (n - sy) : Nat) : Int))) = _
      rw [e1]
    · rw [Int.natCast_add]
  · have hkn := kn_pos hneg
    rw [hu] at hneg hkn
    go_enter Tryz.func64, Tryz.ntmps64
    go_wp2_with fail
    go_region
    go_wp2_with fail
    simp only [← hkn]
    generalize hz : kn k (n - sy) = z at *
    clear hneg hkn
    go_region
    go_wp2
    go_ret
    subst hz
    have e1 : (n : Int) - (sy : Int) - ((kn k (n - sy) : Nat) : Int) = ((n - sy - kn k (n - sy) : Nat) : Int) := by omega
    refine ⟨?_, ?_⟩
    · show Ending.returned (.int .i64 ((n : Int) - (sy : Int) - ((kn k (n - sy) : Nat) : Int))) = _
      rw [e1]
    · rw [Int.natCast_add]

set_option maxHeartbeats 4000000 in
set_option maxRecDepth 100000 in
theorem crash_nil (g : Nat) (k : Int) (w : World) (c0 : w.cell? ⟨g, 0, none⟩ = some (.slice none 0 0)) (c1 : w.cell? ⟨g, 1, none⟩ = some (.int .i64 0))
    (f0 : w.frozen? ⟨g, 0, none⟩ = false) (f1 : w.frozen? ⟨g, 1, none⟩ = false) :
    Calls Tryz.prog 64 #[.pointer (some ⟨g, 0, none⟩), .int .i64 k] w fun e w' => e = .returned (.int .i64 0) ∧
      w' = (((w.setCell ⟨g, 1, none⟩ (.int .i64 0)).setCell ⟨g, 0, none⟩ (.slice none 0 0))).drew.drew := by
  have h1 : k.tmod 1 = 0 := Int.tmod_one k
  go_enter Tryz.func64, Tryz.ntmps64
  go_wp2_with fail
  go_region
  go_wp2_with fail
  go_region
  go_wp2
  go_ret
  exact ⟨rfl, rfl⟩

theorem Stp.drew {w w' : World} {d m : Nat} {L L' : List Fl} {x y : Nat} (h : Stp w w' d m L L' x y) : Stp w w'.drew d m L L' x y := ⟨h.dk.drew, h.kp.drew, h.ft⟩
theorem crash_any {d m fr N : Nat} {L : List Fl} (k : Int) (w : World) (h : Dk w d m L fr N) {f : Fl} (e : lk f.name L = some f) (hb : f.bytes.length ≤ 140737488355328) :
    Calls Tryz.prog 64 #[.pointer (some ⟨f.g, 0, none⟩), .int .i64 k] w fun e w' => e = .returned (.int .i64 ((f.bytes.length - f.syn - kn k (f.bytes.length - f.syn) : Nat) : Int)) ∧ ∃ v', Stp w w' d m L (wth (crF k f v') L) fr N := by
  obtain ⟨hm, _⟩ := lk_some e
  have hF := h.fl f hm
  have c0 := (cells_block hF.blk).1 0
  have c1 := (cells_block hF.blk).1 1
  have f0 := (cells_block hF.blk).2 0
  have f1 := (cells_block hF.blk).2 1
  have hle := kn_le k (f.bytes.length - f.syn)
  have hsy := hF.syn
  rcases hF.own.2 with ⟨hv, h0⟩ | ⟨b, cap, cur, hv, _, hbk, hnc, hcm, _⟩
  · have hs0 : f.syn = 0 := by omega
    have e0 : kn k (f.bytes.length - f.syn) = 0 := by omega
    have e1 : f.bytes.length - f.syn - kn k (f.bytes.length - f.syn) = 0 := by omega
    have hc := h.cut e k (.slice none 0 0) (by
      show w.ownsRow 0 _ 1 _ (f.bytes.take _).length (Lib.byteCells (f.bytes.take _))
      have : f.bytes = [] := List.eq_nil_of_length_eq_zero h0
      rw [this]
      simp only [List.take_nil]
      exact World.ownsRow_nil _ _ _ _) (by rw [hv])
    rw [e0, hs0] at hc
    rw [e1]
    refine (crash_nil f.g k w (by rw [c0, ← hv]; rfl) (by rw [c1]; simp [hs0]) f0 f1).mono ?_
    rintro e w' ⟨rfl, rfl⟩
    exact ⟨rfl, _, hc.drew.drew⟩
  · have hc := h.cut e k (.slice (some ⟨b, 0, none⟩) (f.syn + kn k (f.bytes.length - f.syn)) cap) (by
      have := hF.own
      rw [hv] at this
      exact own_take this (by omega) (by simp)) (by rw [hv]; rfl)
    refine (crash_walk f.g b cap f.bytes.length f.syn k w (by rw [c0, ← hv]; rfl) (by rw [c1]; rfl) f0 f1 hsy hnc hb).mono ?_
    rintro e w' ⟨rfl, rfl⟩
    exact ⟨rfl, _, hc.drew.drew⟩

end Go.Proofs.YtpldfakfgngaaaaGreatDoor
