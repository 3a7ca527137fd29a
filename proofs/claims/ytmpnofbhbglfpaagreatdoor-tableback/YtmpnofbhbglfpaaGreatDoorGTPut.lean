/-
  What put has at its end, the index being read out: the file, the table, the names; and the table that it hands back.
  What put has laid, round by round: how it begins, and how long it is.
  The contract of put: what is told is laid.
-/
import Derived.Test.YtmpnofbhbglfpaaGreatDoorGTApp
namespace Go.Proofs.YtmpnofbhbglfpaaGreatDoor
open Go.RowKit

/-- The blocks of it. -/
def PO2 (b : Nat) (V : PV) (i : Nat) : Prop := (b ≤ i ∧ i < b + 8) ∨ V.f.ownBlock = some i ∨ V.b.ownBlock = some i ∨ V.l.ownBlock = some i ∨ V.n.ownBlock = some i
structure PE (w0 : World) (b D : Nat) (V : PV) (C : PC) (x : List UInt8) (W : World) : Prop where
  hb : b = w0.heap.size
  f : Bd W (b + 8) b V.f C.f
  e : W.heap[b + 1 + 1]? = some (.cells #[.int .i64 0] 24 (0, 0))
  l : W.heap[b + 1 + 1 + 1]? = some (.cells #[layV b (b + 1 + 1)] 106 (0, 0))
  t : W.heap[b + 1 + 1 + 1 + 1]? = some (.cells #[V.b, V.l, .string (bstr x), .int .i64 (C.k : Int)] 79 (0, 0))
  q : W.heap[b + 1 + 1 + 1 + 1 + 1]? = some (.cells #[.pointer (some ⟨b + 1 + 1 + 1 + 1, 0, none⟩)] 30 (0, 0))
  m : W.heap[b + 1 + 1 + 1 + 1 + 1 + 1]? = some (.cells #[V.n] 65 (0, 0))
  rn : W.ownsRow (b + 8) 9 1 V.n C.n.length (strCells C.n)
  rb : W.ownsRow (b + 8) 9 1 V.b C.b.length (strCells C.b)
  rl : W.ownsRow (b + 8) 75 2 V.l C.l.length (plCells C.l)
  be : Below w0.heap.size w0 W
  sz : b + 8 ≤ W.heap.size
  dd : W.heap[D]? = some (.deferred (some []))
theorem PE.lt {w0 W : World} {b D : Nat} {V : PV} {C : PC} {x : List UInt8} (h : PE w0 b D V C x W) {i : Nat} (hi : PO2 b V i) : i < W.heap.size := by
  rcases hi with ⟨h1, h2⟩ | hi | hi | hi | hi
  · have := h.sz; omega
  · exact (own_blk_lt h.f.row hi).1
  · exact (own_blk_lt h.rb hi).1
  · exact (own_blk_lt h.rl hi).1
  · exact (own_blk_lt h.rn hi).1
theorem PE.kept {w0 W W' : World} {b D : Nat} {V : PV} {C : PC} {x : List UInt8} (h : PE w0 b D V C x W) (hk : ∀ i, PO2 b V i → W'.heap[i]? = W.heap[i]?) (hb : Below w0.heap.size w0 W') (hs : W.heap.size ≤ W'.heap.size) (hd : W'.heap[D]? = W.heap[D]?) : PE w0 b D V C x W' := by
  have hx : ∀ i, b ≤ i → i < b + 8 → W'.heap[i]? = W.heap[i]? := fun i h1 h2 => hk i (Or.inl ⟨h1, h2⟩)
  exact ⟨h.hb, h.f.kept (hx _ (by omega) (by omega)) fun i hi => hk i (Or.inr (Or.inl hi)), (hx _ (by omega) (by omega)).trans h.e, (hx _ (by omega) (by omega)).trans h.l, (hx _ (by omega) (by omega)).trans h.t, (hx _ (by omega) (by omega)).trans h.q, (hx _ (by omega) (by omega)).trans h.m,
    own_kept h.rn fun i hi => hk i (Or.inr (Or.inr (Or.inr (Or.inr hi)))), own_kept h.rb fun i hi => hk i (Or.inr (Or.inr (Or.inl hi))), own_kept h.rl fun i hi => hk i (Or.inr (Or.inr (Or.inr (Or.inl hi)))), hb, Nat.le_trans h.sz hs, hd.trans h.dd⟩
theorem PE.below {w0 W W' : World} {b D : Nat} {V : PV} {C : PC} {x : List UInt8} (h : PE w0 b D V C x W) (hb : Below W.heap.size W W') : PE w0 b D V C x W' :=
  h.kept (fun i hi => hb.block i (h.lt hi)) (below2 h.be hb) hb.size (hb.block _ (blk_lt h.dd))
/-- The index is read out. -/
theorem PS.read {w0 W W' : World} {b D : Nat} {V : PV} {C : PC} (h : PS w0 b V C W) (hd : W.heap[D]? = some (.deferred (some []))) (hk : Kp W W' (fun i => V.i.ownBlock = some i)) : PE w0 b D V C [] W' := by
  have hi8 : ∀ i, V.i.ownBlock = some i → b + 8 ≤ i := fun i hi => (own_blk_lt h.i.row hi).2.1
  have hx : ∀ i, b ≤ i → i < b + 8 → W'.heap[i]? = W.heap[i]? := fun i h1 h2 => hk.block i (h.lt (Or.inl ⟨h1, h2⟩)) (fun e => by have := hi8 i e; omega)
  have hsz : b + 8 ≤ W.heap.size := by have := h.lt (i := b + 7) (Or.inl ⟨by omega, by omega⟩); omega
  exact ⟨h.hb, h.f.kept (hx _ (by omega) (by omega)) fun i hi => hk.block i (own_blk_lt h.f.row hi).1 (fun e => h.s2 i hi e), (hx _ (by omega) (by omega)).trans h.e, (hx _ (by omega) (by omega)).trans h.l, (hx _ (by omega) (by omega)).trans h.t, (hx _ (by omega) (by omega)).trans h.q, (hx _ (by omega) (by omega)).trans h.m,
    own_kept h.rn fun i hi => hk.block i (own_blk_lt h.rn hi).1 (own_apart2 h.rn h.i.row (by decide) hi), own_kept h.rb fun i hi => hk.block i (own_blk_lt h.rb hi).1 (own_apart2 h.rb h.i.row (by decide) hi), own_kept h.rl fun i hi => hk.block i (own_blk_lt h.rl hi).1 (own_apart2 h.rl h.i.row (by decide) hi),
    Kp.below0 h.be hk (fun i hi => by have := hi8 i hi; have := h.hb; omega), Nat.le_trans hsz hk.size, (hk.block D (blk_lt hd) (fun e => h.notD hd (Or.inr (Or.inr (Or.inl e))))).trans hd⟩
/-- The file is written to. -/
theorem PE.wroteF {w0 W W' : World} {b D : Nat} {V : PV} {C : PC} {x : List UInt8} (h : PE w0 b D V C x W) {v : Value} {F : List UInt8} (hb : Bd W' (b + 8) b v F) (hk : Kp W W' (BdO b V.f)) : PE w0 b D { V with f := v } { C with f := F } x W' := by
  have hbe := Kp.below0 h.be hk (fun i hi => by
    have := h.hb
    rcases hi with rfl | hi
    · omega
    · have := (own_blk_lt h.f.row hi).2.1; omega)
  have hx : ∀ i, b < i → i < b + 8 → W'.heap[i]? = W.heap[i]? := fun i h1 h2 => hk.block i (h.lt (Or.inl ⟨by omega, h2⟩)) (fun hi => by
    rcases hi with rfl | hi
    · omega
    · have := (own_blk_lt h.f.row hi).2.1; omega)
  have hr : ∀ (i : Nat), i < W.heap.size → b + 8 ≤ i → V.f.ownBlock ≠ some i → W'.heap[i]? = W.heap[i]? := fun i hl hbi hn => hk.block i hl (fun hi => by
    rcases hi with rfl | hi
    · omega
    · exact hn hi)
  exact ⟨h.hb, hb, (hx _ (by omega) (by omega)).trans h.e, (hx _ (by omega) (by omega)).trans h.l, (hx _ (by omega) (by omega)).trans h.t, (hx _ (by omega) (by omega)).trans h.q, (hx _ (by omega) (by omega)).trans h.m,
    own_kept h.rn fun i hi => hr i (own_blk_lt h.rn hi).1 (own_blk_lt h.rn hi).2.1 (own_apart2 h.rn h.f.row (by decide) hi), own_kept h.rb fun i hi => hr i (own_blk_lt h.rb hi).1 (own_blk_lt h.rb hi).2.1 (own_apart2 h.rb h.f.row (by decide) hi), own_kept h.rl fun i hi => hr i (own_blk_lt h.rl hi).1 (own_blk_lt h.rl hi).2.1 (own_apart2 h.rl h.f.row (by decide) hi), hbe, Nat.le_trans h.sz hk.size, (hk.block D (blk_lt h.dd) (fun hi => by
      rcases hi with rfl | hi
      · obtain ⟨p, _, e⟩ := h.f.blk; rw [h.dd] at e; cases e
      · obtain ⟨_, _, cur, e⟩ := own_blk_lt h.f.row hi; rw [h.dd] at e; cases e)).trans h.dd⟩
/-- The filter is stored. -/
theorem PE.filtered {w0 W : World} {b D : Nat} {V : PV} {C : PC} {x : List UInt8} (h : PE w0 b D V C x W) (y : List UInt8) : PE w0 b D V C y (W.setCell ⟨b + 1 + 1 + 1 + 1, 2, none⟩ (.string (bstr y))) := by
  have hk : Kp W (W.setCell ⟨b + 1 + 1 + 1 + 1, 2, none⟩ (.string (bstr y))) (fun i => i = b + 1 + 1 + 1 + 1) := (Kp.refl W (fun i => i = b + 1 + 1 + 1 + 1)).setCell _ (Or.inl rfl)
  have ht := heap_set_same h.t (.string (bstr y)) (o := 2)
  have hbe := Kp.below0 h.be hk (fun i hi => by have := h.hb; omega)
  have hx : ∀ i, PO2 b V i → i ≠ b + 1 + 1 + 1 + 1 → (W.setCell ⟨b + 1 + 1 + 1 + 1, 2, none⟩ (.string (bstr y))).heap[i]? = W.heap[i]? := fun i hi hn => hk.block i (h.lt hi) hn
  have hs := hk.size
  have hdd := (hk.block D (blk_lt h.dd) (fun e => by have h2 := h.dd; rw [e, h.t] at h2; cases h2)).trans h.dd
  generalize W.setCell ⟨b + 1 + 1 + 1 + 1, 2, none⟩ (.string (bstr y)) = W' at *
  have hy : ∀ i, b ≤ i → i ≠ b + 1 + 1 + 1 + 1 → i < b + 8 → W'.heap[i]? = W.heap[i]? := fun i h1 h3 h2 => hx i (Or.inl ⟨h1, h2⟩) h3
  have big : ∀ i, b + 8 ≤ i → i ≠ b + 1 + 1 + 1 + 1 := fun i h1 => by omega
  exact ⟨h.hb, h.f.kept (hy _ (by omega) (by omega) (by omega)) fun i hi => hx i (Or.inr (Or.inl hi)) (big i (own_blk_lt h.f.row hi).2.1), (hy _ (by omega) (by omega) (by omega)).trans h.e, (hy _ (by omega) (by omega) (by omega)).trans h.l, ht, (hy _ (by omega) (by omega) (by omega)).trans h.q, (hy _ (by omega) (by omega) (by omega)).trans h.m,
    own_kept h.rn fun i hi => hx i (Or.inr (Or.inr (Or.inr (Or.inr hi)))) (big i (own_blk_lt h.rn hi).2.1), own_kept h.rb fun i hi => hx i (Or.inr (Or.inr (Or.inl hi))) (big i (own_blk_lt h.rb hi).2.1), own_kept h.rl fun i hi => hx i (Or.inr (Or.inr (Or.inr (Or.inl hi)))) (big i (own_blk_lt h.rl hi).2.1), hbe, Nat.le_trans h.sz hs, hdd⟩
theorem own_sarg {w : World} {B : Nat} {v : Value} {ks : List (List UInt8)} (h : w.ownsRow B 9 1 v ks.length (strCells ks)) : ∃ q g cap, v = .slice q ks.length cap ∧ Bl.SArg w q g 0 ks := by
  rcases h.2 with ⟨hv, h0⟩ | ⟨g, cap, cur, hv, hbg, hg, hnc, hcm, hcs, htake⟩
  · exact ⟨none, 0, 0, by rw [hv, h0], fun hp => by omega⟩
  · refine ⟨some ⟨g, 0, none⟩, g, cap, hv, fun _ => ⟨rfl, fun j hj => ?_, blk_lt hg⟩⟩
    have h1 : (cur.toList.take (ks.length * 1))[j]? = some (.string (bstr ks[j])) := by
      rw [htake]
      unfold strCells
      rw [List.getElem?_map, List.getElem?_eq_getElem hj]
      rfl
    rw [List.getElem?_take] at h1
    split at h1
    · rw [Nat.zero_add, (Bl.cells_block hg).1, ← Array.getElem?_toList]
      exact h1
    · cases h1
/-- The marks of loops that are through. -/
theorem leaves_mark {P : Program} {fn : Func} {tmps : Array Value} {R : Ending → World → Prop} {n D : Nat} {W : World} {v : Value} (hres : ∀ W', (results fn tmps).run P W' = .ok v W') (hd : W.heap[D]? = some (.deferred (some []))) (hR : R (.returned v) (W.putObj D (.deferred none))) : LeavesInM Fence.wide n P fn tmps R [{ target := .collected D, args := #[] }] .returning W :=
  ⟨by simp, Or.inl ⟨D, _, rfl, run_takeDeferred hd, v, hres _, hR⟩⟩
/-- A table in memory. -/
structure TB (w : World) (g : Nat) (vb vl : Value) (Bs : List (List Cl)) : Prop where
  t : w.heap[g]? = some (.cells #[vb, vl, .string (bstr (flt Bs)), .int .i64 (Bs.flatten.length : Int)] 79 (0, 0))
  rb : w.ownsRow 0 9 1 vb Bs.length (strCells (Bs.map blkB))
  rl : w.ownsRow 0 75 2 vl Bs.length (plCells (Bs.map (lsP ([], []))))
theorem TB.below {w w' : World} {g : Nat} {vb vl : Value} {Bs : List (List Cl)} (h : TB w g vb vl Bs) (hb : Below w.heap.size w w') : TB w' g vb vl Bs :=
  ⟨(hb.block _ (blk_lt h.t)).trans h.t, own_belowS h.rb hb, own_belowS h.rl hb⟩
theorem own_zero {w : World} {B sz : Nat} {e : TypeId} {v : Value} {n : Nat} {xs : List Value} (h : w.ownsRow B e sz v n xs) : w.ownsRow 0 e sz v n xs := by
  rcases h.2 with h0 | ⟨g, cap, cur, hv, hbg, r⟩
  · exact ⟨h.1, .inl h0⟩
  · exact ⟨h.1, .inr ⟨g, cap, cur, hv, Nat.zero_le _, r⟩⟩
/-- The file is read out, and the marks are taken up. -/
theorem PE.tb {w0 W W' : World} {b D : Nat} {V : PV} {C : PC} {x : List UInt8} {Bs : List (List Cl)} (h : PE w0 b D V C x W) (hx : x = flt Bs) (hCb : C.b = Bs.map blkB) (hCl : C.l = Bs.map (lsP ([], []))) (hCk : C.k = Bs.flatten.length) (hD : w0.heap.size ≤ D) (hk : Kp W W' (fun i => V.f.ownBlock = some i)) :
    W'.heap[D]? = some (.deferred (some [])) ∧ TB (W'.putObj D (.deferred none)) (b + 1 + 1 + 1 + 1) V.b V.l Bs ∧ Below w0.heap.size w0 (W'.putObj D (.deferred none)) := by
  have hd : W'.heap[D]? = some (.deferred (some [])) := (hk.block D (blk_lt h.dd) (fun hi => by
      obtain ⟨_, _, cur, e⟩ := own_blk_lt h.f.row hi; rw [h.dd] at e; cases e)).trans h.dd
  have hk2 : Kp W' (W'.putObj D (.deferred none)) (fun i => i = D) := (Kp.refl W' (fun i => i = D)).put _ (Or.inl rfl)
  have hbe := Kp.below0 (Kp.below0 h.be hk (fun i hi => by have := (own_blk_lt h.f.row hi).2.1; have := h.hb; omega)) hk2 (fun i hi => by omega)
  have ht : (W'.putObj D (.deferred none)).heap[b + 1 + 1 + 1 + 1]? = W.heap[b + 1 + 1 + 1 + 1]? :=
    (World.putObj_heap_other (fun e => by have h1 := h.dd; rw [← e, h.t] at h1; cases h1)).trans (hk.block _ (blk_lt h.t) (fun e => by have := (own_blk_lt h.f.row e).2.1; omega))
  have hb2 := h.rb
  have hl2 := h.rl
  rw [hCb] at hb2
  rw [hCl] at hl2
  rw [List.length_map] at hb2 hl2
  refine ⟨hd, ⟨?_, own_zero (own_kept hb2 fun i hi => ?_), own_zero (own_kept hl2 fun i hi => ?_)⟩, hbe⟩
  · rw [ht, h.t, hx, hCk]
  · exact (World.putObj_heap_other (fun e => by obtain ⟨_, _, cur, e2⟩ := own_blk_lt hb2 hi; have h1 := h.dd; rw [← e, e2] at h1; cases h1)).trans (hk.block _ (own_blk_lt hb2 hi).1 (own_apart2 hb2 h.f.row (by decide) hi))
  · exact (World.putObj_heap_other (fun e => by obtain ⟨_, _, cur, e2⟩ := own_blk_lt hl2 hi; have h1 := h.dd; rw [← e, e2] at h1; cases h1)).trans (hk.block _ (own_blk_lt hl2 hi).1 (own_apart2 hl2 h.f.row (by decide) hi))

end Go.Proofs.YtmpnofbhbglfpaaGreatDoor

namespace Go.Proofs.YtmpnofbhbglfpaaGreatDoor
open Go.RowKit

theorem Tryz.infoPl : (Tryz.prog.info? 75).map (fun i => (i.zero, i.size, i.bytes)) = some (some (.agg #[.string ⟨#[]⟩, .string ⟨#[]⟩]), 2, 32) := by kernel_rfl
theorem nrm_of {Q : Exit → Act → World → Prop} {a : Act} {w : World} (h : Q .normal a w) : Nrm Q .normal a w := h
theorem rowI_ne (a : List UInt8) (p : List UInt8 × List UInt8) (x y n : Nat) : a ++ rowI p x y n ≠ [] := by
  intro h
  have := congrArg List.length h
  have h2 := Lib.uvarint_pos n
  unfold rowI at this
  simp only [List.length_append, List.length_nil] at this
  omega
/-- What put has laid of blocks. -/
def pcOf (Bs : List (List Cl)) : PC := ⟨frs Bs, idxF 0 Bs, Bs.map blkB, Bs.map (lsP ([], [])), names Bs.flatten, lsP ([], []) Bs.flatten, Bs.flatten.length⟩
/-- What the rounds of put keep. -/
structure PJ (w0 : World) (b D : Nat) (RR : Loop) (Bs : List (List Cl)) (X : Nat → Prop) (j : Nat) (W : World) : Prop where
  s : ∃ V, PS w0 b V (pcOf (Bs.take j)) W
  d : W.heap[D]? = some (.deferred (some []))
  r : W.heap[D + 1]? = some (.loop RR)
  x : ∀ i, X i → CBlk W i
  b : b + 8 ≤ D
  y : ∀ i, X i → w0.heap.size ≤ i
theorem PJ.abd {w0 : World} {b D : Nat} {RR : Loop} {Bs : List (List Cl)} {X : Nat → Prop} {j : Nat} {W W' : World} (h : PJ w0 b D RR Bs X j W) (hk : Kp W W' X) (hx : ∀ i, X i → CBlk W' i) : PJ w0 b D RR Bs X j W' := by
  obtain ⟨V, hs⟩ := h.s
  have hd := h.d
  have hr := h.r
  refine ⟨⟨V, hs.kept (fun i hi => hk.block i (hs.lt hi) (fun hX => hs.notC (h.x i hX) hi)) (Kp.below0 hs.be hk fun i hX => ?_)⟩, (hk.block _ (blk_lt hd) (fun hX => ?_)).trans hd, (hk.block _ (blk_lt hr) (fun hX => ?_)).trans hr, hx, h.b, h.y⟩
  · exact h.y i hX
  · obtain ⟨_, _, e⟩ := h.x _ hX; rw [hd] at e; cases e
  · obtain ⟨_, _, e⟩ := h.x _ hX; rw [hr] at e; cases e

/-- What is there within a round that began at W: of the cells of B, that lie at g from off on, some are gone through. -/
structure PR (w0 : World) (b D : Nat) (RR : Loop) (V : PV) (C : PC) (X : Nat → Prop) (W : World) (g off : Nat) (B : List Cl) (Wx : World) : Prop where
  s : PS w0 b V C Wx
  d : Wx.heap[D]? = some (.deferred (some []))
  r : Wx.heap[D + 1]? = some (.loop { RR with state := .busy })
  x : ∀ i, X i → CBlk W i ∧ Wx.heap[i]? = W.heap[i]?
  c : CRow Wx g off B
  h : CBlk Wx g
theorem PR.next {w0 : World} {b D : Nat} {RR : Loop} {V V' : PV} {C C' : PC} {X : Nat → Prop} {W : World} {g off : Nat} {B : List Cl} {Wx Wy : World} {S : Nat → Prop} (h : PR w0 b D RR V C X W g off B Wx) (hk : Kp Wx Wy S) (hS : ∀ i, S i → PO b V i) (hs : PS w0 b V' C' Wy) : PR w0 b D RR V' C' X W g off B Wy := by
  have hg : Wy.heap[g]? = Wx.heap[g]? := hk.block g h.h.lt (fun hi => h.s.notC h.h (hS _ hi))
  refine ⟨hs, (hk.block _ (blk_lt h.d) (fun hi => h.s.notD h.d (hS _ hi))).trans h.d, (hk.block _ (blk_lt h.r) (fun hi => h.s.notL h.r (hS _ hi))).trans h.r, fun i hi => ?_, h.c.blk hg, h.h.same hg⟩
  obtain ⟨h1, h2⟩ := h.x i hi
  have hc : CBlk Wx i := h1.same h2
  exact ⟨h1, (hk.block i hc.lt (fun hj => h.s.notC hc (hS _ hj))).trans h2⟩
theorem PR.below {w0 : World} {b D : Nat} {RR : Loop} {V : PV} {C : PC} {X : Nat → Prop} {W : World} {g off : Nat} {B : List Cl} {Wx Wy : World} (h : PR w0 b D RR V C X W g off B Wx) (hb : Below Wx.heap.size Wx Wy) : PR w0 b D RR V C X W g off B Wy :=
  h.next (Kp.of_below (fun _ => False) hb) (fun _ h => h.elim) (h.s.below hb)

/-- Within a round: i cells are gone through. -/
def cIn (C : PC) (B : List Cl) (i : Nat) : PC := { C with n := C.n ++ nmsF C.p (B.take i), p := lsP C.p (B.take i) }

theorem cIn_same {C : PC} {B : List Cl} {i : Nat} (h : i < B.length) (e : plP B[i] = (cIn C B i).p) : cIn C B (i + 1) = cIn C B i := by
  have e2 : plP B[i] = lsP C.p (B.take i) := e
  unfold cIn
  rw [nmsF_take_same h e2, lsP_take h, e2]
theorem cIn_new {C : PC} {B : List Cl} {i : Nat} (h : i < B.length) (e : plP B[i] ≠ (cIn C B i).p) : cIn C B (i + 1) = { cIn C B i with n := (cIn C B i).n ++ [keyL B[i].row B[i].col], p := plP B[i] } := by
  have e2 : plP B[i] ≠ lsP C.p (B.take i) := e
  unfold cIn
  rw [nmsF_take_new h e2, lsP_take h]
  simp

theorem pc_fin {Bs : List (List Cl)} {B : List Cl} {j i : Nat} {C0 : PC} {p1 p2 row bb : List UInt8} {at_ sz n9 : Nat} (hC0 : pcOf (Bs.take j) = C0) (hBj : Bs[j]? = some B) (hne : B ≠ []) (hi : i = B.length) (h1 : p1 = (cIn C0 B i).p.1) (h2 : p2 = (cIn C0 B i).p.2) (ha : at_ = (cIn C0 B i).f.length) (hs : sz = (frm (blkB B)).length) (hr : row = rowI (p1, p2) at_ sz B.length) (hb : bb = blkB B) (hn : n9 = (cIn C0 B i).k) :
    (⟨(cIn C0 B i).f ++ frm (blkB B), (cIn C0 B i).i ++ row, (cIn C0 B i).b ++ [bb], (cIn C0 B i).l ++ [(p1, p2)], (cIn C0 B i).n, (cIn C0 B i).p, n9 + B.length⟩ : PC) = pcOf (Bs.take (j + 1)) := by
  subst hC0 hi hr hb hn ha hs h1 h2
  have hj : j < Bs.length := (List.getElem?_eq_some_iff.1 hBj).1
  have hg : Bs[j] = B := (List.getElem?_eq_some_iff.1 hBj).2
  have ht : Bs.take (j + 1) = Bs.take j ++ [B] := by rw [List.take_succ_eq_append_getElem hj, hg]
  rw [ht]
  generalize Bs.take j = A
  unfold pcOf cIn
  simp only [List.take_length]
  have hp : lsP (lsP ([], []) A.flatten) B = lsP ([], []) B := lsP_any hne
  have hfl : (A ++ [B]).flatten = A.flatten ++ B := by simp
  rw [hfl, frs_append, frs_one, idxF_append, List.map_append, List.map_append, lsP_append, List.length_append]
  have hnm : names (A.flatten ++ B) = names A.flatten ++ nmsF (lsP ([], []) A.flatten) B := nmsF_append _ _ _
  rw [hnm, hp]
  simp [idxF]
theorem PR.done {w0 : World} {b D : Nat} {RR : Loop} {V : PV} {C : PC} {X : Nat → Prop} {W : World} {g off j : Nat} {B : List Cl} {Wx : World} {Bs : List (List Cl)} {R2 : Loop} (h : PR w0 b D RR V C X W g off B Wx) (hC : C = pcOf (Bs.take (j + 1))) (hD : b + 8 ≤ D) (hy : ∀ i, X i → w0.heap.size ≤ i) (hR : R2 = RR) :
    PJ w0 b D RR Bs X (j + 1) (Wx.putObj (D + 1) (.loop R2)) ∧ ∀ i, X i → (Wx.putObj (D + 1) (.loop R2)).heap[i]? = W.heap[i]? := by
  subst hC
  rw [hR]
  have hne : ∀ i, PO b V i → i ≠ D + 1 := fun i hi e => h.s.notL h.r (e ▸ hi)
  have hk : Kp Wx (Wx.putObj (D + 1) (.loop RR)) (fun i => i = D + 1) := (Kp.refl Wx (fun i => i = D + 1)).put _ (Or.inl rfl)
  have hx : ∀ i, X i → (Wx.putObj (D + 1) (.loop RR)).heap[i]? = W.heap[i]? := fun i hi => by
    obtain ⟨h1, h2⟩ := h.x i hi
    have hc : CBlk Wx i := h1.same h2
    refine (World.putObj_heap_other (fun e => ?_)).trans h2
    obtain ⟨_, _, e2⟩ := hc
    rw [e, h.r] at e2
    cases e2
  have hb := h.s.hb
  exact ⟨⟨⟨V, h.s.kept (fun i hi => World.putObj_heap_other (hne i hi)) (Kp.below0 h.s.be hk (fun i hi => by omega))⟩, (World.putObj_heap_other (by omega)).trans h.d, World.putObj_heap_same (blk_lt h.r), fun i hi => (h.x i hi).1.same (hx i hi), hD, hy⟩, hx⟩

theorem idxF_many (n : Nat) (Bs : List (List Cl)) : Bs.length ≤ (idxF n Bs).length := by
  induction Bs generalizing n with
  | nil => simp
  | cons B Bs ih =>
    have h1 := ih (n + (frB B).length)
    have h2 := Lib.uvarint_pos B.length
    rw [idxF, List.length_append, List.length_cons]
    unfold rowI
    simp only [List.length_append]
    omega
theorem flat_long {Bs : List (List Cl)} (h : GB Bs) : Bs.flatten.length ≤ 32768 * Bs.length := by
  have h1 : ∀ B ∈ Bs, B.length ≤ 32768 := fun B hB => good_len (h.good B hB).1
  clear h
  induction Bs with
  | nil => simp
  | cons B Bs ih =>
    have := h1 B List.mem_cons_self
    have := ih (fun X hX => h1 X (List.mem_cons_of_mem _ hX))
    rw [List.flatten_cons, List.length_append, List.length_cons]
    omega
theorem room_many {Bs : List (List Cl)} (hR : Room Bs) : Bs.length ≤ 1048576 := by
  have h1 := hR.i
  have h2 := idxF_many 0 Bs
  unfold idx at h1
  rw [List.length_append] at h1
  omega
/-- How long it is. -/
structure PB (C : PC) (B : List Cl) : Prop where
  n : C.n.length ≤ 1000000
  f : C.f.length ≤ 4000000000
  i : C.i.length ≤ 1048576
  b : C.b.length ≤ 1048576
  l : C.l.length ≤ 1048576
  k : C.k ≤ 100000000000
  z : (frm (blkB B)).length ≤ 1048584
theorem pc_long {Bs : List (List Cl)} {B : List Cl} {j i : Nat} {C0 : PC} (hG : GB Bs) (hR : Room Bs) (hC0 : pcOf (Bs.take j) = C0) (hBj : Bs[j]? = some B) : PB (cIn C0 B i) B := by
  have hj : j < Bs.length := (List.getElem?_eq_some_iff.1 hBj).1
  have hg : Bs[j] = B := (List.getElem?_eq_some_iff.1 hBj).2
  have e : Bs = Bs.take j ++ (B :: Bs.drop (j + 1)) := by
    conv => lhs; rw [← List.take_append_drop j Bs, List.drop_eq_getElem_cons hj, hg]
  have hm := room_many hR
  have hfl := flat_long hG
  have hf := hR.f
  have hi := hR.i
  have hn := hR.n
  have hlen := (hG.good B (List.mem_of_getElem? hBj)).1.long
  subst hC0
  have e1 : Bs.flatten.length = (Bs.take j).flatten.length + (B :: Bs.drop (j + 1)).flatten.length := by rw [← List.length_append, ← List.flatten_append, ← e]
  have e2 : (frs Bs).length = (frs (Bs.take j)).length + (frs (B :: Bs.drop (j + 1))).length := by rw [← List.length_append, ← frs_append, ← e]
  have e3 : (idxF 0 Bs).length = (idxF 0 (Bs.take j)).length + (idxF (0 + (frs (Bs.take j)).length) (B :: Bs.drop (j + 1))).length := by rw [← List.length_append, ← idxF_append, ← e]
  have e4 : names Bs.flatten = (names (Bs.take j).flatten ++ nmsF (lsP ([], []) (Bs.take j).flatten) (B.take i)) ++ nmsF (lsP ([], []) ((Bs.take j).flatten ++ B.take i)) (B.drop i ++ (Bs.drop (j + 1)).flatten) := by
    unfold names
    rw [← nmsF_append, ← nmsF_append]
    congr 1
    conv => lhs; rw [e, List.flatten_append, List.flatten_cons]
    rw [List.append_assoc, ← List.append_assoc (B.take i), List.take_append_drop]
  have e5 := congrArg List.length e4
  rw [List.length_append] at e5
  have e6 : (idxF 0 Bs).length ≤ (idx Bs).length := by unfold idx; rw [List.length_append]; omega
  have e7 : (Bs.take j).length ≤ Bs.length := by rw [List.length_take]; omega
  refine ⟨?_, ?_, ?_, ?_, ?_, ?_, ?_⟩
  · show (names (Bs.take j).flatten ++ nmsF (lsP ([], []) (Bs.take j).flatten) (B.take i)).length ≤ _
    omega
  · show (frs (Bs.take j)).length ≤ _
    omega
  · show (idxF 0 (Bs.take j)).length ≤ _
    omega
  · show ((Bs.take j).map blkB).length ≤ _
    rw [List.length_map]; omega
  · show ((Bs.take j).map (lsP ([], []))).length ≤ _
    rw [List.length_map]; omega
  · show (Bs.take j).flatten.length ≤ _
    omega
  · rw [frm_length]; omega
theorem pl_long {B : List Cl} {C0 : PC} {i : Nat} (hB : B.all okC = true) (hne : B ≠ []) (hi : i = B.length) : (cIn C0 B i).p.1.length ≤ 32 ∧ (cIn C0 B i).p.2.length ≤ 16 := by
  subst hi
  have e : (cIn C0 B B.length).p = plP (B.getLast hne) := by
    show lsP C0.p (B.take B.length) = _
    rw [List.take_length]
    exact lsP_last _ hne
  have h := okC_len (List.all_eq_true.1 hB _ (List.getLast_mem hne))
  rw [e]
  exact ⟨h.1, h.2.1⟩
theorem rowI_long {p : List UInt8 × List UInt8} {a s n : Nat} (h1 : p.1.length ≤ 32) (h2 : p.2.length ≤ 16) (ha : a ≤ 4294967295) (hs : s ≤ 4294967295) (hn : n ≤ 4294967295) : (rowI p a s n).length ≤ 200 := by
  have u1 := Lib.uvarint_length64 (x := a) (by omega)
  have u2 := Lib.uvarint_length64 (x := s) (by omega)
  have u3 := Lib.uvarint_length64 (x := n) (by omega)
  have u4 := Lib.uvarint_length64 (x := p.1.length) (by omega)
  have u5 := Lib.uvarint_length64 (x := p.2.length) (by omega)
  unfold rowI txt
  simp only [List.length_append]
  omega
theorem cIn_zero (C : PC) (B : List Cl) : cIn C B 0 = C := by
  unfold cIn
  rw [List.take_zero]
  simp [nmsF, lsP]
/-- How it begins. -/
theorem ps_init (w : World) : PS w w.heap.size ⟨.slice none 0 0, .slice none 0 0, .slice none 0 0, .slice none 0 0, .slice none 0 0⟩ (pcOf []) ((((((((w.alloc (.cells #[.pointer none, .slice none 0 0] 99)).alloc (.cells #[.pointer none, .slice none 0 0] 99)).alloc (.cells #[.int .i64 0] 24)).alloc (.cells #[layV w.heap.size (w.heap.size + 1 + 1)] 106)).alloc (.cells #[.slice none 0 0, .slice none 0 0, .string ⟨#[]⟩, .int .i64 0] 79)).alloc (.cells #[.pointer (some ⟨w.heap.size + 1 + 1 + 1 + 1, 0, none⟩)] 30)).alloc (.cells #[.slice none 0 0] 65)).alloc (.cells #[.string ⟨#[]⟩, .string ⟨#[]⟩] 75)) := by
  have ow : ∀ (W : World) (B s : Nat) (e : TypeId), W.ownsRow B e s (.slice none 0 0) 0 [] := fun W B s e => World.ownsRow_nil W B e s
  refine ⟨rfl, ⟨⟨_, Or.inl rfl, ?_⟩, ow _ _ _ _, by simp [Value.ownBlock]⟩, ⟨⟨_, Or.inl rfl, ?_⟩, ow _ _ _ _, by simp [Value.ownBlock]⟩, ?_, ?_, ?_, ?_, ?_, ?_, ow _ _ _ _, ow _ _ _ _, ow _ _ _ _, fun i hi => by simp [Value.ownBlock] at hi, fun i hi => by simp [Value.ownBlock] at hi, ?_, fun _ => rfl⟩
  case refine_9 => exact ((((((((Below.refl _ _).alloc (Nat.le_refl _) _).alloc (by simp) _).alloc (by simp; omega) _).alloc (by simp; omega) _).alloc (by simp; omega) _).alloc (by simp; omega) _).alloc (by simp; omega) _).alloc (by simp; omega) _
  all_goals
    show (((((((((w.heap.push _).push _).push _).push _).push _).push _).push _).push _))[_]? = _
    simp only [Array.getElem?_push, Array.size_push]
    repeat rw [if_neg (by omega)]
    rw [if_pos trivial]
    first | rfl | done
theorem pj_init {w0 : World} {V : PV} {b D : Nat} {RR : Loop} {Bs : List (List Cl)} {wf W1 : World} (h : PS w0 b V (pcOf []) wf) (hb : Below wf.heap.size wf W1) (h1 : W1.heap[D + 1]? = some (.loop RR)) (h2 : W1.heap[D]? = some (.deferred (some []))) (hD : b + 8 ≤ D) (X : Nat → Prop) (W : World) (hX : ∀ i, X i → W1.heap.size ≤ i ∧ CBlk W i) (hW : Below W1.heap.size W1 W) : PJ w0 b D RR Bs X 0 W := by
  have hs1 : PS w0 b V (pcOf []) W1 := h.below hb
  have hs2 := hs1.below hW
  exact ⟨⟨V, by rw [List.take_zero]; exact hs2⟩, (hW.block _ (blk_lt h2)).trans h2, (hW.block _ (blk_lt h1)).trans h1, fun i hi => (hX i hi).2, hD, fun i hi => Nat.le_trans hs1.be.size (hX i hi).1⟩
theorem pr_init {w0 : World} {V : PV} {b D j g off : Nat} {RR : Loop} {Bs : List (List Cl)} {B : List Cl} {X : Nat → Prop} {W : World} {C : PC} (h : PJ w0 b D RR Bs X j W) (hs : PS w0 b V C W) (hc : CRow W g off B) (hg : CBlk W g) : PR w0 b D RR V C X W g off B (W.putObj (D + 1) (.loop { RR with state := .busy })) := by
  have hne : ∀ i, CBlk W i → i ≠ D + 1 := fun i hi e => by
    obtain ⟨_, _, e2⟩ := hi
    rw [e, h.r] at e2
    cases e2
  have hk : Kp W (W.putObj (D + 1) (.loop { RR with state := .busy })) (fun i => i = D + 1) := (Kp.refl W (fun i => i = D + 1)).put _ (Or.inl rfl)
  have hb := hs.hb
  have hD := h.b
  refine ⟨hs.kept (fun i hi => World.putObj_heap_other (fun e => hs.notL h.r (e ▸ hi))) (Kp.below0 hs.be hk (fun i hi => by omega)), (World.putObj_heap_other (by omega)).trans h.d, World.putObj_heap_same (blk_lt h.r), fun i hi => ⟨h.x i hi, World.putObj_heap_other (hne i (h.x i hi))⟩, hc.blk (World.putObj_heap_other (hne g hg)), hg.same (World.putObj_heap_other (hne g hg))⟩

end Go.Proofs.YtmpnofbhbglfpaaGreatDoor

namespace Go.Proofs.YtmpnofbhbglfpaaGreatDoor
open Go.RowKit
attribute [local go_sem] Oper.semAt_some
attribute [local go_sem] size_bstr getElem_bstr toList_bstr append_bstr
attribute [local go_sem high] pl_neq pl_guard

set_option maxHeartbeats 8000000 in
set_option maxRecDepth 100000 in
theorem put_any (gf : Nat) (caps : Array Value) (Bs : List (List Cl)) (w : World) (eg : ∀ args w, (callFunc gf args).run Tryz.prog w = .ok (.enter gf args) w) (hT : Tells gf caps Bs w) (hG : GB Bs) (hR : Room Bs) (ht : Tabs w) :
    Calls Tryz.prog 25 #[.func (.func gf) #[] caps] w fun e w' => ∃ tb vb vl, e = .returned (.tuple #[.string (bstr (layT Bs)), .pointer (some ⟨tb, 0, none⟩), .int .i64 0]) ∧ TB w' tb vb vl Bs ∧ Below w.heap.size w w' := by
  have hmf : ∀ (fn : Fn) (first cap : Array Value) (w : World), (Instr.makeFunc fn first cap).run Tryz.prog w = .ok (.func fn first cap) w := fun _ _ _ _ => rfl
  refine calls_marks Tryz.func25 rfl ?_
  simp only [Tryz.ntmps25, List.size_toArray, List.length_cons, List.length_nil, Nat.reduceAdd, Nat.reduceSub, Array.replicate_succ, Array.replicate_zero, List.push_toArray, List.append_toArray, List.nil_append, List.cons_append]
  gi_wp2_with fail
  obtain ⟨wf, hwf⟩ : ∃ wf, wf = ((((((((w.alloc (.cells #[.pointer none, .slice none 0 0] 99)).alloc (.cells #[.pointer none, .slice none 0 0] 99)).alloc (.cells #[.int .i64 0] 24)).alloc (.cells #[layV w.heap.size (w.heap.size + 1 + 1)] 106)).alloc (.cells #[.slice none 0 0, .slice none 0 0, .string ⟨#[]⟩, .int .i64 0] 79)).alloc (.cells #[.pointer (some ⟨w.heap.size + 1 + 1 + 1 + 1, 0, none⟩)] 30)).alloc (.cells #[.slice none 0 0] 65)).alloc (.cells #[.string ⟨#[]⟩, .string ⟨#[]⟩] 75)) := ⟨_, rfl⟩
  have hps : PS w w.heap.size ⟨.slice none 0 0, .slice none 0 0, .slice none 0 0, .slice none 0 0, .slice none 0 0⟩ (pcOf []) wf := by rw [hwf]; exact ps_init w
  have hsz : wf.heap.size = w.heap.size + 8 := by rw [hwf]; simp
  have HSZ : Hid _ := hsz
  rw [← hwf]
  clear hwf hsz
  refine wp_range2 (by omega) rfl eg ?_
  intro RR hRR
  have hbW : Below wf.heap.size wf ((wf.alloc (.deferred (some []))).alloc (.loop RR)) := ((Below.refl _ _).alloc (Nat.le_refl _) _).alloc (by simp) _
  have hW1 : ((wf.alloc (.deferred (some []))).alloc (.loop RR)).heap[wf.heap.size + 1]? = some (.loop RR) := by
    have := World.alloc_heap_new (wf.alloc (.deferred (some []))) (.loop RR)
    rwa [World.size_alloc] at this
  have hW2 : ((wf.alloc (.deferred (some []))).alloc (.loop RR)).heap[wf.heap.size]? = some (.deferred (some [])) := (Below.heap_alloc _ _ _ (by simp)).trans (World.alloc_heap_new wf _)
  obtain ⟨W1, hWW⟩ : ∃ W1, W1 = (wf.alloc (.deferred (some []))).alloc (.loop RR) := ⟨_, rfl⟩
  rw [← hWW] at hbW hW1 hW2 ⊢
  clear hWW
  have hte := hT (wf.heap.size + 1) W1 (PJ w w.heap.size wf.heap.size RR Bs) (fun _ => False) (fun X j W W' h hk hx => h.abd hk hx) (fun X j W h => by obtain ⟨V, hs⟩ := h.s; exact hs.be) ?_ ?_
  · refine hte.mono ?_
    rintro e W2 ⟨⟨u, rfl⟩, ⟨X, hj⟩ | hj⟩
    · refine ⟨⟨_, rfl⟩, Or.inl ⟨hj.r, ?_⟩⟩
      obtain ⟨V, hs⟩ := hj.s
      rw [List.take_length] at hs
      have hd3 : (W2.putObj (wf.heap.size + 1) (.loop { RR with state := .exhausted })).heap[wf.heap.size]? = some (.deferred (some [])) := (World.putObj_heap_other (by omega)).trans hj.d
      have hs3 : PS w w.heap.size V (pcOf Bs) (W2.putObj (wf.heap.size + 1) (.loop { RR with state := .exhausted })) := by
        have hk : Kp W2 (W2.putObj (wf.heap.size + 1) (.loop { RR with state := .exhausted })) (fun i => i = wf.heap.size + 1) := (Kp.refl W2 (fun i => i = wf.heap.size + 1)).put _ (Or.inl rfl)
        have := HSZ.out
        exact hs.kept (fun i hi => World.putObj_heap_other (fun e => hs.notL hj.r (e ▸ hi))) (Kp.below0 hs.be hk (fun i hi => by omega))
      have HJB : Hid _ := hj.b
      generalize W2.putObj (wf.heap.size + 1) (.loop { RR with state := .exhausted }) = W3 at *
      clear hte hj hs hbW hW1 hW2 hps
      have hs3d : PS w w.heap.size V (pcOf Bs) W3.drew := hs3.below ((Below.refl _ _).drew)
      obtain ⟨ao, cap, hvb⟩ : ∃ ao cap, V.b = .slice ao Bs.length cap := by
        have h1 : W3.ownsRow (w.heap.size + 8) 9 1 V.b (Bs.map blkB).length (strCells (Bs.map blkB)) := hs3.rb
        rw [List.length_map] at h1
        rcases h1.2 with ⟨h2, h3⟩ | ⟨g, cap, cur, h2, _⟩
        · exact ⟨none, 0, by rw [h2, h3]⟩
        · exact ⟨_, _, h2⟩
      have cells_of : ∀ W : World, W.heap[w.heap.size + 1 + 1 + 1]? = some (.cells #[layV w.heap.size (w.heap.size + 1 + 1)] 106 (0, 0)) → W.heap[w.heap.size + 1 + 1 + 1 + 1 + 1]? = some (.cells #[.pointer (some ⟨w.heap.size + 1 + 1 + 1 + 1, 0, none⟩)] 30 (0, 0)) → (∃ x y z, W.heap[w.heap.size + 1 + 1 + 1 + 1]? = some (.cells #[V.b, x, y, z] 79 (0, 0))) → W.cell? ⟨w.heap.size + 1 + 1 + 1, 0, none⟩ = some (layV w.heap.size (w.heap.size + 1 + 1)) ∧ W.cell? ⟨w.heap.size + 1 + 1 + 1 + 1 + 1, 0, none⟩ = some (.pointer (some ⟨w.heap.size + 1 + 1 + 1 + 1, 0, none⟩)) ∧ W.cell? ⟨w.heap.size + 1 + 1 + 1 + 1, 0, none⟩ = some (.slice ao Bs.length cap) := by
        rintro W h1 h2 ⟨x, y, z, h3⟩
        exact ⟨(Bl.cells_block h1).1 0, (Bl.cells_block h2).1 0, by rw [← hvb]; exact (Bl.cells_block h3).1 0⟩
      obtain ⟨l3, q3, t3⟩ := cells_of W3.drew hs3d.l hs3d.q ⟨_, _, _, hs3d.t⟩
      have hnB : Bs.length ≤ 1048576 := room_many hR
      have hpn : ∀ W, Calls Tryz.prog 56 #[.string ⟨#[]⟩, .int .u64 (Bs.length : Int)] W fun e w' => e = .returned (.string (bstr (Lib.uvarint Bs.length))) ∧ Below W.heap.size W w' := fun W => putNum [] Bs.length W (by omega) (by simp)
      have hidx : bstr (Lib.uvarint Bs.length) ++ bstr (idxF 0 Bs) = bstr (idx Bs) := by rw [append_bstr]; rfl
      have hul := Lib.uvarint_length64 (x := Bs.length) (by omega)
      have hil : (idxF 0 Bs).length ≤ 1048576 := by have := hR.i; unfold idx at this; rw [List.length_append] at this; omega
      have hii : (idx Bs).length ≤ 1048576 := hR.i
      have hadd : ¬ (9223372036854775807 < (Lib.uvarint Bs.length).length + (idxF 0 Bs).length) := by omega
      have hfl := hR.f
      have HIDX : Hid (Lib.uvarint Bs.length ++ idxF 0 Bs = idx Bs) := rfl
      have hwu : IntKind.u64.wrap (Bs.length : Int) = (Bs.length : Int) := by rw [IntKind.wrap_u64]; omega
      have HCO : Hid _ := cells_of
      have hstr : ∀ W, PS w w.heap.size V (pcOf Bs) W → W.heap[wf.heap.size]? = some (.deferred (some [])) → Calls Tryz.prog 57 #[.pointer (some ⟨w.heap.size + 1, 0, none⟩)] W fun e w' => e = .returned (.string (bstr (idxF 0 Bs))) ∧ PE w w.heap.size wf.heap.size V (pcOf Bs) [] w' := fun W h hd => by
        refine (String_bd (w.heap.size + 8) (w.heap.size + 1) V.i (idxF 0 Bs) W h.i h.iv).mono ?_
        rintro e w' ⟨rfl, hk⟩
        exact ⟨rfl, h.read hd hk⟩
      have hlay : ∀ (W : World) (V : PV) (C : PC) (x s : List UInt8), PE w w.heap.size wf.heap.size V C x W → s.length ≤ 1048576 → C.f.length ≤ 10000000000 → Calls Tryz.prog 50 #[.string (bstr s), .pointer (some ⟨w.heap.size + 1 + 1, 0, none⟩), .pointer (some ⟨w.heap.size, 0, none⟩)] W fun e w' => ∃ vf, e = .returned (.tuple #[.int .i64 (C.f.length : Int), .int .i64 ((frm s).length : Int)]) ∧ PE w w.heap.size wf.heap.size { V with f := vf } { C with f := C.f ++ frm s } x w' := fun W V C x s h h1 h2 => by
        refine (lay1_any (w.heap.size + 8) w.heap.size (w.heap.size + 1 + 1) V.f C.f s W h.f h.e (ht.below h.be) h1 h2 h.sz).mono ?_
        rintro e w' ⟨vf, rfl, hf, hk, _⟩
        exact ⟨vf, rfl, h.wroteF hf hk⟩
      have hC1 : (pcOf Bs).f.length ≤ 10000000000 := by show (frs Bs).length ≤ 10000000000; omega
      have HSTR : Hid _ := hstr
      have HLAY : Hid _ := hlay
      have HS3 : Hid _ := hs3d
      clear cells_of hs3 hs3d hstr hlay hvb
      gi_wp2_with fail
      refine wpIn_wide.2 ?_
      go_region_held3 (fun w' => w'.cell? ⟨w.heap.size + 1 + 1 + 1, 0, none⟩ = some (layV w.heap.size (w.heap.size + 1 + 1)) ∧ w'.cell? ⟨w.heap.size + 1 + 1 + 1 + 1 + 1, 0, none⟩ = some (.pointer (some ⟨w.heap.size + 1 + 1 + 1 + 1, 0, none⟩)) ∧ w'.cell? ⟨w.heap.size + 1 + 1 + 1 + 1, 0, none⟩ = some (.slice ao Bs.length cap))
        (first | with_reducible exact ⟨l3, q3, t3⟩ | with_reducible exact ⟨la, qa, ta⟩ | with_reducible exact ⟨lb4, qb4, tb4⟩ | with_reducible exact ⟨lc, qc, tc⟩)
        (first
          | (go_at_call 56; with_reducible refine (hpn _).mono ?_; rintro e Wa ⟨rfl, hba⟩; have hsa := HS3.out.below hba; have hda := (hba.block _ (blk_lt hd3)).trans hd3; obtain ⟨la, qa, ta⟩ := HCO.out Wa hsa.l hsa.q ⟨_, _, _, hsa.t⟩)
          | (go_at_call 57; with_reducible refine (HSTR.out _ hsa hda).mono ?_; rintro e Wb ⟨rfl, heb⟩; obtain ⟨lb4, qb4, tb4⟩ := HCO.out Wb heb.l heb.q ⟨_, _, _, heb.t⟩)
          | (go_at_call 50; with_reducible refine (HLAY.out _ _ _ _ (idx Bs) heb hii hC1).mono ?_; rintro e Wc ⟨vf, rfl, hec⟩; obtain ⟨lc, qc, tc⟩ := HCO.out Wc hec.l hec.q ⟨_, _, _, hec.t⟩))
      have hVn : ∃ qn gn cn, V.n = .slice qn (names Bs.flatten).length cn ∧ Bl.SArg Wc qn gn 0 (names Bs.flatten) := own_sarg hec.rn
      obtain ⟨qn, gn, cn, hvn, hsg⟩ := hVn
      have m5 := (Bl.cells_block hec.m).1 0
      change _ = some V.n at m5
      rw [hvn] at m5
      have hmk := Bl.Make_ok qn gn 0 cn (names Bs.flatten) 10 Wc hsg (by omega) (by omega) hR.n (fun s hs => Nat.le_trans (nmsF_long hG.ok s hs) (by omega))
      have hfl1 : (flt Bs).length ≤ 1048576 := by
        unfold flt
        rw [Bl.mkF_length]
        have := Bl.szz_le (b := 10) (n := (names Bs.flatten).length) (by decide) hR.n
        omega
      obtain ⟨F1, hF1⟩ : ∃ F1, F1 = frs Bs ++ frm (idx Bs) := ⟨_, rfl⟩
      obtain ⟨fx, hfx⟩ : ∃ fx, fx = flt Bs := ⟨_, rfl⟩
      have hF1l : F1.length ≤ 4294967295 := by rw [hF1, List.length_append, frm_length]; omega
      have hec2 : PE w w.heap.size wf.heap.size { V with f := vf } { pcOf Bs with f := F1 } [] Wc := by rw [hF1]; exact hec
      rw [show Bl.mkF (names Bs.flatten) 10 = fx from hfx.symm] at hmk
      rw [← hfx] at hfl1
      have HF1 : Hid _ := hF1
      have HFX : Hid _ := hfx
      have HEC : Hid _ := hec2
      clear hec hec2 heb hsa hba hsg hF1 hfx la qa ta lb4 qb4 tb4 hvn l3 q3 t3 hda hd3 HS3 HSTR
      gi_wp2_with fail
      refine ⟨trivial, (callsIn_wide.2 hmk).mono ?_⟩
      rintro e Wd ⟨rfl, hbd⟩
      have hed := HEC.out.below hbd
      have l6 := (Bl.cells_block hed.l).1 0
      change _ = some (layV _ _) at l6
      have hl2 := HLAY.out Wd _ _ _ fx hed hfl1 (by show F1.length ≤ _; omega)
      change Calls _ _ _ _ (fun e w' => ∃ vf, e = .returned (.tuple #[.int .i64 (F1.length : Int), _]) ∧ _) at hl2
      clear hmk m5 HEC lc qc tc
      gi_wp2_with fail
      refine ⟨trivial, (callsIn_wide.2 hl2).mono ?_⟩
      rintro e We ⟨vf2, rfl, hee⟩
      have c7 : We.cell? ⟨w.heap.size + 1 + 1, 0, none⟩ = some (.int .i64 0) := (Bl.cells_block hee.e).1 0
      obtain ⟨Wg, hWg⟩ : ∃ Wg, Wg = We.alloc (.cells #[.int .i64 0, .int .i64 0] 24) := ⟨_, rfl⟩
      have hbg : Below We.heap.size We Wg := by rw [hWg]; exact (Below.refl _ _).alloc (Nat.le_refl _) _
      have hng : Wg.heap[We.heap.size]? = some (.cells #[.int .i64 0, .int .i64 0] 24 (0, 0)) := by rw [hWg]; exact heap_alloc_new We _
      have heg := hee.below hbg
      have hor := orE_any We.heap.size Wg ((Bl.cells_block hng).1 0) ((Bl.cells_block hng).1 1)
      clear hl2 hed l6 hee
      gi_wp2_with fail
      rw [← hWg]
      refine ⟨trivial, (callsIn_wide.2 hor).mono ?_⟩
      rintro e Wh ⟨rfl, rfl⟩
      have c8 : Wh.cell? ⟨w.heap.size + 1 + 1, 0, none⟩ = some (.int .i64 0) := (Bl.cells_block heg.e).1 0
      have f8 : Wh.frozen? ⟨w.heap.size + 1 + 1, 0, none⟩ = false := (Bl.cells_block heg.e).2 0
      have hno : Wh.setCell ⟨w.heap.size + 1 + 1, 0, none⟩ (.int .i64 0) = Wh := setCell_noop c8
      have hp1 : ∀ W, _ := fun W => layPlace_any (pcOf Bs).f.length W (by show (frs Bs).length ≤ _; omega)
      have hp2 : ∀ W, _ := fun W => layPlace_any F1.length W hF1l
      have HEG : Hid _ := heg
      clear hor c7 hng hWg hbg heg
      gi_wp2_with fail
      refine ⟨trivial, (callsIn_wide.2 (hp1 _)).mono ?_⟩
      rintro e Wi ⟨rfl, hbi⟩
      have hei := HEG.out.below hbi
      clear c8 f8 hno HEG hbi
      gi_wp2_with fail
      refine ⟨trivial, (callsIn_wide.2 (hp2 _)).mono ?_⟩
      rintro e Wj ⟨rfl, hbj⟩
      have hej := hei.below hbj
      have hadd2 : ¬ (9223372036854775807 < (be8 (pcOf Bs).f.length).length + (be8 F1.length).length) := by rw [be8_length, be8_length]; omega
      have hws := WriteString_bd (w.heap.size + 8) w.heap.size vf2 (F1 ++ frm fx) (be8 (pcOf Bs).f.length ++ be8 F1.length) Wj hej.f (by rw [List.length_append, List.length_append, frm_length, be8_length, be8_length]; omega) hej.sz
      clear hei hbj
      gi_wp2_with fail
      refine ⟨trivial, (callsIn_wide.2 hws).mono ?_⟩
      rintro e Wk ⟨vf3, rfl, hfk, hkk, _⟩
      have hek := hej.wroteF hfk hkk
      have c9 : Wk.cell? ⟨w.heap.size + 1 + 1 + 1 + 1 + 1, 0, none⟩ = some (.pointer (some ⟨w.heap.size + 1 + 1 + 1 + 1, 0, none⟩)) := (Bl.cells_block hek.q).1 0
      have c10 : Wk.cell? ⟨w.heap.size + 1 + 1 + 1 + 1, 2, none⟩ = some (.string ⟨#[]⟩) := (Bl.cells_block hek.t).1 2
      have f10 : Wk.frozen? ⟨w.heap.size + 1 + 1 + 1 + 1, 2, none⟩ = false := (Bl.cells_block hek.t).2 2
      clear hws hej
      gi_wp2_with fail
      have hel := hek.filtered fx
      generalize Wk.setCell ⟨w.heap.size + 1 + 1 + 1 + 1, 2, none⟩ (.string (bstr fx)) = Wl at *
      have held := hel.below ((Below.refl _ _).drew)
      have hst := String_bd (w.heap.size + 8) w.heap.size vf3 _ Wl.drew held.f (fun e => by have := congrArg List.length e; simp only [List.length_append, be8_length] at this; simp only [List.length_nil] at this; omega)
      have q11 : Wl.drew.cell? ⟨w.heap.size + 1 + 1 + 1 + 1 + 1, 0, none⟩ = some (.pointer (some ⟨w.heap.size + 1 + 1 + 1 + 1, 0, none⟩)) := (Bl.cells_block held.q).1 0
      have hq12 : ∀ W, Kp Wl.drew W (fun i => vf3.ownBlock = some i) → W.cell? ⟨w.heap.size + 1 + 1 + 1 + 1 + 1, 0, none⟩ = some (.pointer (some ⟨w.heap.size + 1 + 1 + 1 + 1, 0, none⟩)) := fun W hk => (Bl.cells_block ((hk.block _ (held.lt (Or.inl ⟨by omega, by omega⟩)) (fun e => by have := (own_blk_lt held.f.row e).2.1; omega)).trans held.q)).1 0
      have HEL : Hid _ := held
      clear hek hel held c9 c10 f10
      refine wpIn_wide.2 ?_
      go_region_held3 (fun w' => w'.cell? ⟨w.heap.size + 1 + 1 + 1 + 1 + 1, 0, none⟩ = some (.pointer (some ⟨w.heap.size + 1 + 1 + 1 + 1, 0, none⟩)))
        (first | with_reducible exact q11 | with_reducible exact q12)
        (first
          | (go_at_call 57; with_reducible refine hst.mono ?_; rintro e Wm ⟨rfl, hkm⟩; have q12 := hq12 Wm hkm))
      gi_wp2_with fail
      have hlt : F1 ++ (frm fx ++ (be8 (pcOf Bs).f.length ++ be8 F1.length)) = layT Bs := by
        rw [HFX.out, HF1.out]
        unfold layT
        rw [List.append_assoc, List.length_append]
        rfl
      obtain ⟨hd5, htb, hbe5⟩ := HEL.out.tb (Bs := Bs) HFX.out rfl rfl rfl (by have := HSZ.out; omega) hkm
      refine leaves_mark (v := .tuple #[.string (bstr (F1 ++ (frm fx ++ (be8 (pcOf Bs).f.length ++ be8 F1.length)))), .pointer (some ⟨w.heap.size + 1 + 1 + 1 + 1, 0, none⟩), .int .i64 0]) (fun W' => by simp [results, Tryz.results25, go_sem]) hd5 ⟨_, _, _, ?_, htb, hbe5⟩
      rw [hlt]
    · exact hj.elim
  · intro X W hX hb
    exact pj_init hps hbW hW1 hW2 (by have := HSZ.out; omega) X W hX hb
  · intro m X j W B v hBj hX hTV hj
    have eRR : ({ RR with state := .ready, pending := none } : Loop) = RR := by
      have e1 := hRR.s
      have e2 := hRR.e
      cases RR
      simp_all
    have key : ∀ RP : Ending → World → Prop, Hid (∀ W', PJ w w.heap.size wf.heap.size RR Bs X (j + 1) W' → (∀ i, X i → W'.heap[i]? = W.heap[i]?) → RP (.returned (.bool true)) W') → YieldAt Fence.wide m Tryz.prog (wf.heap.size + 1) #[v, .string (bstr (blkB B))] W RP := by
      intro RP hRP
      obtain ⟨V0, hs0⟩ := hj.s
      obtain ⟨g, off, cap, rfl, hcr, hcb, hcap⟩ := hTV.out
      refine yield_round2 hj.r hRR rfl ?_
      clear hps hT hTV
      gi_wp2_with fail
      refine ⟨_, run_beginRound hj.r hRR.s, ?_⟩
      have hPR0 : PR w w.heap.size wf.heap.size RR V0 (pcOf (Bs.take j)) X W g off B (W.putObj (wf.heap.size + 1) (.loop { RR with state := .busy })) := pr_init hj hs0 hcr hcb
      generalize W.putObj (wf.heap.size + 1) (.loop { RR with state := .busy }) = Wb at *
      gi_wp2_with fail
      have hgB := hG.good B (List.mem_of_getElem? hBj)
      have hB32 : B.length ≤ 32768 := good_len hgB.1
      have HGB : Hid _ := hgB
      clear hgB
      generalize hC0 : pcOf (Bs.take j) = C0 at *
      have HRP : Hid _ := hRP
      have HBJ : Hid _ := hBj
      have HJ : Hid _ := hj
      have HC0 : Hid _ := hC0
      clear hRP hBj hj hC0 hX hs0 hcr hcb
      refine wpIn_loop_n (fun k a Wx => ∃ (i : Nat) (V : PV) (u15 u16 u33 u34 u35 u36 u37 u38 u39 u40 u41 u42 u43 u44 u45 u46 u47 u48 : Value), a = { tmps := #[.func (.func gf) #[] caps, undef, .string ⟨#[]⟩, .pointer none, .int .i64 0, .pointer (some ⟨w.heap.size, 0, none⟩), .pointer (some ⟨w.heap.size + 1, 0, none⟩), .pointer (some ⟨w.heap.size + 1 + 1, 0, none⟩), .pointer (some ⟨w.heap.size + 1 + 1 + 1, 0, none⟩), .pointer (some ⟨w.heap.size + 1 + 1 + 1 + 1 + 1, 0, none⟩), .pointer (some ⟨w.heap.size + 1 + 1 + 1 + 1 + 1 + 1, 0, none⟩), .pointer (some ⟨w.heap.size + 1 + 1 + 1 + 1 + 1 + 1 + 1, 0, none⟩), .slice (some ⟨g, off, none⟩) B.length cap, .string (bstr (blkB B)), undef, u15, u16, undef, undef, undef, undef, undef, undef, undef, undef, .func (.func 50) #[] #[.pointer (some ⟨w.heap.size + 1 + 1, 0, none⟩), .pointer (some ⟨w.heap.size, 0, none⟩)], .agg #[.slice none 0 0, .slice none 0 0, .string ⟨#[]⟩, .int .i64 0], .pointer (some ⟨w.heap.size + 1 + 1 + 1 + 1, 0, none⟩), .func (.func gf) #[] caps, .slice (some ⟨g, off, none⟩) B.length cap, .string (bstr (blkB B)), .slice (some ⟨g, off, none⟩) B.length cap, .int .i64 (B.length : Int), u33, u34, u35, u36, u37, u38, u39, u40, u41, u42, u43, u44, u45, u46, u47, u48, undef, undef, undef, undef, undef, undef, undef, undef, undef, undef, undef, undef, undef, undef, undef, undef, undef, undef, undef, undef, undef, undef, undef, undef, undef, undef, undef, undef, undef, undef, undef, undef, undef, undef, undef, undef, undef, undef, undef, undef, undef, undef, undef, undef, undef, undef, undef, undef, undef, undef, undef, undef, undef, undef, undef, undef, undef, undef, undef, undef, undef, undef, undef, undef, undef, undef, undef, undef, undef, undef, undef, undef, undef, undef, undef, undef, undef, undef, undef, undef, undef, undef, undef, undef, undef, undef], defers := [] } ∧ u33 = .int .i64 (i : Int) ∧ i + k = B.length ∧ PR w w.heap.size wf.heap.size RR V (cIn C0 B i) X W g off B Wx) B.length ?start ?round
      case start => exact ⟨0, V0, _, _, _, _, _, _, _, _, _, _, _, _, _, _, _, _, _, _, rfl, rfl, by omega, by rw [cIn_zero]; exact hPR0⟩
      case round =>
        clear hPR0
        rintro k a Wx ⟨i, V, u15, u16, u33, u34, u35, u36, u37, u38, u39, u40, u41, u42, u43, u44, u45, u46, u47, u48, rfl, rfl, hik, hPR⟩
        have HIK : Hid _ := hik
        cases k with
        | zero =>
          have hge : ¬ ((i : Int) < (B.length : Int)) := by omega
          have hiB : i = B.length := by omega
          have HIB : Hid _ := hiB
          have hPB : PB (cIn C0 B i) B := pc_long hG hR HC0.out HBJ.out
          have HPB : Hid _ := hPB
          have HKB : Hid ((cIn C0 B i).k ≤ 100000000000) := hPB.k
          have hpll := pl_long (C0 := C0) HGB.out.1.ok HGB.out.2 hiB
          have hcl := (Bl.cells_block hPR.s.l).1 0
          change _ = some (layV w.heap.size (w.heap.size + 1 + 1)) at hcl
          have hla := lay1_any (w.heap.size + 8) w.heap.size (w.heap.size + 1 + 1) V.f (cIn C0 B i).f (blkB B) Wx hPR.s.f hPR.s.e (ht.below hPR.s.be) HGB.out.1.long (by have := hPB.f; omega) (by have := hPR.s.lt (Or.inl ⟨Nat.le_add_right w.heap.size 7, by omega⟩); omega)
          obtain ⟨at_, hat⟩ : ∃ at_, at_ = (cIn C0 B i).f.length := ⟨_, rfl⟩
          obtain ⟨sz, hsz⟩ : ∃ sz, sz = (frm (blkB B)).length := ⟨_, rfl⟩
          rw [← hat, ← hsz] at hla
          have HAT : Hid _ := hat
          have HSZ2 : Hid _ := hsz
          have HPR : Hid _ := hPR
          clear hPR hat hsz hiB
          gi_wp2_with fail
          refine ⟨trivial, fun h => (by cases h), (CallsIn.inRound _ (callsIn_wide.2 hla)).mono ?_⟩
          rintro e W2 ⟨vf, rfl, hf2, hk2, hv2⟩
          have hs2 := HPR.out.s.wroteF hf2 hk2 hv2
          have hPR2 := HPR.out.next hk2 (fun q hq => by
            rcases hq with rfl | hq
            · exact Or.inl ⟨by omega, by omega⟩
            · exact Or.inr (Or.inl hq)) hs2
          have z0 := (Bl.cells_block hPR2.s.z).1 0
          have z1 := (Bl.cells_block hPR2.s.z).1 1
          change _ = some (Value.string (bstr (cIn C0 B i).p.1)) at z0
          change _ = some (Value.string (bstr (cIn C0 B i).p.2)) at z1
          obtain ⟨p1, hp1⟩ : ∃ p1, p1 = (cIn C0 B i).p.1 := ⟨_, rfl⟩
          obtain ⟨p2, hp2⟩ : ∃ p2, p2 = (cIn C0 B i).p.2 := ⟨_, rfl⟩
          rw [← hp1] at z0
          rw [← hp2] at z1
          have hpl : p1.length ≤ 1000 ∧ p2.length ≤ 1000 := by rw [hp1, hp2]; omega
          have hatl : at_ ≤ 4294967295 := by rw [HAT.out]; have := HPB.out.f; omega
          have hszl : sz ≤ 1048584 := by rw [HSZ2.out]; exact HPB.out.z
          have hix := indexRow_any (p1, p2) at_ sz B.length W2 hpl.1 hpl.2 (by omega) (by omega) (by omega)
          have HP1 : Hid _ := hp1
          have HP2 : Hid _ := hp2
          have H2 : Hid _ := hPR2
          clear hs2 hf2 hk2 hv2 hPR2 hla hcl HPR hp1 hp2
          gi_wp2_with fail
          refine ⟨trivial, fun h => (by cases h), (CallsIn.inRound _ (callsIn_wide.2 hix)).mono ?_⟩
          rintro e W3 ⟨rfl, hb3⟩
          have hPR3 := H2.out.below hb3
          obtain ⟨row, hrow⟩ : ∃ row, row = rowI (p1, p2) at_ sz B.length := ⟨_, rfl⟩
          rw [← hrow]
          have HROW : Hid _ := hrow
          have hrl : (cIn C0 B i).i.length + row.length ≤ 140737488355328 := by
            have h1 := HPB.out.i
            have h2 := rowI_long (p := (p1, p2)) (a := at_) (s := sz) (n := B.length) (by rw [HP1.out]; exact hpll.1) (by rw [HP2.out]; exact hpll.2) hatl (by omega) (by omega)
            rw [HROW.out]
            omega
          have hwi := WriteString_bd (w.heap.size + 8) (w.heap.size + 1) V.i (cIn C0 B i).i row W3 hPR3.s.i hrl (by have := hPR3.s.lt (Or.inl ⟨Nat.le_add_right w.heap.size 7, by omega⟩); omega)
          have H3 : Hid _ := hPR3
          clear hPR3 H2 hix z0 z1 hrow
          gi_wp2_with fail
          refine ⟨trivial, fun h => (by cases h), (CallsIn.inRound _ (callsIn_wide.2 hwi)).mono ?_⟩
          rintro e W4 ⟨vi, rfl, hi4, hk4, hv4⟩
          have hs4 := H3.out.s.wroteI hi4 hk4 hv4 (by rw [HROW.out]; exact rowI_ne _ _ _ _ _)
          have hPR4 := H3.out.next hk4 (fun q hq => by
            rcases hq with rfl | hq
            · exact Or.inl ⟨by omega, by omega⟩
            · exact Or.inr (Or.inr (Or.inl hq))) hs4
          have H4 : Hid _ := hPR4
          clear hs4 hi4 hk4 hv4 hPR4 H3 hwi hrl
          gi_wp2_with fail
          have hq0 := (Bl.cells_block H4.out.s.q).1 0
          have hz0 := (Bl.cells_block H4.out.s.z).1 0
          have hz1 := (Bl.cells_block H4.out.s.z).1 1
          have ht0 := (Bl.cells_block H4.out.s.t).1 0
          have ht1 := (Bl.cells_block H4.out.s.t).1 1
          change _ = some (Value.pointer _) at hq0
          change _ = some (Value.string (bstr (cIn C0 B i).p.1)) at hz0
          change _ = some (Value.string (bstr (cIn C0 B i).p.2)) at hz1
          rw [← HP1.out] at hz0
          rw [← HP2.out] at hz1
          change _ = some V.b at ht0
          change _ = some V.l at ht1
          have hrb : W4.ownsRow (w.heap.size + 8) 9 1 V.b (cIn C0 B i).b.length (strCells (cIn C0 B i).b) := H4.out.s.rb
          have hrl : W4.ownsRow (w.heap.size + 8) 75 2 V.l (cIn C0 B i).l.length (plCells (cIn C0 B i).l) := H4.out.s.rl
          obtain ⟨vb, hvb⟩ : ∃ vb, vb = V.b := ⟨_, rfl⟩
          obtain ⟨vl, hvl⟩ : ∃ vl, vl = V.l := ⟨_, rfl⟩
          rw [← hvb] at ht0 hrb
          rw [← hvl] at ht1 hrl
          have HVB : Hid _ := hvb
          have HVL : Hid _ := hvl
          have hbl : (cIn C0 B i).b.length ≤ 1048576 := HPB.out.b
          have hll : (cIn C0 B i).l.length ≤ 1048576 := HPB.out.l
          have hsz4 : w.heap.size + 8 ≤ W4.heap.size := by have := H4.out.s.lt (Or.inl ⟨Nat.le_add_right w.heap.size 7, by omega⟩); omega
          obtain ⟨cb, hcb⟩ : ∃ cb, cb = (cIn C0 B i).b := ⟨_, rfl⟩
          obtain ⟨cl, hcl⟩ : ∃ cl, cl = (cIn C0 B i).l := ⟨_, rfl⟩
          rw [← hcb] at hrb hbl
          rw [← hcl] at hrl hll
          have HCB : Hid _ := hcb
          have HCL : Hid _ := hcl
          have hS : ∀ W' : World, (∀ q, w.heap.size ≤ q → q < w.heap.size + 8 → W'.heap[q]? = W4.heap[q]?) → (W'.cell? ⟨w.heap.size + 1 + 1 + 1 + 1 + 1, 0, none⟩ = some (.pointer (some ⟨w.heap.size + 1 + 1 + 1 + 1, 0, none⟩)) ∧ W'.cell? ⟨w.heap.size + 1 + 1 + 1 + 1 + 1 + 1 + 1, 0, none⟩ = some (.string (bstr p1)) ∧ W'.cell? ⟨w.heap.size + 1 + 1 + 1 + 1 + 1 + 1 + 1, 1, none⟩ = some (.string (bstr p2))) ∧ (W'.cell? ⟨w.heap.size + 1 + 1 + 1 + 1, 0, none⟩ = some vb ∧ W'.cell? ⟨w.heap.size + 1 + 1 + 1 + 1, 1, none⟩ = some vl) := fun W' hW' =>
            ⟨⟨(World.cell?_of_block (hW' (w.heap.size + 1 + 1 + 1 + 1 + 1) (by omega) (by omega))).trans hq0, (World.cell?_of_block (hW' (w.heap.size + 1 + 1 + 1 + 1 + 1 + 1 + 1) (by omega) (by omega))).trans hz0, (World.cell?_of_block (hW' (w.heap.size + 1 + 1 + 1 + 1 + 1 + 1 + 1) (by omega) (by omega))).trans hz1⟩, (World.cell?_of_block (hW' (w.heap.size + 1 + 1 + 1 + 1) (by omega) (by omega))).trans ht0, (World.cell?_of_block (hW' (w.heap.size + 1 + 1 + 1 + 1) (by omega) (by omega))).trans ht1⟩
          have HS : Hid _ := hS
          obtain ⟨i0, hi0, hiz0, hiz1, hiz2⟩ := info_parts Tryz.infoStrS
          obtain ⟨j0, hj0, hjz0, hjz1, hjz2⟩ := info_parts Tryz.infoPl
          clear hvb hvl hcb hcl hS hq0 hz0 hz1 ht0 ht1
          obtain ⟨Wd4, hWd4⟩ : ∃ Wd4, Wd4 = W4.drew := ⟨_, rfl⟩
          have hq4 : ∀ q : Nat, Wd4.heap[q]? = W4.heap[q]? := fun q => by rw [hWd4]; rfl
          obtain ⟨s0, s1⟩ := HS.out Wd4 (fun q _ _ => hq4 q)
          have hrb4 : Wd4.ownsRow (w.heap.size + 8) 9 1 vb cb.length (strCells cb) := by rw [hWd4]; exact hrb
          have hrl4 : Wd4.ownsRow (w.heap.size + 8) 75 2 vl cl.length (plCells cl) := by rw [hWd4]; exact hrl
          have hb44 : Below W4.heap.size W4 Wd4 := by rw [hWd4]; exact (Below.refl _ _).drew
          have hz44 : Wd4.heap.size = W4.heap.size := by rw [hWd4]; rfl
          obtain ⟨bb, hbb⟩ : ∃ bb, bb = blkB B := ⟨_, rfl⟩
          rw [← hbb]
          have HBB : Hid _ := hbb
          clear hbb
          refine sto_round (S0 := fun w' => w'.cell? ⟨w.heap.size + 1 + 1 + 1 + 1 + 1, 0, none⟩ = some (.pointer (some ⟨w.heap.size + 1 + 1 + 1 + 1, 0, none⟩)) ∧ w'.cell? ⟨w.heap.size + 1 + 1 + 1 + 1 + 1 + 1 + 1, 0, none⟩ = some (.string (bstr p1)) ∧ w'.cell? ⟨w.heap.size + 1 + 1 + 1 + 1 + 1 + 1 + 1, 1, none⟩ = some (.string (bstr p2))) (S1 := fun w' => w'.cell? ⟨w.heap.size + 1 + 1 + 1 + 1, 0, none⟩ = some vb ∧ w'.cell? ⟨w.heap.size + 1 + 1 + 1 + 1, 1, none⟩ = some vl) (st := 18) (by kernel_rfl) (by kernel_rfl) ?_
          rw [← hWd4]
          clear hWd4
          refine wpAnyS_takeA (i := 0) (oi := ⟨_, _, _, _, _, _⟩) (v := .pointer (some ⟨w.heap.size + 1 + 1 + 1 + 1, 0, none⟩)) rfl (by kernel_rfl) (by kernel_rfl) (by kernel_rfl) rfl (fun _ _ _ h => h) (Or.inl ⟨by rfl, fun w' hS' => ?_⟩) s0 (fun _ => s1) ?_
          · obtain ⟨h1, h2, h3⟩ := hS'
            go_simp
          refine wpAnyS_takeA (i := 1) (oi := ⟨_, _, _, _, _, _⟩) (v := .pointer (some ⟨w.heap.size + 1 + 1 + 1 + 1, 0, none⟩)) rfl (by kernel_rfl) (by kernel_rfl) (by kernel_rfl) rfl (fun _ _ _ h => h) (Or.inl ⟨by rfl, fun w' hS' => ?_⟩) s0 (fun _ => s1) ?_
          · obtain ⟨h1, h2, h3⟩ := hS'
            go_simp
          refine wpAnyS_takeA (i := 2) (oi := ⟨_, _, _, _, _, _⟩) (v := .pointer (some ⟨w.heap.size + 1 + 1 + 1 + 1, 0, none⟩)) rfl (by kernel_rfl) (by kernel_rfl) (by kernel_rfl) rfl (fun _ _ _ h => h) (Or.inl ⟨by rfl, fun w' hS' => ?_⟩) s0 (fun _ => s1) ?_
          · obtain ⟨h1, h2, h3⟩ := hS'
            go_simp
          refine wpAnyS_takeA (i := 3) (oi := ⟨_, _, _, _, _, _⟩) (v := .pointer (some ⟨w.heap.size + 1 + 1 + 1 + 1, 0, none⟩)) rfl (by kernel_rfl) (by kernel_rfl) (by kernel_rfl) rfl (fun _ _ _ h => h) (Or.inl ⟨by rfl, fun w' hS' => ?_⟩) s0 (fun _ => s1) ?_
          · obtain ⟨h1, h2, h3⟩ := hS'
            go_simp
          refine wpAnyS_takeA (i := 4) (oi := ⟨_, _, _, _, _, _⟩) (v := .pointer (some ⟨w.heap.size + 1 + 1 + 1 + 1, 0, none⟩)) rfl (by kernel_rfl) (by kernel_rfl) (by kernel_rfl) rfl (fun _ _ _ h => h) (Or.inl ⟨by rfl, fun w' hS' => ?_⟩) s0 (fun _ => s1) ?_
          · obtain ⟨h1, h2, h3⟩ := hS'
            go_simp
          refine wpAnyS_takeB (i := 5) (oi := ⟨_, _, _, _, _, _⟩) (v := vb) rfl (by kernel_rfl) (by kernel_rfl) (by kernel_rfl) rfl (by kernel_rfl) (by kernel_rfl) (fun _ _ _ h => h) (Or.inl ⟨by rfl, fun w' hS' => ?_⟩) s0 s1 ?_
          · obtain ⟨⟨h1, h2, h3⟩, h4, h5⟩ := hS'
            go_simp
          refine wpAnyS_takeA (i := 6) (oi := ⟨_, _, _, _, _, _⟩) (v := .string (bstr bb)) rfl (by kernel_rfl) (by kernel_rfl) (by kernel_rfl) rfl (fun _ _ _ h => h) (Or.inl ⟨by rfl, fun w' hS' => ?_⟩) s0 (fun _ => s1) ?_
          · obtain ⟨h1, h2, h3⟩ := hS'
            go_simp
          refine wpAnyS_takeA (i := 9) (oi := ⟨_, _, _, _, _, _⟩) (v := .pointer (some ⟨w.heap.size + 1 + 1 + 1 + 1, 0, none⟩)) rfl (by kernel_rfl) (by kernel_rfl) (by kernel_rfl) rfl (fun _ _ _ h => h) (Or.inl ⟨by rfl, fun w' hS' => ?_⟩) s0 (fun _ => s1) ?_
          · obtain ⟨h1, h2, h3⟩ := hS'
            go_simp
          refine wpAnyS_takeA (i := 10) (oi := ⟨_, _, _, _, _, _⟩) (v := .pointer (some ⟨w.heap.size + 1 + 1 + 1 + 1, 0, none⟩)) rfl (by kernel_rfl) (by kernel_rfl) (by kernel_rfl) rfl (fun _ _ _ h => h) (Or.inl ⟨by rfl, fun w' hS' => ?_⟩) s0 (fun _ => s1) ?_
          · obtain ⟨h1, h2, h3⟩ := hS'
            go_simp
          refine wpAnyS_takeA (i := 11) (oi := ⟨_, _, _, _, _, _⟩) (v := .pointer (some ⟨w.heap.size + 1 + 1 + 1 + 1, 1, none⟩)) rfl (by kernel_rfl) (by kernel_rfl) (by kernel_rfl) rfl (fun _ _ _ h => h) (Or.inl ⟨by rfl, fun w' hS' => ?_⟩) s0 (fun _ => s1) ?_
          · obtain ⟨h1, h2, h3⟩ := hS'
            go_simp
          refine wpAnyS_takeB (i := 12) (oi := ⟨_, _, _, _, _, _⟩) (v := vl) rfl (by kernel_rfl) (by kernel_rfl) (by kernel_rfl) rfl (by kernel_rfl) (by kernel_rfl) (fun _ _ _ h => h) (Or.inl ⟨by rfl, fun w' hS' => ?_⟩) s0 s1 ?_
          · obtain ⟨⟨h1, h2, h3⟩, h4, h5⟩ := hS'
            go_simp
          refine wpAnyS_takeA (i := 13) (oi := ⟨_, _, _, _, _, _⟩) (v := .agg #[.string (bstr p1), .string (bstr p2)]) rfl (by kernel_rfl) (by kernel_rfl) (by kernel_rfl) rfl (fun _ _ _ h => h) (Or.inl ⟨by rfl, fun w' hS' => ?_⟩) s0 (fun _ => s1) ?_
          · obtain ⟨h1, h2, h3⟩ := hS'
            go_simp
          simp only [Act.put, List.setIfInBounds_toArray, List.set_cons_zero, List.set_cons_succ]
          clear s0 s1 hrb hrl
          refine wpAnyS_ready (rs := [7, 14]) (by kernel_rfl) (by simp) ?_
          have hzWd4 : w.heap.size + 8 ≤ Wd4.heap.size := by rw [hz44]; exact hsz4
          have heWd4 : ∀ q, w.heap.size ≤ q → q < w.heap.size + 8 → Wd4.heap[q]? = W4.heap[q]? := fun q _ _ => hq4 q
          have HQ4 : Hid _ := hq4
          have HZ44 : Hid _ := hz44
          clear hq4 hz44
          have hrbWd4 := hrb4
          have hrlWd4 := hrl4
          refine AllS.cons (o := ⟨_, _, _, _, _, _⟩) rfl (by rfl) (fun K hK => ?_) ?_
          · obtain ⟨W5, hW5⟩ : ∃ W5, W5 = Wd4.alloc (.cells #[.string (bstr bb)] 9) := ⟨_, rfl⟩
            have hbW5 : Below Wd4.heap.size Wd4 W5 := by rw [hW5]; exact (Below.refl _ _).alloc (Nat.le_refl _) _
            have hnW5 : W5.heap[Wd4.heap.size]? = some (.cells #[.string (bstr bb)] 9 (0, 0)) := by rw [hW5]; exact heap_alloc_new _ _
            have hzW5 : w.heap.size + 8 ≤ W5.heap.size := Nat.le_trans hzWd4 hbW5.size
            have heW5 : ∀ q, w.heap.size ≤ q → q < w.heap.size + 8 → W5.heap[q]? = W4.heap[q]? := fun q h1 h2 => (hbW5.block q (by have := hzWd4; omega)).trans (heWd4 q h1 h2)
            obtain ⟨s0W5, s1W5⟩ := HS.out W5 heW5
            go_wp2_with fail
            rw [← hW5]
            refine hK.out _ _ s0W5 (fun _ => s1W5) ?_
            clear hK K hW5 s0W5 s1W5
            have hrbW5 := own_belowS hrbWd4 hbW5
            have hrlW5 := own_belowS hrlWd4 hbW5
            have hb05 := below2 hb44 hbW5
            refine wpAnyS_ready (rs := [8, 14]) (by kernel_rfl) (by simp) ?_
            refine AllS.cons (o := ⟨_, _, _, _, _, _⟩) rfl (by rfl) (fun K hK => ?_) ?_
            · refine op_app _ _ 65 rfl (w.heap.size + 8) 9 i0 (.string ⟨#[]⟩) 1 16 Tryz.underlying65 hi0 hiz0 hiz1 hiz2 rfl (by decide) vb cb.length (strCells cb) rfl hrbW5 ⟨Wd4.heap.size, 0, none⟩ 1 1 [.string (bstr bb)] (by decide) rfl rfl ?cells ?one ?b1 ?b2 ?b3 ?_
              case cells =>
                intro j2 u hj2
                match j2, hj2 with
                | 0, hj2 => cases hj2; exact (Bl.cells_block hnW5).1 0
                | j3 + 1, hj2 => simp at hj2
              case one => intro u hu; simp at hu; subst hu; rfl
              case b1 => unfold maxLen; omega
              case b2 => omega
              case b3 => exact hzW5
              intro v1 W6 hown1 hg1 hv1
              have hkW6 : Kp W5 W6 (fun q => vb.ownBlock = some q) := Kp.of_grown hg1 (fun k hk => hk)
              have hvb8 : ∀ q, vb.ownBlock = some q → w.heap.size + 8 ≤ q := fun q hq => (own_blk_lt hrbW5 hq).2.1
              have hzW6 : w.heap.size + 8 ≤ W6.heap.size := Nat.le_trans hzW5 hkW6.size
              have heW6 : ∀ q, w.heap.size ≤ q → q < w.heap.size + 8 → W6.heap[q]? = W4.heap[q]? := fun q h1 h2 => (hkW6.block q (by have := hzW5; omega) (fun hq => by have := hvb8 q hq; omega)).trans (heW5 q h1 h2)
              have hrlW6 : W6.ownsRow (w.heap.size + 8) 75 2 vl cl.length (plCells cl) := own_kept hrlW5 fun q hq => hkW6.block q (own_blk_lt hrlW5 hq).1 (own_apart2 hrlW5 hrbW5 (by decide) hq)
              obtain ⟨s0W6, s1W6⟩ := HS.out W6 heW6
              refine hK.out _ _ s0W6 (fun _ => s1W6) ?_
              clear hK K s0W6 s1W6
              simp only [Act.put, List.setIfInBounds_toArray, List.set_cons_zero, List.set_cons_succ]
              refine wpAnyS_ready (rs := [14]) (by kernel_rfl) (by simp) ?_
              refine AllS.cons (o := ⟨_, _, _, _, _, _⟩) rfl (by rfl) (fun K hK => ?_) AllS.nil
              obtain ⟨W7, hW7⟩ : ∃ W7, W7 = (W6).alloc (.cells #[.string (bstr p1), .string (bstr p2)] 75) := ⟨_, rfl⟩
              have hbW7 : Below (W6).heap.size (W6) W7 := by rw [hW7]; exact (Below.refl _ _).alloc (Nat.le_refl _) _
              have hnW7 : W7.heap[(W6).heap.size]? = some (.cells #[.string (bstr p1), .string (bstr p2)] 75 (0, 0)) := by rw [hW7]; exact heap_alloc_new _ _
              have hzW7 : w.heap.size + 8 ≤ W7.heap.size := Nat.le_trans hzW6 hbW7.size
              have heW7 : ∀ q, w.heap.size ≤ q → q < w.heap.size + 8 → W7.heap[q]? = W4.heap[q]? := fun q h1 h2 => (hbW7.block q (by have := hzW6; omega)).trans (heW6 q h1 h2)
              obtain ⟨s0W7, s1W7⟩ := HS.out W7 heW7
              go_wp2_with fail
              rw [← hW7]
              refine hK.out _ _ s0W7 (fun _ => s1W7) ?_
              clear hK K hW7 s0W7 s1W7
              have hrlW7 := own_belowS hrlW6 hbW7
              refine wpAnyS_ready (rs := [15]) (by kernel_rfl) (by simp) ?_
              refine AllS.cons (o := ⟨_, _, _, _, _, _⟩) rfl (by rfl) (fun K hK => ?_) AllS.nil
              refine op_app _ _ 77 rfl (w.heap.size + 8) 75 j0 (.agg #[.string ⟨#[]⟩, .string ⟨#[]⟩]) 2 32 Tryz.underlying77 hj0 hjz0 hjz1 hjz2 rfl (by decide) vl cl.length (plCells cl) rfl hrlW7 ⟨(W6).heap.size, 0, none⟩ 1 1 [.string (bstr p1), .string (bstr p2)] (by decide) rfl rfl ?cells ?one ?b1 ?b2 ?b3 ?_
              case cells =>
                intro j2 u hj2
                match j2, hj2 with
                | 0, hj2 => cases hj2; exact (Bl.cells_block hnW7).1 0
                | 1, hj2 => cases hj2; exact (Bl.cells_block hnW7).1 1
                | j3 + 2, hj2 => simp at hj2
              case one => intro u hu; simp at hu; rcases hu with rfl | rfl <;> rfl
              case b1 => unfold maxLen; omega
              case b2 => omega
              case b3 => exact hzW7
              intro u1 W8 hown2 hg2 hv2
              have hkW8 : Kp W7 W8 (fun q => vl.ownBlock = some q) := Kp.of_grown hg2 (fun k hk => hk)
              have hvl8 : ∀ q, vl.ownBlock = some q → w.heap.size + 8 ≤ q := fun q hq => (own_blk_lt hrlW7 hq).2.1
              have heW8 : ∀ q, w.heap.size ≤ q → q < w.heap.size + 8 → W8.heap[q]? = W4.heap[q]? := fun q h1 h2 => (hkW8.block q (by have := hzW7; omega) (fun hq => by have := hvl8 q hq; omega)).trans (heW7 q h1 h2)
              obtain ⟨s0W8, s1W8⟩ := HS.out W8 heW8
              refine hK.out _ _ s0W8 (fun _ => s1W8) ?_
              clear hK K
              simp only [Act.put, List.setIfInBounds_toArray, List.set_cons_zero, List.set_cons_succ]
              have htd : W8.heap[w.heap.size + 1 + 1 + 1 + 1]? = _ := (heW8 (w.heap.size + 1 + 1 + 1 + 1) (by omega) (by omega)).trans H4.out.s.t
              have t0d := s1W8.1
              have t1d := s1W8.2
              have f0d : W8.frozen? ⟨w.heap.size + 1 + 1 + 1 + 1, 0, none⟩ = false := (Bl.cells_block htd).2 0
              refine wpAnyS_takeA (i := 16) (oi := ⟨_, _, _, _, _, _⟩) (v := .pointer (some ⟨w.heap.size + 1 + 1 + 1 + 1, 0, none⟩)) rfl (by kernel_rfl) (by kernel_rfl) (by kernel_rfl) rfl (fun _ _ _ h => h) (Or.inl ⟨by rfl, fun w' hS' => ?_⟩) s0W8 (fun _ => s1W8) ?_
              · obtain ⟨h1, h2, h3⟩ := hS'
                go_simp
              refine wpAnyS_takeA (i := 17) (oi := ⟨_, _, _, _, _, _⟩) (v := .pointer (some ⟨w.heap.size + 1 + 1 + 1 + 1, 0, none⟩)) rfl (by kernel_rfl) (by kernel_rfl) (by kernel_rfl) rfl (fun _ _ _ h => h) (Or.inl ⟨by rfl, fun w' hS' => ?_⟩) s0W8 (fun _ => s1W8) ?_
              · obtain ⟨h1, h2, h3⟩ := hS'
                go_simp
              simp only [Act.put, List.setIfInBounds_toArray, List.set_cons_zero, List.set_cons_succ]
              obtain ⟨ao, na, ca, rfl⟩ : ∃ ao n' cap, v1 = .slice ao n' cap := by
                rcases hown1.2 with ⟨hv, _⟩ | ⟨g, cap, cur, hv, _⟩
                · exact ⟨_, _, _, hv⟩
                · exact ⟨_, _, _, hv⟩
              obtain ⟨au, nu, cu, rfl⟩ : ∃ ao n' cap, u1 = .slice ao n' cap := by
                rcases hown2.2 with ⟨hv, _⟩ | ⟨g, cap, cur, hv, _⟩
                · exact ⟨_, _, _, hv⟩
                · exact ⟨_, _, _, hv⟩
              refine wpAnyS_ready (rs := [18]) (by kernel_rfl) (by simp) ?_
              refine AllS.cons (o := ⟨_, _, _, _, _, _⟩) rfl (by rfl) (fun K hK => ?_) AllS.nil
              go_wp2_with fail
              have hsd : ∀ q, q ≠ w.heap.size + 1 + 1 + 1 + 1 → (W8.setCell ⟨w.heap.size + 1 + 1 + 1 + 1, 0, none⟩ (.slice ao na ca)).heap[q]? = W8.heap[q]? := fun q hq => heap_set_other _ hq
              have s0e : (W8.setCell ⟨w.heap.size + 1 + 1 + 1 + 1, 0, none⟩ (.slice ao na ca)).cell? ⟨w.heap.size + 1 + 1 + 1 + 1 + 1, 0, none⟩ = some (.pointer (some ⟨w.heap.size + 1 + 1 + 1 + 1, 0, none⟩)) ∧ (W8.setCell ⟨w.heap.size + 1 + 1 + 1 + 1, 0, none⟩ (.slice ao na ca)).cell? ⟨w.heap.size + 1 + 1 + 1 + 1 + 1 + 1 + 1, 0, none⟩ = some (.string (bstr p1)) ∧ (W8.setCell ⟨w.heap.size + 1 + 1 + 1 + 1, 0, none⟩ (.slice ao na ca)).cell? ⟨w.heap.size + 1 + 1 + 1 + 1 + 1 + 1 + 1, 1, none⟩ = some (.string (bstr p2)) :=
                ⟨(World.cell?_of_block (hsd (w.heap.size + 1 + 1 + 1 + 1 + 1) (by omega))).trans s0W8.1, (World.cell?_of_block (hsd (w.heap.size + 1 + 1 + 1 + 1 + 1 + 1 + 1) (by omega))).trans s0W8.2.1, (World.cell?_of_block (hsd (w.heap.size + 1 + 1 + 1 + 1 + 1 + 1 + 1) (by omega))).trans s0W8.2.2⟩
              have hte := heap_set_same (o := 0) htd (.slice ao na ca)
              have t1e : (W8.setCell ⟨w.heap.size + 1 + 1 + 1 + 1, 0, none⟩ (.slice ao na ca)).cell? ⟨w.heap.size + 1 + 1 + 1 + 1, 1, none⟩ = some V.l := (Bl.cells_block hte).1 1
              have f1e : (W8.setCell ⟨w.heap.size + 1 + 1 + 1 + 1, 0, none⟩ (.slice ao na ca)).frozen? ⟨w.heap.size + 1 + 1 + 1 + 1, 1, none⟩ = false := (Bl.cells_block hte).2 1
              refine hK.out _ _ s0e (fun h => absurd h (by decide)) ?_
              clear hK K
              refine wpAnyS_takeA (i := 19) (oi := ⟨_, _, _, _, _, _⟩) (v := .pointer (some ⟨w.heap.size + 1 + 1 + 1 + 1, 0, none⟩)) rfl (by kernel_rfl) (by kernel_rfl) (by kernel_rfl) rfl (fun _ _ _ h => h) (Or.inl ⟨by rfl, fun w' hS' => ?_⟩) s0e (fun h => absurd h (by decide)) ?_
              · obtain ⟨h1, h2, h3⟩ := hS'
                go_simp
              refine wpAnyS_takeA (i := 20) (oi := ⟨_, _, _, _, _, _⟩) (v := .pointer (some ⟨w.heap.size + 1 + 1 + 1 + 1, 1, none⟩)) rfl (by kernel_rfl) (by kernel_rfl) (by kernel_rfl) rfl (fun _ _ _ h => h) (Or.inl ⟨by rfl, fun w' hS' => ?_⟩) s0e (fun h => absurd h (by decide)) ?_
              · obtain ⟨h1, h2, h3⟩ := hS'
                go_simp
              simp only [Act.put, List.setIfInBounds_toArray, List.set_cons_zero, List.set_cons_succ]
              refine wpAnyS_ready (rs := [21]) (by kernel_rfl) (by simp) ?_
              refine AllS.cons (o := ⟨_, _, _, _, _, _⟩) rfl (by rfl) (fun K hK => ?_) AllS.nil
              obtain ⟨hs9, hk9⟩ := H4.out.s.bodied (Wa := W5) (Wb := W6) (Wc := W7) (Wd := W8) (v := .slice ao na ca) (u := .slice au nu cu) (s := bb) (p := (p1, p2)) hb05 (by rw [← HCB.out]; exact hown1) (by rw [← HVB.out]; exact hg1) (by rw [← HVB.out]; exact hv1) hbW7 (by rw [← HCL.out]; exact hown2) (by rw [← HVL.out]; exact hg2)
              have hPR9 := H4.out.next hk9 (fun q hq => by
                rcases hq with rfl | hq | hq
                · exact Or.inl ⟨by omega, by omega⟩
                · exact Or.inr (Or.inr (Or.inr (Or.inl hq)))
                · exact Or.inr (Or.inr (Or.inr (Or.inr (Or.inl hq))))) hs9
              have H9 : Hid _ := hPR9
              clear hs9 hk9 hPR9
              go_wp2_with fail
              have s0f : ((W8.setCell ⟨w.heap.size + 1 + 1 + 1 + 1, 0, none⟩ (.slice ao na ca)).setCell ⟨w.heap.size + 1 + 1 + 1 + 1, 1, none⟩ (.slice au nu cu)).cell? ⟨w.heap.size + 1 + 1 + 1 + 1 + 1, 0, none⟩ = some (.pointer (some ⟨w.heap.size + 1 + 1 + 1 + 1, 0, none⟩)) ∧ ((W8.setCell ⟨w.heap.size + 1 + 1 + 1 + 1, 0, none⟩ (.slice ao na ca)).setCell ⟨w.heap.size + 1 + 1 + 1 + 1, 1, none⟩ (.slice au nu cu)).cell? ⟨w.heap.size + 1 + 1 + 1 + 1 + 1 + 1 + 1, 0, none⟩ = some (.string (bstr p1)) ∧ ((W8.setCell ⟨w.heap.size + 1 + 1 + 1 + 1, 0, none⟩ (.slice ao na ca)).setCell ⟨w.heap.size + 1 + 1 + 1 + 1, 1, none⟩ (.slice au nu cu)).cell? ⟨w.heap.size + 1 + 1 + 1 + 1 + 1 + 1 + 1, 1, none⟩ = some (.string (bstr p2)) :=
                ⟨(World.cell?_of_block (heap_set_other _ (show w.heap.size + 1 + 1 + 1 + 1 + 1 ≠ w.heap.size + 1 + 1 + 1 + 1 by omega))).trans s0e.1, (World.cell?_of_block (heap_set_other _ (show w.heap.size + 1 + 1 + 1 + 1 + 1 + 1 + 1 ≠ w.heap.size + 1 + 1 + 1 + 1 by omega))).trans s0e.2.1, (World.cell?_of_block (heap_set_other _ (show w.heap.size + 1 + 1 + 1 + 1 + 1 + 1 + 1 ≠ w.heap.size + 1 + 1 + 1 + 1 by omega))).trans s0e.2.2⟩
              refine hK.out _ _ s0f (fun h => absurd h (by decide)) ?_
              clear hK K
              refine wpAnyS_done (by kernel_rfl) ?_ _
              refine nrm_of ?_
              generalize (W8.setCell ⟨w.heap.size + 1 + 1 + 1 + 1, 0, none⟩ (.slice ao na ca)).setCell ⟨w.heap.size + 1 + 1 + 1 + 1, 1, none⟩ (.slice au nu cu) = W9 at *
              have q9 := (Bl.cells_block H9.out.s.q).1 0
              have t9 := (Bl.cells_block H9.out.s.t).1 3
              have g9 := (Bl.cells_block H9.out.s.t).2 3
              change _ = some (Value.pointer _) at q9
              change _ = some (Value.int .i64 ((cIn C0 B i).k : Int)) at t9
              obtain ⟨n9, hn9⟩ : ∃ n9, n9 = (cIn C0 B i).k := ⟨_, rfl⟩
              have hn9b : n9 ≤ 100000000000 := by rw [hn9]; exact HKB.out
              rw [← hn9] at t9
              obtain ⟨hsA, hkA⟩ := H9.out.s.counted (n9 + B.length)
              have hPRA := H9.out.next hkA (fun q hq => Or.inl ⟨by omega, by omega⟩) hsA
              rw [show ((n9 + B.length : Nat) : Int) = (n9 : Int) + (B.length : Int) from by omega] at hPRA
              have HA : Hid _ := hPRA
              have HN9 : Hid _ := hn9
              clear hsA hkA hPRA hn9
              gi_wp2_with fail
              refine ⟨_, _, run_endRound (r := { RR with state := .busy }) none HA.out.r, ?_⟩
              have hdn := PR.done HA.out (pc_fin HC0.out HBJ.out HGB.out.2 HIB.out HP1.out HP2.out HAT.out HSZ2.out HROW.out HBB.out HN9.out) HJ.out.b HJ.out.y eRR
              exact HRP.out _ hdn.1 hdn.2
            · refine AllS.cons (o := ⟨_, _, _, _, _, _⟩) rfl (by rfl) (fun K hK => ?_) AllS.nil
              obtain ⟨W6, hW6⟩ : ∃ W6, W6 = (W5).alloc (.cells #[.string (bstr p1), .string (bstr p2)] 75) := ⟨_, rfl⟩
              have hbW6 : Below (W5).heap.size (W5) W6 := by rw [hW6]; exact (Below.refl _ _).alloc (Nat.le_refl _) _
              have hnW6 : W6.heap[(W5).heap.size]? = some (.cells #[.string (bstr p1), .string (bstr p2)] 75 (0, 0)) := by rw [hW6]; exact heap_alloc_new _ _
              have hzW6 : w.heap.size + 8 ≤ W6.heap.size := Nat.le_trans hzW5 hbW6.size
              have heW6 : ∀ q, w.heap.size ≤ q → q < w.heap.size + 8 → W6.heap[q]? = W4.heap[q]? := fun q h1 h2 => (hbW6.block q (by have := hzW5; omega)).trans (heW5 q h1 h2)
              obtain ⟨s0W6, s1W6⟩ := HS.out W6 heW6
              go_wp2_with fail
              rw [← hW6]
              refine hK.out _ _ s0W6 (fun _ => s1W6) ?_
              clear hK K hW6 s0W6 s1W6
              have hrbW6 := own_belowS hrbW5 hbW6
              have hrlW6 := own_belowS hrlW5 hbW6
              have hb06 := below2 hb05 hbW6
              have hnW5' := (hbW6.block _ (blk_lt hnW5)).trans hnW5
              refine wpAnyS_ready (rs := [8]) (by kernel_rfl) (by simp) ?_
              refine AllS.cons (o := ⟨_, _, _, _, _, _⟩) rfl (by rfl) (fun K hK => ?_) AllS.nil
              refine op_app _ _ 65 rfl (w.heap.size + 8) 9 i0 (.string ⟨#[]⟩) 1 16 Tryz.underlying65 hi0 hiz0 hiz1 hiz2 rfl (by decide) vb cb.length (strCells cb) rfl hrbW6 ⟨Wd4.heap.size, 0, none⟩ 1 1 [.string (bstr bb)] (by decide) rfl rfl ?cells ?one ?b1 ?b2 ?b3 ?_
              case cells =>
                intro j2 u hj2
                match j2, hj2 with
                | 0, hj2 => cases hj2; exact (Bl.cells_block hnW5').1 0
                | j3 + 1, hj2 => simp at hj2
              case one => intro u hu; simp at hu; subst hu; rfl
              case b1 => unfold maxLen; omega
              case b2 => omega
              case b3 => exact hzW6
              intro v1 W7 hown1 hg1 hv1
              have hkW7 : Kp W6 W7 (fun q => vb.ownBlock = some q) := Kp.of_grown hg1 (fun k hk => hk)
              have hvb8 : ∀ q, vb.ownBlock = some q → w.heap.size + 8 ≤ q := fun q hq => (own_blk_lt hrbW6 hq).2.1
              have hzW7 : w.heap.size + 8 ≤ W7.heap.size := Nat.le_trans hzW6 hkW7.size
              have heW7 : ∀ q, w.heap.size ≤ q → q < w.heap.size + 8 → W7.heap[q]? = W4.heap[q]? := fun q h1 h2 => (hkW7.block q (by have := hzW6; omega) (fun hq => by have := hvb8 q hq; omega)).trans (heW6 q h1 h2)
              have hrlW7 : W7.ownsRow (w.heap.size + 8) 75 2 vl cl.length (plCells cl) := own_kept hrlW6 fun q hq => hkW7.block q (own_blk_lt hrlW6 hq).1 (own_apart2 hrlW6 hrbW6 (by decide) hq)
              obtain ⟨s0W7, s1W7⟩ := HS.out W7 heW7
              refine hK.out _ _ s0W7 (fun _ => s1W7) ?_
              clear hK K s0W7 s1W7
              simp only [Act.put, List.setIfInBounds_toArray, List.set_cons_zero, List.set_cons_succ]
              have hnW6' : W7.heap[W5.heap.size]? = some (.cells #[.string (bstr p1), .string (bstr p2)] 75 (0, 0)) := (hkW7.block _ (blk_lt hnW6) (fun hq => by obtain ⟨_, _, cur, e1⟩ := own_blk_lt hrbW6 hq; rw [hnW6] at e1; cases e1)).trans hnW6
              refine wpAnyS_ready (rs := [15]) (by kernel_rfl) (by simp) ?_
              refine AllS.cons (o := ⟨_, _, _, _, _, _⟩) rfl (by rfl) (fun K hK => ?_) AllS.nil
              refine op_app _ _ 77 rfl (w.heap.size + 8) 75 j0 (.agg #[.string ⟨#[]⟩, .string ⟨#[]⟩]) 2 32 Tryz.underlying77 hj0 hjz0 hjz1 hjz2 rfl (by decide) vl cl.length (plCells cl) rfl hrlW7 ⟨(W5).heap.size, 0, none⟩ 1 1 [.string (bstr p1), .string (bstr p2)] (by decide) rfl rfl ?cells ?one ?b1 ?b2 ?b3 ?_
              case cells =>
                intro j2 u hj2
                match j2, hj2 with
                | 0, hj2 => cases hj2; exact (Bl.cells_block hnW6').1 0
                | 1, hj2 => cases hj2; exact (Bl.cells_block hnW6').1 1
                | j3 + 2, hj2 => simp at hj2
              case one => intro u hu; simp at hu; rcases hu with rfl | rfl <;> rfl
              case b1 => unfold maxLen; omega
              case b2 => omega
              case b3 => exact hzW7
              intro u1 W8 hown2 hg2 hv2
              have hkW8 : Kp W7 W8 (fun q => vl.ownBlock = some q) := Kp.of_grown hg2 (fun k hk => hk)
              have hvl8 : ∀ q, vl.ownBlock = some q → w.heap.size + 8 ≤ q := fun q hq => (own_blk_lt hrlW7 hq).2.1
              have heW8 : ∀ q, w.heap.size ≤ q → q < w.heap.size + 8 → W8.heap[q]? = W4.heap[q]? := fun q h1 h2 => (hkW8.block q (by have := hzW7; omega) (fun hq => by have := hvl8 q hq; omega)).trans (heW7 q h1 h2)
              obtain ⟨s0W8, s1W8⟩ := HS.out W8 heW8
              refine hK.out _ _ s0W8 (fun _ => s1W8) ?_
              clear hK K
              simp only [Act.put, List.setIfInBounds_toArray, List.set_cons_zero, List.set_cons_succ]
              have htd : W8.heap[w.heap.size + 1 + 1 + 1 + 1]? = _ := (heW8 (w.heap.size + 1 + 1 + 1 + 1) (by omega) (by omega)).trans H4.out.s.t
              have t0d := s1W8.1
              have t1d := s1W8.2
              have f0d : W8.frozen? ⟨w.heap.size + 1 + 1 + 1 + 1, 0, none⟩ = false := (Bl.cells_block htd).2 0
              refine wpAnyS_takeA (i := 16) (oi := ⟨_, _, _, _, _, _⟩) (v := .pointer (some ⟨w.heap.size + 1 + 1 + 1 + 1, 0, none⟩)) rfl (by kernel_rfl) (by kernel_rfl) (by kernel_rfl) rfl (fun _ _ _ h => h) (Or.inl ⟨by rfl, fun w' hS' => ?_⟩) s0W8 (fun _ => s1W8) ?_
              · obtain ⟨h1, h2, h3⟩ := hS'
                go_simp
              refine wpAnyS_takeA (i := 17) (oi := ⟨_, _, _, _, _, _⟩) (v := .pointer (some ⟨w.heap.size + 1 + 1 + 1 + 1, 0, none⟩)) rfl (by kernel_rfl) (by kernel_rfl) (by kernel_rfl) rfl (fun _ _ _ h => h) (Or.inl ⟨by rfl, fun w' hS' => ?_⟩) s0W8 (fun _ => s1W8) ?_
              · obtain ⟨h1, h2, h3⟩ := hS'
                go_simp
              simp only [Act.put, List.setIfInBounds_toArray, List.set_cons_zero, List.set_cons_succ]
              obtain ⟨ao, na, ca, rfl⟩ : ∃ ao n' cap, v1 = .slice ao n' cap := by
                rcases hown1.2 with ⟨hv, _⟩ | ⟨g, cap, cur, hv, _⟩
                · exact ⟨_, _, _, hv⟩
                · exact ⟨_, _, _, hv⟩
              obtain ⟨au, nu, cu, rfl⟩ : ∃ ao n' cap, u1 = .slice ao n' cap := by
                rcases hown2.2 with ⟨hv, _⟩ | ⟨g, cap, cur, hv, _⟩
                · exact ⟨_, _, _, hv⟩
                · exact ⟨_, _, _, hv⟩
              refine wpAnyS_ready (rs := [18]) (by kernel_rfl) (by simp) ?_
              refine AllS.cons (o := ⟨_, _, _, _, _, _⟩) rfl (by rfl) (fun K hK => ?_) AllS.nil
              go_wp2_with fail
              have hsd : ∀ q, q ≠ w.heap.size + 1 + 1 + 1 + 1 → (W8.setCell ⟨w.heap.size + 1 + 1 + 1 + 1, 0, none⟩ (.slice ao na ca)).heap[q]? = W8.heap[q]? := fun q hq => heap_set_other _ hq
              have s0e : (W8.setCell ⟨w.heap.size + 1 + 1 + 1 + 1, 0, none⟩ (.slice ao na ca)).cell? ⟨w.heap.size + 1 + 1 + 1 + 1 + 1, 0, none⟩ = some (.pointer (some ⟨w.heap.size + 1 + 1 + 1 + 1, 0, none⟩)) ∧ (W8.setCell ⟨w.heap.size + 1 + 1 + 1 + 1, 0, none⟩ (.slice ao na ca)).cell? ⟨w.heap.size + 1 + 1 + 1 + 1 + 1 + 1 + 1, 0, none⟩ = some (.string (bstr p1)) ∧ (W8.setCell ⟨w.heap.size + 1 + 1 + 1 + 1, 0, none⟩ (.slice ao na ca)).cell? ⟨w.heap.size + 1 + 1 + 1 + 1 + 1 + 1 + 1, 1, none⟩ = some (.string (bstr p2)) :=
                ⟨(World.cell?_of_block (hsd (w.heap.size + 1 + 1 + 1 + 1 + 1) (by omega))).trans s0W8.1, (World.cell?_of_block (hsd (w.heap.size + 1 + 1 + 1 + 1 + 1 + 1 + 1) (by omega))).trans s0W8.2.1, (World.cell?_of_block (hsd (w.heap.size + 1 + 1 + 1 + 1 + 1 + 1 + 1) (by omega))).trans s0W8.2.2⟩
              have hte := heap_set_same (o := 0) htd (.slice ao na ca)
              have t1e : (W8.setCell ⟨w.heap.size + 1 + 1 + 1 + 1, 0, none⟩ (.slice ao na ca)).cell? ⟨w.heap.size + 1 + 1 + 1 + 1, 1, none⟩ = some V.l := (Bl.cells_block hte).1 1
              have f1e : (W8.setCell ⟨w.heap.size + 1 + 1 + 1 + 1, 0, none⟩ (.slice ao na ca)).frozen? ⟨w.heap.size + 1 + 1 + 1 + 1, 1, none⟩ = false := (Bl.cells_block hte).2 1
              refine hK.out _ _ s0e (fun h => absurd h (by decide)) ?_
              clear hK K
              refine wpAnyS_takeA (i := 19) (oi := ⟨_, _, _, _, _, _⟩) (v := .pointer (some ⟨w.heap.size + 1 + 1 + 1 + 1, 0, none⟩)) rfl (by kernel_rfl) (by kernel_rfl) (by kernel_rfl) rfl (fun _ _ _ h => h) (Or.inl ⟨by rfl, fun w' hS' => ?_⟩) s0e (fun h => absurd h (by decide)) ?_
              · obtain ⟨h1, h2, h3⟩ := hS'
                go_simp
              refine wpAnyS_takeA (i := 20) (oi := ⟨_, _, _, _, _, _⟩) (v := .pointer (some ⟨w.heap.size + 1 + 1 + 1 + 1, 1, none⟩)) rfl (by kernel_rfl) (by kernel_rfl) (by kernel_rfl) rfl (fun _ _ _ h => h) (Or.inl ⟨by rfl, fun w' hS' => ?_⟩) s0e (fun h => absurd h (by decide)) ?_
              · obtain ⟨h1, h2, h3⟩ := hS'
                go_simp
              simp only [Act.put, List.setIfInBounds_toArray, List.set_cons_zero, List.set_cons_succ]
              refine wpAnyS_ready (rs := [21]) (by kernel_rfl) (by simp) ?_
              refine AllS.cons (o := ⟨_, _, _, _, _, _⟩) rfl (by rfl) (fun K hK => ?_) AllS.nil
              obtain ⟨hs9, hk9⟩ := H4.out.s.bodied (Wa := W6) (Wb := W7) (Wc := W7) (Wd := W8) (v := .slice ao na ca) (u := .slice au nu cu) (s := bb) (p := (p1, p2)) hb06 (by rw [← HCB.out]; exact hown1) (by rw [← HVB.out]; exact hg1) (by rw [← HVB.out]; exact hv1) (Below.refl _ _) (by rw [← HCL.out]; exact hown2) (by rw [← HVL.out]; exact hg2)
              have hPR9 := H4.out.next hk9 (fun q hq => by
                rcases hq with rfl | hq | hq
                · exact Or.inl ⟨by omega, by omega⟩
                · exact Or.inr (Or.inr (Or.inr (Or.inl hq)))
                · exact Or.inr (Or.inr (Or.inr (Or.inr (Or.inl hq))))) hs9
              have H9 : Hid _ := hPR9
              clear hs9 hk9 hPR9
              go_wp2_with fail
              have s0f : ((W8.setCell ⟨w.heap.size + 1 + 1 + 1 + 1, 0, none⟩ (.slice ao na ca)).setCell ⟨w.heap.size + 1 + 1 + 1 + 1, 1, none⟩ (.slice au nu cu)).cell? ⟨w.heap.size + 1 + 1 + 1 + 1 + 1, 0, none⟩ = some (.pointer (some ⟨w.heap.size + 1 + 1 + 1 + 1, 0, none⟩)) ∧ ((W8.setCell ⟨w.heap.size + 1 + 1 + 1 + 1, 0, none⟩ (.slice ao na ca)).setCell ⟨w.heap.size + 1 + 1 + 1 + 1, 1, none⟩ (.slice au nu cu)).cell? ⟨w.heap.size + 1 + 1 + 1 + 1 + 1 + 1 + 1, 0, none⟩ = some (.string (bstr p1)) ∧ ((W8.setCell ⟨w.heap.size + 1 + 1 + 1 + 1, 0, none⟩ (.slice ao na ca)).setCell ⟨w.heap.size + 1 + 1 + 1 + 1, 1, none⟩ (.slice au nu cu)).cell? ⟨w.heap.size + 1 + 1 + 1 + 1 + 1 + 1 + 1, 1, none⟩ = some (.string (bstr p2)) :=
                ⟨(World.cell?_of_block (heap_set_other _ (show w.heap.size + 1 + 1 + 1 + 1 + 1 ≠ w.heap.size + 1 + 1 + 1 + 1 by omega))).trans s0e.1, (World.cell?_of_block (heap_set_other _ (show w.heap.size + 1 + 1 + 1 + 1 + 1 + 1 + 1 ≠ w.heap.size + 1 + 1 + 1 + 1 by omega))).trans s0e.2.1, (World.cell?_of_block (heap_set_other _ (show w.heap.size + 1 + 1 + 1 + 1 + 1 + 1 + 1 ≠ w.heap.size + 1 + 1 + 1 + 1 by omega))).trans s0e.2.2⟩
              refine hK.out _ _ s0f (fun h => absurd h (by decide)) ?_
              clear hK K
              refine wpAnyS_done (by kernel_rfl) ?_ _
              refine nrm_of ?_
              generalize (W8.setCell ⟨w.heap.size + 1 + 1 + 1 + 1, 0, none⟩ (.slice ao na ca)).setCell ⟨w.heap.size + 1 + 1 + 1 + 1, 1, none⟩ (.slice au nu cu) = W9 at *
              have q9 := (Bl.cells_block H9.out.s.q).1 0
              have t9 := (Bl.cells_block H9.out.s.t).1 3
              have g9 := (Bl.cells_block H9.out.s.t).2 3
              change _ = some (Value.pointer _) at q9
              change _ = some (Value.int .i64 ((cIn C0 B i).k : Int)) at t9
              obtain ⟨n9, hn9⟩ : ∃ n9, n9 = (cIn C0 B i).k := ⟨_, rfl⟩
              have hn9b : n9 ≤ 100000000000 := by rw [hn9]; exact HKB.out
              rw [← hn9] at t9
              obtain ⟨hsA, hkA⟩ := H9.out.s.counted (n9 + B.length)
              have hPRA := H9.out.next hkA (fun q hq => Or.inl ⟨by omega, by omega⟩) hsA
              rw [show ((n9 + B.length : Nat) : Int) = (n9 : Int) + (B.length : Int) from by omega] at hPRA
              have HA : Hid _ := hPRA
              have HN9 : Hid _ := hn9
              clear hsA hkA hPRA hn9
              gi_wp2_with fail
              refine ⟨_, _, run_endRound (r := { RR with state := .busy }) none HA.out.r, ?_⟩
              have hdn := PR.done HA.out (pc_fin HC0.out HBJ.out HGB.out.2 HIB.out HP1.out HP2.out HAT.out HSZ2.out HROW.out HBB.out HN9.out) HJ.out.b HJ.out.y eRR
              exact HRP.out _ hdn.1 hdn.2
          · refine AllS.cons (o := ⟨_, _, _, _, _, _⟩) rfl (by rfl) (fun K hK => ?_) AllS.nil
            obtain ⟨W5, hW5⟩ : ∃ W5, W5 = Wd4.alloc (.cells #[.string (bstr p1), .string (bstr p2)] 75) := ⟨_, rfl⟩
            have hbW5 : Below Wd4.heap.size Wd4 W5 := by rw [hW5]; exact (Below.refl _ _).alloc (Nat.le_refl _) _
            have hnW5 : W5.heap[Wd4.heap.size]? = some (.cells #[.string (bstr p1), .string (bstr p2)] 75 (0, 0)) := by rw [hW5]; exact heap_alloc_new _ _
            have hzW5 : w.heap.size + 8 ≤ W5.heap.size := Nat.le_trans hzWd4 hbW5.size
            have heW5 : ∀ q, w.heap.size ≤ q → q < w.heap.size + 8 → W5.heap[q]? = W4.heap[q]? := fun q h1 h2 => (hbW5.block q (by have := hzWd4; omega)).trans (heWd4 q h1 h2)
            obtain ⟨s0W5, s1W5⟩ := HS.out W5 heW5
            go_wp2_with fail
            rw [← hW5]
            refine hK.out _ _ s0W5 (fun _ => s1W5) ?_
            clear hK K hW5 s0W5 s1W5
            have hrbW5 := own_belowS hrbWd4 hbW5
            have hrlW5 := own_belowS hrlWd4 hbW5
            have hb05 := below2 hb44 hbW5
            refine wpAnyS_ready (rs := [7]) (by kernel_rfl) (by simp) ?_
            refine AllS.cons (o := ⟨_, _, _, _, _, _⟩) rfl (by rfl) (fun K hK => ?_) AllS.nil
            obtain ⟨W6, hW6⟩ : ∃ W6, W6 = (W5).alloc (.cells #[.string (bstr bb)] 9) := ⟨_, rfl⟩
            have hbW6 : Below (W5).heap.size (W5) W6 := by rw [hW6]; exact (Below.refl _ _).alloc (Nat.le_refl _) _
            have hnW6 : W6.heap[(W5).heap.size]? = some (.cells #[.string (bstr bb)] 9 (0, 0)) := by rw [hW6]; exact heap_alloc_new _ _
            have hzW6 : w.heap.size + 8 ≤ W6.heap.size := Nat.le_trans hzW5 hbW6.size
            have heW6 : ∀ q, w.heap.size ≤ q → q < w.heap.size + 8 → W6.heap[q]? = W4.heap[q]? := fun q h1 h2 => (hbW6.block q (by have := hzW5; omega)).trans (heW5 q h1 h2)
            obtain ⟨s0W6, s1W6⟩ := HS.out W6 heW6
            go_wp2_with fail
            rw [← hW6]
            refine hK.out _ _ s0W6 (fun _ => s1W6) ?_
            clear hK K hW6 s0W6 s1W6
            have hrbW6 := own_belowS hrbW5 hbW6
            have hrlW6 := own_belowS hrlW5 hbW6
            have hb06 := below2 hb05 hbW6
            have hnW5' := (hbW6.block _ (blk_lt hnW5)).trans hnW5
            refine wpAnyS_ready (rs := [8]) (by kernel_rfl) (by simp) ?_
            refine AllS.cons (o := ⟨_, _, _, _, _, _⟩) rfl (by rfl) (fun K hK => ?_) AllS.nil
            refine op_app _ _ 65 rfl (w.heap.size + 8) 9 i0 (.string ⟨#[]⟩) 1 16 Tryz.underlying65 hi0 hiz0 hiz1 hiz2 rfl (by decide) vb cb.length (strCells cb) rfl hrbW6 ⟨(W5).heap.size, 0, none⟩ 1 1 [.string (bstr bb)] (by decide) rfl rfl ?cells ?one ?b1 ?b2 ?b3 ?_
            case cells =>
              intro j2 u hj2
              match j2, hj2 with
              | 0, hj2 => cases hj2; exact (Bl.cells_block hnW6).1 0
              | j3 + 1, hj2 => simp at hj2
            case one => intro u hu; simp at hu; subst hu; rfl
            case b1 => unfold maxLen; omega
            case b2 => omega
            case b3 => exact hzW6
            intro v1 W7 hown1 hg1 hv1
            have hkW7 : Kp W6 W7 (fun q => vb.ownBlock = some q) := Kp.of_grown hg1 (fun k hk => hk)
            have hvb8 : ∀ q, vb.ownBlock = some q → w.heap.size + 8 ≤ q := fun q hq => (own_blk_lt hrbW6 hq).2.1
            have hzW7 : w.heap.size + 8 ≤ W7.heap.size := Nat.le_trans hzW6 hkW7.size
            have heW7 : ∀ q, w.heap.size ≤ q → q < w.heap.size + 8 → W7.heap[q]? = W4.heap[q]? := fun q h1 h2 => (hkW7.block q (by have := hzW6; omega) (fun hq => by have := hvb8 q hq; omega)).trans (heW6 q h1 h2)
            have hrlW7 : W7.ownsRow (w.heap.size + 8) 75 2 vl cl.length (plCells cl) := own_kept hrlW6 fun q hq => hkW7.block q (own_blk_lt hrlW6 hq).1 (own_apart2 hrlW6 hrbW6 (by decide) hq)
            obtain ⟨s0W7, s1W7⟩ := HS.out W7 heW7
            refine hK.out _ _ s0W7 (fun _ => s1W7) ?_
            clear hK K s0W7 s1W7
            simp only [Act.put, List.setIfInBounds_toArray, List.set_cons_zero, List.set_cons_succ]
            have hnW6' : W7.heap[Wd4.heap.size]? = some (.cells #[.string (bstr p1), .string (bstr p2)] 75 (0, 0)) := (hkW7.block _ (blk_lt hnW5') (fun hq => by obtain ⟨_, _, cur, e1⟩ := own_blk_lt hrbW6 hq; rw [hnW5'] at e1; cases e1)).trans hnW5'
            refine wpAnyS_ready (rs := [15]) (by kernel_rfl) (by simp) ?_
            refine AllS.cons (o := ⟨_, _, _, _, _, _⟩) rfl (by rfl) (fun K hK => ?_) AllS.nil
            refine op_app _ _ 77 rfl (w.heap.size + 8) 75 j0 (.agg #[.string ⟨#[]⟩, .string ⟨#[]⟩]) 2 32 Tryz.underlying77 hj0 hjz0 hjz1 hjz2 rfl (by decide) vl cl.length (plCells cl) rfl hrlW7 ⟨Wd4.heap.size, 0, none⟩ 1 1 [.string (bstr p1), .string (bstr p2)] (by decide) rfl rfl ?cells ?one ?b1 ?b2 ?b3 ?_
            case cells =>
              intro j2 u hj2
              match j2, hj2 with
              | 0, hj2 => cases hj2; exact (Bl.cells_block hnW6').1 0
              | 1, hj2 => cases hj2; exact (Bl.cells_block hnW6').1 1
              | j3 + 2, hj2 => simp at hj2
            case one => intro u hu; simp at hu; rcases hu with rfl | rfl <;> rfl
            case b1 => unfold maxLen; omega
            case b2 => omega
            case b3 => exact hzW7
            intro u1 W8 hown2 hg2 hv2
            have hkW8 : Kp W7 W8 (fun q => vl.ownBlock = some q) := Kp.of_grown hg2 (fun k hk => hk)
            have hvl8 : ∀ q, vl.ownBlock = some q → w.heap.size + 8 ≤ q := fun q hq => (own_blk_lt hrlW7 hq).2.1
            have heW8 : ∀ q, w.heap.size ≤ q → q < w.heap.size + 8 → W8.heap[q]? = W4.heap[q]? := fun q h1 h2 => (hkW8.block q (by have := hzW7; omega) (fun hq => by have := hvl8 q hq; omega)).trans (heW7 q h1 h2)
            obtain ⟨s0W8, s1W8⟩ := HS.out W8 heW8
            refine hK.out _ _ s0W8 (fun _ => s1W8) ?_
            clear hK K
            simp only [Act.put, List.setIfInBounds_toArray, List.set_cons_zero, List.set_cons_succ]
            have htd : W8.heap[w.heap.size + 1 + 1 + 1 + 1]? = _ := (heW8 (w.heap.size + 1 + 1 + 1 + 1) (by omega) (by omega)).trans H4.out.s.t
            have t0d := s1W8.1
            have t1d := s1W8.2
            have f0d : W8.frozen? ⟨w.heap.size + 1 + 1 + 1 + 1, 0, none⟩ = false := (Bl.cells_block htd).2 0
            refine wpAnyS_takeA (i := 16) (oi := ⟨_, _, _, _, _, _⟩) (v := .pointer (some ⟨w.heap.size + 1 + 1 + 1 + 1, 0, none⟩)) rfl (by kernel_rfl) (by kernel_rfl) (by kernel_rfl) rfl (fun _ _ _ h => h) (Or.inl ⟨by rfl, fun w' hS' => ?_⟩) s0W8 (fun _ => s1W8) ?_
            · obtain ⟨h1, h2, h3⟩ := hS'
              go_simp
            refine wpAnyS_takeA (i := 17) (oi := ⟨_, _, _, _, _, _⟩) (v := .pointer (some ⟨w.heap.size + 1 + 1 + 1 + 1, 0, none⟩)) rfl (by kernel_rfl) (by kernel_rfl) (by kernel_rfl) rfl (fun _ _ _ h => h) (Or.inl ⟨by rfl, fun w' hS' => ?_⟩) s0W8 (fun _ => s1W8) ?_
            · obtain ⟨h1, h2, h3⟩ := hS'
              go_simp
            simp only [Act.put, List.setIfInBounds_toArray, List.set_cons_zero, List.set_cons_succ]
            obtain ⟨ao, na, ca, rfl⟩ : ∃ ao n' cap, v1 = .slice ao n' cap := by
              rcases hown1.2 with ⟨hv, _⟩ | ⟨g, cap, cur, hv, _⟩
              · exact ⟨_, _, _, hv⟩
              · exact ⟨_, _, _, hv⟩
            obtain ⟨au, nu, cu, rfl⟩ : ∃ ao n' cap, u1 = .slice ao n' cap := by
              rcases hown2.2 with ⟨hv, _⟩ | ⟨g, cap, cur, hv, _⟩
              · exact ⟨_, _, _, hv⟩
              · exact ⟨_, _, _, hv⟩
            refine wpAnyS_ready (rs := [18]) (by kernel_rfl) (by simp) ?_
            refine AllS.cons (o := ⟨_, _, _, _, _, _⟩) rfl (by rfl) (fun K hK => ?_) AllS.nil
            go_wp2_with fail
            have hsd : ∀ q, q ≠ w.heap.size + 1 + 1 + 1 + 1 → (W8.setCell ⟨w.heap.size + 1 + 1 + 1 + 1, 0, none⟩ (.slice ao na ca)).heap[q]? = W8.heap[q]? := fun q hq => heap_set_other _ hq
            have s0e : (W8.setCell ⟨w.heap.size + 1 + 1 + 1 + 1, 0, none⟩ (.slice ao na ca)).cell? ⟨w.heap.size + 1 + 1 + 1 + 1 + 1, 0, none⟩ = some (.pointer (some ⟨w.heap.size + 1 + 1 + 1 + 1, 0, none⟩)) ∧ (W8.setCell ⟨w.heap.size + 1 + 1 + 1 + 1, 0, none⟩ (.slice ao na ca)).cell? ⟨w.heap.size + 1 + 1 + 1 + 1 + 1 + 1 + 1, 0, none⟩ = some (.string (bstr p1)) ∧ (W8.setCell ⟨w.heap.size + 1 + 1 + 1 + 1, 0, none⟩ (.slice ao na ca)).cell? ⟨w.heap.size + 1 + 1 + 1 + 1 + 1 + 1 + 1, 1, none⟩ = some (.string (bstr p2)) :=
              ⟨(World.cell?_of_block (hsd (w.heap.size + 1 + 1 + 1 + 1 + 1) (by omega))).trans s0W8.1, (World.cell?_of_block (hsd (w.heap.size + 1 + 1 + 1 + 1 + 1 + 1 + 1) (by omega))).trans s0W8.2.1, (World.cell?_of_block (hsd (w.heap.size + 1 + 1 + 1 + 1 + 1 + 1 + 1) (by omega))).trans s0W8.2.2⟩
            have hte := heap_set_same (o := 0) htd (.slice ao na ca)
            have t1e : (W8.setCell ⟨w.heap.size + 1 + 1 + 1 + 1, 0, none⟩ (.slice ao na ca)).cell? ⟨w.heap.size + 1 + 1 + 1 + 1, 1, none⟩ = some V.l := (Bl.cells_block hte).1 1
            have f1e : (W8.setCell ⟨w.heap.size + 1 + 1 + 1 + 1, 0, none⟩ (.slice ao na ca)).frozen? ⟨w.heap.size + 1 + 1 + 1 + 1, 1, none⟩ = false := (Bl.cells_block hte).2 1
            refine hK.out _ _ s0e (fun h => absurd h (by decide)) ?_
            clear hK K
            refine wpAnyS_takeA (i := 19) (oi := ⟨_, _, _, _, _, _⟩) (v := .pointer (some ⟨w.heap.size + 1 + 1 + 1 + 1, 0, none⟩)) rfl (by kernel_rfl) (by kernel_rfl) (by kernel_rfl) rfl (fun _ _ _ h => h) (Or.inl ⟨by rfl, fun w' hS' => ?_⟩) s0e (fun h => absurd h (by decide)) ?_
            · obtain ⟨h1, h2, h3⟩ := hS'
              go_simp
            refine wpAnyS_takeA (i := 20) (oi := ⟨_, _, _, _, _, _⟩) (v := .pointer (some ⟨w.heap.size + 1 + 1 + 1 + 1, 1, none⟩)) rfl (by kernel_rfl) (by kernel_rfl) (by kernel_rfl) rfl (fun _ _ _ h => h) (Or.inl ⟨by rfl, fun w' hS' => ?_⟩) s0e (fun h => absurd h (by decide)) ?_
            · obtain ⟨h1, h2, h3⟩ := hS'
              go_simp
            simp only [Act.put, List.setIfInBounds_toArray, List.set_cons_zero, List.set_cons_succ]
            refine wpAnyS_ready (rs := [21]) (by kernel_rfl) (by simp) ?_
            refine AllS.cons (o := ⟨_, _, _, _, _, _⟩) rfl (by rfl) (fun K hK => ?_) AllS.nil
            obtain ⟨hs9, hk9⟩ := H4.out.s.bodied (Wa := W6) (Wb := W7) (Wc := W7) (Wd := W8) (v := .slice ao na ca) (u := .slice au nu cu) (s := bb) (p := (p1, p2)) hb06 (by rw [← HCB.out]; exact hown1) (by rw [← HVB.out]; exact hg1) (by rw [← HVB.out]; exact hv1) (Below.refl _ _) (by rw [← HCL.out]; exact hown2) (by rw [← HVL.out]; exact hg2)
            have hPR9 := H4.out.next hk9 (fun q hq => by
              rcases hq with rfl | hq | hq
              · exact Or.inl ⟨by omega, by omega⟩
              · exact Or.inr (Or.inr (Or.inr (Or.inl hq)))
              · exact Or.inr (Or.inr (Or.inr (Or.inr (Or.inl hq))))) hs9
            have H9 : Hid _ := hPR9
            clear hs9 hk9 hPR9
            go_wp2_with fail
            have s0f : ((W8.setCell ⟨w.heap.size + 1 + 1 + 1 + 1, 0, none⟩ (.slice ao na ca)).setCell ⟨w.heap.size + 1 + 1 + 1 + 1, 1, none⟩ (.slice au nu cu)).cell? ⟨w.heap.size + 1 + 1 + 1 + 1 + 1, 0, none⟩ = some (.pointer (some ⟨w.heap.size + 1 + 1 + 1 + 1, 0, none⟩)) ∧ ((W8.setCell ⟨w.heap.size + 1 + 1 + 1 + 1, 0, none⟩ (.slice ao na ca)).setCell ⟨w.heap.size + 1 + 1 + 1 + 1, 1, none⟩ (.slice au nu cu)).cell? ⟨w.heap.size + 1 + 1 + 1 + 1 + 1 + 1 + 1, 0, none⟩ = some (.string (bstr p1)) ∧ ((W8.setCell ⟨w.heap.size + 1 + 1 + 1 + 1, 0, none⟩ (.slice ao na ca)).setCell ⟨w.heap.size + 1 + 1 + 1 + 1, 1, none⟩ (.slice au nu cu)).cell? ⟨w.heap.size + 1 + 1 + 1 + 1 + 1 + 1 + 1, 1, none⟩ = some (.string (bstr p2)) :=
              ⟨(World.cell?_of_block (heap_set_other _ (show w.heap.size + 1 + 1 + 1 + 1 + 1 ≠ w.heap.size + 1 + 1 + 1 + 1 by omega))).trans s0e.1, (World.cell?_of_block (heap_set_other _ (show w.heap.size + 1 + 1 + 1 + 1 + 1 + 1 + 1 ≠ w.heap.size + 1 + 1 + 1 + 1 by omega))).trans s0e.2.1, (World.cell?_of_block (heap_set_other _ (show w.heap.size + 1 + 1 + 1 + 1 + 1 + 1 + 1 ≠ w.heap.size + 1 + 1 + 1 + 1 by omega))).trans s0e.2.2⟩
            refine hK.out _ _ s0f (fun h => absurd h (by decide)) ?_
            clear hK K
            refine wpAnyS_done (by kernel_rfl) ?_ _
            refine nrm_of ?_
            generalize (W8.setCell ⟨w.heap.size + 1 + 1 + 1 + 1, 0, none⟩ (.slice ao na ca)).setCell ⟨w.heap.size + 1 + 1 + 1 + 1, 1, none⟩ (.slice au nu cu) = W9 at *
            have q9 := (Bl.cells_block H9.out.s.q).1 0
            have t9 := (Bl.cells_block H9.out.s.t).1 3
            have g9 := (Bl.cells_block H9.out.s.t).2 3
            change _ = some (Value.pointer _) at q9
            change _ = some (Value.int .i64 ((cIn C0 B i).k : Int)) at t9
            obtain ⟨n9, hn9⟩ : ∃ n9, n9 = (cIn C0 B i).k := ⟨_, rfl⟩
            have hn9b : n9 ≤ 100000000000 := by rw [hn9]; exact HKB.out
            rw [← hn9] at t9
            obtain ⟨hsA, hkA⟩ := H9.out.s.counted (n9 + B.length)
            have hPRA := H9.out.next hkA (fun q hq => Or.inl ⟨by omega, by omega⟩) hsA
            rw [show ((n9 + B.length : Nat) : Int) = (n9 : Int) + (B.length : Int) from by omega] at hPRA
            have HA : Hid _ := hPRA
            have HN9 : Hid _ := hn9
            clear hsA hkA hPRA hn9
            gi_wp2_with fail
            refine ⟨_, _, run_endRound (r := { RR with state := .busy }) none HA.out.r, ?_⟩
            have hdn := PR.done HA.out (pc_fin HC0.out HBJ.out HGB.out.2 HIB.out HP1.out HP2.out HAT.out HSZ2.out HROW.out HBB.out HN9.out) HJ.out.b HJ.out.y eRR
            exact HRP.out _ hdn.1 hdn.2
        | succ k =>
          have hlt : i < B.length := by omega
          have hgo : (i : Int) < (B.length : Int) := by omega
          have hA := hPR.c i hlt
          obtain ⟨c, hc⟩ : ∃ c, c = B[i] := ⟨_, rfl⟩
          rw [← hc] at hA
          have HC : Hid _ := hc
          clear hc
          obtain ⟨r, k2, v2, z2, x2⟩ := c
          obtain ⟨a0, a1, a2, a3, a4⟩ := hA
          simp only at a0 a1 a2 a3 a4
          have hof := fun W => of_any ⟨r, k2, v2, z2, x2⟩ W
          simp only at hof
          have hbc : Below Wx.heap.size Wx (Wx.alloc (.cells #[.string (bstr r), .string (bstr k2), .int .u64 v2, .bool z2, .string (bstr x2)] 39)) := (Below.refl _ _).alloc (Nat.le_refl _) _
          have HPR : Hid _ := hPR
          clear hPR
          gi_wp2_with fail
          refine ⟨trivial, fun h => (by cases h), (CallsIn.inRound _ (callsIn_wide.2 (hof _))).mono ?_⟩
          rintro e W2 ⟨rfl, hb2⟩
          have hb12 := below2 hbc hb2
          have hPR2 := HPR.out.below hb12
          have hb3 : Below W2.heap.size W2 (W2.alloc (.cells #[.string (bstr r), .string (bstr k2)] 75)) := (Below.refl _ _).alloc (Nat.le_refl _) _
          have hPR3 := hPR2.below hb3
          have z0 := (Bl.cells_block hPR3.s.z).1 0
          have z1 := (Bl.cells_block hPR3.s.z).1 1
          have y0 := (RngAt.new W2 75 r k2).c0
          have y1 := (RngAt.new W2 75 r k2).c1
          change _ = some (Value.string (bstr (cIn C0 B i).p.1)) at z0
          change _ = some (Value.string (bstr (cIn C0 B i).p.2)) at z1
          obtain ⟨p1, hp1⟩ : ∃ p1, p1 = (cIn C0 B i).p.1 := ⟨_, rfl⟩
          obtain ⟨p2, hp2⟩ : ∃ p2, p2 = (cIn C0 B i).p.2 := ⟨_, rfl⟩
          rw [← hp1] at z0
          rw [← hp2] at z1
          have HP1 : Hid _ := hp1
          have HP2 : Hid _ := hp2
          have H3 : Hid _ := hPR3
          have hnq : ∀ q, V.n.ownBlock = some q → q < W2.heap.size := fun q hq => (own_blk_lt hPR2.s.rn hq).1
          have HNQ : Hid _ := hnq
          have HNL2 : Hid (w.heap.size + 1 + 1 + 1 + 1 + 1 + 1 < W2.heap.size) := blk_lt hPR2.s.m
          clear hnq hPR2 hPR3 hp1 hp2 HPR hof a0 a1 a2 a3 a4 hbc hb12 hb3
          by_cases he : r = p1 ∧ k2 = p2
          · have heb : (r == p1 && k2 == p2) = true := by simp [he.1, he.2]
            have hcc : cIn C0 B (i + 1) = cIn C0 B i := cIn_same hlt (by rw [← HC.out]; exact Prod.ext (he.1.trans HP1.out) (he.2.trans HP2.out))
            have HCC : Hid _ := hcc
            clear y0 y1 he hcc
            gi_wp2_with fail
            refine ⟨k, rfl, i + 1, V, _, _, _, _, _, _, _, _, _, _, _, _, _, _, _, _, _, _, rfl, by go_num, by have := HIK.out; omega, ?_⟩
            rw [HCC.out]
            exact H3.out
          · have heb : (r == p1 && k2 == p2) = false := by
              rw [Bool.and_eq_false_iff]
              by_cases h1 : r = p1
              · right; simp; exact fun h2 => he ⟨h1, h2⟩
              · left; simpa using h1
            have HNE : Hid _ := he
            clear he
            gi_wp2_with fail
            have hm := (Bl.cells_block H3.out.s.m).1 0
            change _ = some V.n at hm
            have hkl : r.length + k2.length ≤ 4611686018427387904 := by
              have h1 := okC_len (List.all_eq_true.1 HGB.out.1.ok _ (List.getElem_mem hlt))
              rw [← HC.out] at h1
              have h2 := h1.1
              have h3 := h1.2.1
              simp only at h2 h3
              omega
            have hkey := fun W => key_any r k2 W hkl
            obtain ⟨W3, hW3⟩ : ∃ W3, W3 = W2.alloc (.cells #[.string (bstr r), .string (bstr k2)] 75) := ⟨_, rfl⟩
            have hs23 : W2.heap.size < W3.heap.size := by rw [hW3]; simp
            rw [← hW3] at y0 y1 z0 z1 hm H3 ⊢
            obtain ⟨vn, hvn⟩ : ∃ vn, vn = V.n := ⟨_, rfl⟩
            rw [← hvn] at hm
            have HVN : Hid _ := hvn
            have hown : W3.ownsRow (w.heap.size + 8) 9 1 vn (cIn C0 B i).n.length (strCells (cIn C0 B i).n) := by rw [hvn]; exact H3.out.s.rn
            have hnlen : (cIn C0 B i).n.length ≤ 1000000 := (pc_long hG hR HC0.out HBJ.out).n
            have hnl : w.heap.size + 1 + 1 + 1 + 1 + 1 + 1 < W3.heap.size := blk_lt H3.out.s.m
            obtain ⟨i0, hi0, hz0, hz1, hz2⟩ := info_parts Tryz.infoStrS
            clear hW3 hvn
            obtain ⟨nm, hnm⟩ : ∃ nm, nm = (cIn C0 B i).n := ⟨_, rfl⟩
            rw [← hnm] at hown hnlen
            have HNM : Hid _ := hnm
            clear hnm
            have hmd : W3.drew.cell? ⟨w.heap.size + 1 + 1 + 1 + 1 + 1 + 1, 0, none⟩ = some vn := hm
            have y0d : W3.drew.cell? ⟨W2.heap.size, 0, none⟩ = some (.string (bstr r)) := y0
            have y1d : W3.drew.cell? ⟨W2.heap.size, 1, none⟩ = some (.string (bstr k2)) := y1
            refine sto_round (S0 := fun _ => True) (S1 := fun w' => w'.cell? ⟨w.heap.size + 1 + 1 + 1 + 1 + 1 + 1, 0, none⟩ = some vn ∧ w'.cell? ⟨W2.heap.size, 0, none⟩ = some (.string (bstr r)) ∧ w'.cell? ⟨W2.heap.size, 1, none⟩ = some (.string (bstr k2))) (st := 5) (by kernel_rfl) (by kernel_rfl) ?_
            refine wpAnyS_takeB (i := 0) (oi := ⟨_, _, _, _, _, _⟩) (v := vn) rfl (by kernel_rfl) (by kernel_rfl) (by kernel_rfl) rfl (by kernel_rfl) (by kernel_rfl) (fun _ _ _ h => h) (Or.inl ⟨by rfl, fun w' hS => ?_⟩) trivial ⟨hmd, y0d, y1d⟩ ?_
            · obtain ⟨_, h1, h2, h3⟩ := hS
              go_simp
            refine wpAnyS_takeB (i := 1) (oi := ⟨_, _, _, _, _, _⟩) (v := .agg #[.string (bstr r), .string (bstr k2)]) rfl (by kernel_rfl) (by kernel_rfl) (by kernel_rfl) rfl (by kernel_rfl) (by kernel_rfl) (fun _ _ _ h => h) (Or.inl ⟨by rfl, fun w' hS => ?_⟩) trivial ⟨hmd, y0d, y1d⟩ ?_
            · obtain ⟨_, h1, h2, h3⟩ := hS
              go_simp
            simp only [Act.put, List.setIfInBounds_toArray, List.set_cons_zero, List.set_cons_succ]
            refine wpAnyS_ready (rs := [2]) (by kernel_rfl) (by simp) ?_
            refine AllS.cons (o := ⟨_, _, _, _, _, _⟩) rfl (by rfl) (fun K hK => ?_) AllS.nil
            go_wp2_with (first | (go_at_call 36; refine (hkey _).mono ?_; rintro e W4 ⟨rfl, hb4⟩))
            have hb34 : Below W3.heap.size W3 W4 := ⟨hb4.os, hb4.tape, hb4.output, hb4.size, hb4.block⟩
            have m4 : W4.cell? ⟨w.heap.size + 1 + 1 + 1 + 1 + 1 + 1, 0, none⟩ = some vn := by rw [(bcell hb34).1 _ _ hnl]; exact hm
            have y04 : W4.cell? ⟨W2.heap.size, 0, none⟩ = some (.string (bstr r)) := by rw [(bcell hb34).1 _ _ hs23]; exact y0
            have y14 : W4.cell? ⟨W2.heap.size, 1, none⟩ = some (.string (bstr k2)) := by rw [(bcell hb34).1 _ _ hs23]; exact y1
            refine hK.out _ _ trivial (fun _ => ⟨m4, y04, y14⟩) ?_
            clear hK K hmd y0d y1d hb4
            obtain ⟨ky, hky⟩ : ∃ ky, ky = keyL r k2 := ⟨_, rfl⟩
            rw [← hky]
            have HKY : Hid _ := hky
            clear hky
            obtain ⟨W5, hW5⟩ : ∃ W5, W5 = W4.alloc (.cells #[.string (bstr ky)] 9) := ⟨_, rfl⟩
            have hb45 : Below W4.heap.size W4 W5 := by rw [hW5]; exact (Below.refl _ _).alloc (Nat.le_refl _) _
            have hn5 : W5.heap[W4.heap.size]? = some (.cells #[.string (bstr ky)] 9 (0, 0)) := by rw [hW5]; exact heap_alloc_new W4 _
            have hb35 := below2 hb34 hb45
            have m5 : W5.cell? ⟨w.heap.size + 1 + 1 + 1 + 1 + 1 + 1, 0, none⟩ = some vn := by rw [(bcell hb35).1 _ _ hnl]; exact hm
            have y05 : W5.cell? ⟨W2.heap.size, 0, none⟩ = some (.string (bstr r)) := by rw [(bcell hb35).1 _ _ hs23]; exact y0
            have y15 : W5.cell? ⟨W2.heap.size, 1, none⟩ = some (.string (bstr k2)) := by rw [(bcell hb35).1 _ _ hs23]; exact y1
            have hown5 := own_belowS hown hb35
            refine wpAnyS_ready (rs := [3]) (by kernel_rfl) (by simp) ?_
            refine AllS.cons (o := ⟨_, _, _, _, _, _⟩) rfl (by rfl) (fun K hK => ?_) AllS.nil
            go_wp2_with fail
            rw [← hW5]
            refine hK.out _ _ trivial (fun _ => ⟨m5, y05, y15⟩) ?_
            clear hK K hW5 m4 y04 y14
            refine wpAnyS_ready (rs := [4]) (by kernel_rfl) (by simp) ?_
            refine AllS.cons (o := ⟨_, _, _, _, _, _⟩) rfl (by rfl) (fun K hK => ?_) AllS.nil
            refine op_app _ _ 65 rfl (w.heap.size + 8) 9 i0 (.string ⟨#[]⟩) 1 16 Tryz.underlying65 hi0 hz0 hz1 hz2 rfl (by decide) vn nm.length (strCells nm) rfl hown5 ⟨W4.heap.size, 0, none⟩ 1 1 [.string (bstr ky)] (by decide) rfl rfl ?cells ?one ?b1 ?b2 ?b3 ?_
            case cells =>
              intro j2 u hj2
              match j2, hj2 with
              | 0, hj2 => cases hj2; exact (Bl.cells_block hn5).1 0
              | j3 + 1, hj2 => simp at hj2
            case one => intro u hu; simp at hu; subst hu; rfl
            case b1 => unfold maxLen; omega
            case b2 => omega
            case b3 => have h1 := hb35.size; have h2 := H3.out.s.lt (Or.inl ⟨Nat.le_add_right w.heap.size 7, by omega⟩); omega
            intro v' W6 hown6 hgrow hv'
            have hvb : ∀ q, vn.ownBlock = some q → w.heap.size + 8 ≤ q ∧ q < W2.heap.size := fun q hq => ⟨(own_blk_lt hown hq).2.1, HNQ.out q (by rw [← HVN.out]; exact hq)⟩
            have hh6 : ∀ q, q < W3.heap.size → (q < w.heap.size + 8 ∨ W2.heap.size ≤ q) → W6.heap[q]? = W3.heap[q]? := fun q hq ho => (hgrow.block q (Nat.lt_of_lt_of_le hq hb35.size) (fun e => by have := hvb q e.symm; omega)).trans (hb35.block q hq)
            have m6 : W6.cell? ⟨w.heap.size + 1 + 1 + 1 + 1 + 1 + 1, 0, none⟩ = some vn := (World.cell?_of_block (hh6 (w.heap.size + 1 + 1 + 1 + 1 + 1 + 1) hnl (by omega))).trans hm
            have y06 : W6.cell? ⟨W2.heap.size, 0, none⟩ = some (.string (bstr r)) := (World.cell?_of_block (hh6 W2.heap.size hs23 (by omega))).trans y0
            have y16 : W6.cell? ⟨W2.heap.size, 1, none⟩ = some (.string (bstr k2)) := (World.cell?_of_block (hh6 W2.heap.size hs23 (by omega))).trans y1
            refine hK.out _ _ trivial (fun _ => ⟨m6, y06, y16⟩) ?_
            clear hK K m5 y05 y15
            simp only [Act.put, List.setIfInBounds_toArray, List.set_cons_zero, List.set_cons_succ]
            refine wpAnyS_ready (rs := [5]) (by kernel_rfl) (by simp) ?_
            refine AllS.cons (o := ⟨_, _, _, _, _, _⟩) rfl (by rfl) (fun K hK => ?_) AllS.nil
            have f6 : W6.frozen? ⟨w.heap.size + 1 + 1 + 1 + 1 + 1 + 1, 0, none⟩ = false := (Bl.cells_block ((hh6 _ hnl (by omega)).trans H3.out.s.m)).2 0
            obtain ⟨ao, n', cap', rfl⟩ : ∃ ao n' cap, v' = .slice ao n' cap := by
              rcases hown6.2 with ⟨hv, _⟩ | ⟨g, cap, cur, hv, _⟩
              · exact ⟨_, _, _, hv⟩
              · exact ⟨_, _, _, hv⟩
            go_wp2_with fail
            refine hK.out _ _ trivial (fun h => absurd h (by decide)) ?_
            clear hK K
            refine wpAnyS_done (by kernel_rfl) ?_ _
            obtain ⟨hs7, hk7⟩ := H3.out.s.named (Wa := W5) (Wb := W6) (v := .slice ao n' cap') (key := ky) hb35 (by rw [← HNM.out]; exact hown6) (by rw [← HVN.out]; exact hgrow) (by rw [← HVN.out]; exact hv')
            have hPR7 := H3.out.next hk7 (fun q hq => by
              rcases hq with rfl | hq
              · exact Or.inl ⟨by omega, by omega⟩
              · exact Or.inr (Or.inr (Or.inr (Or.inr (Or.inr hq))))) hs7
            have y07 : (W6.setCell ⟨w.heap.size + 1 + 1 + 1 + 1 + 1 + 1, 0, none⟩ (.slice ao n' cap')).cell? ⟨W2.heap.size, 0, none⟩ = some (.string (bstr r)) := (World.cell?_of_block (heap_set_other _ (show W2.heap.size ≠ w.heap.size + 1 + 1 + 1 + 1 + 1 + 1 by have := HNL2.out; omega))).trans y06
            have y17 : (W6.setCell ⟨w.heap.size + 1 + 1 + 1 + 1 + 1 + 1, 0, none⟩ (.slice ao n' cap')).cell? ⟨W2.heap.size, 1, none⟩ = some (.string (bstr k2)) := (World.cell?_of_block (heap_set_other _ (show W2.heap.size ≠ w.heap.size + 1 + 1 + 1 + 1 + 1 + 1 by have := HNL2.out; omega))).trans y16
            generalize W6.setCell ⟨w.heap.size + 1 + 1 + 1 + 1 + 1 + 1, 0, none⟩ (.slice ao n' cap') = W7 at *
            obtain ⟨hs8, hk8⟩ := hPR7.s.lasted (r, k2)
            have hPR8 := hPR7.next hk8 (fun q hq => Or.inl ⟨by omega, by omega⟩) hs8
            have z07 := (Bl.cells_block hPR7.s.z).1 0
            have z17 := (Bl.cells_block hPR7.s.z).1 1
            have g07 := (Bl.cells_block hPR7.s.z).2 0
            have g17 := (Bl.cells_block hPR7.s.z).2 1
            change _ = some (Value.string _) at z07
            change _ = some (Value.string _) at z17
            have H8 : Hid _ := hPR8
            clear hs7 hk7 hPR7 hs8 hk8 hPR8 hown6 hgrow hv' hh6 m6 y06 y16 f6 hown5 hown hb45 hb35 hb34 hn5 hvb hm y0 y1 z0 z1 H3 HNQ hi0 hz0 hz1 hz2 hkey hkl hnlen hs23 hnl
            refine nrm_of ?_
            gi_wp2_with fail
            refine ⟨i + 1, { V with n := .slice ao n' cap' }, _, _, _, ⟨rfl, rfl, rfl⟩, by go_num, by have := HIK.out; omega, ?_⟩
            rw [cIn_new hlt (by rw [← HC.out]; exact fun e => HNE.out ⟨(congrArg Prod.fst e).trans HP1.out.symm, (congrArg Prod.snd e).trans HP2.out.symm⟩)]
            have h8 := H8.out
            rw [HKY.out] at h8
            rw [← HC.out]
            exact h8
    exact key _ (fun W' h1 h2 => Or.inl ⟨rfl, h1, h2⟩)

end Go.Proofs.YtmpnofbhbglfpaaGreatDoor
