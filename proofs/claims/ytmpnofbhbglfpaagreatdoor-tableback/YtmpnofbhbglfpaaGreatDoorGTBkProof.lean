/-
  A drawn region that only reads, inside a round of a range.
  TableBack, walked.
  TableBack: a table that is written and opened has just its cells: each newest is got, all are told in order, from any place on. No condition but the card's own: the listed package-level variables hold what the program's text lays.
-/
import Derived.Test.YtmpnofbhbglfpaaGreatDoorGTRnd
import Derived.Sort.BigQuietIn
import Derived.Test.YtmpnofbhbglfpaaGreatDoorGTRf
import Derived.Test.YtmpnofbhbglfpaaGreatDoorTBkM
import Derived.Deep.RegionHeld3
import Derived.Deep.Cut
import Derived.Deep.CutBlock
import Derived.Deep.CutRange
import Derived.BigQuiet
import Derived.Test.YtmpnofbhbglfpaaGreatDoorCards
import Derived.Test.YtmpnofbhbglfpaaGreatDoorTie
import Derived.Test.YtmpnofbhbglfpaaGreatDoorGTLaid
import Derived.Test.YtmpnofbhbglfpaaGreatDoorGTOpen
namespace Go.Proofs.YtmpnofbhbglfpaaGreatDoor
open Go.RowKit Go.BigFrame Go.Sort

section
variable {F : Fence} {n : Nat} {P : Program} {ops : Array Oper} {Q : Exit → Act → World → Prop} {md : Region.Mode}
theorem wpIn_quiet_round {l0 : Nat} {id : Nat} {a : Act} {w : World} {l : List Oper} (hro : F.round = none) (hd : l.all noDefer = true) (hm : P.follows .mixedOrders = true) (hB : Region.lexB .any l.toArray = true)
    (h : wpQuietIn F n P l.toArray (fun w' => ∃ n, w' = w.drewN n) (fun a' => ∀ w', (∃ n, w' = w.drewN n) → Q .normal a' w') l a) : (Code.region id l.toArray true).wpIn (F.inRound l0) n P Q a w := by
  simp only [Region.lexB, Bool.and_eq_true] at hB
  have hd' : ∀ (i : Nat) (o : Oper), l.toArray[i]? = some o → noDefer o = true := fun i o ho => by
    rw [List.getElem?_toArray] at ho
    exact List.all_eq_true.1 hd o (List.mem_of_getElem? ho)
  refine wpIn_region_any hm (wpAnyIn_inRound hro hd' _ _ _ _ (wpAnyIn_of_quiet (C := fun w' => ∃ n, w' = w.drewN n) (Q := fun a' => ∀ w', (∃ n, w' = w.drewN n) → Q .normal a' w') hro (fun _ w' hw' h => h w' hw') _ _ _ _ ⟨1, rfl⟩ ?_))
  have := wpAnyQIn_lex (F := F) (n := n) (C := fun w' => ∃ n, w' = w.drewN n) (md := .any) hB.1 l.toArray.toList 0 (Array.replicate l.toArray.size false) a (by simp) (by simpa using hB.2) (by simpa using h)
  simpa using this
end

end Go.Proofs.YtmpnofbhbglfpaaGreatDoor

namespace Go.Proofs.YtmpnofbhbglfpaaGreatDoor
open Go.RowKit Go.BigFrame Go.Sort
attribute [local go_sem] Oper.semAt_some
attribute [local go_sem] size_bstr getElem_bstr toList_bstr append_bstr ls_def
attribute [local go_sem high] cell_eql5 cell_neq5 cell_guard

/-- Where the law stands: the answer R, the cells I, the table T. -/
structure BS (w W : World) (R I T tb : Nat) (v vb vl : Value) (L : List Cl) (Bs : List (List Cl)) : Prop where
  r : W.heap[R]? = some (.cells #[.bool false] 4 (0, 0))
  i : W.heap[I]? = some (.cells #[v] 22 (0, 0))
  o : W.ownsRow 0 39 5 v L.length (ccells L)
  p : W.heap[T]? = some (.cells #[.pointer (some ⟨tb, 0, none⟩)] 30 (0, 0))
  t : TB W tb vb vl Bs
  be : Below w.heap.size w W
  h : Tabs W
theorem BS.below {w W W' : World} {R I T tb : Nat} {v vb vl : Value} {L : List Cl} {Bs : List (List Cl)} (h : BS w W R I T tb v vb vl L Bs) (hb : Below W.heap.size W W') : BS w W' R I T tb v vb vl L Bs :=
  ⟨(hb.block _ (blk_lt h.r)).trans h.r, (hb.block _ (blk_lt h.i)).trans h.i, own_belowS h.o hb, (hb.block _ (blk_lt h.p)).trans h.p, h.t.below hb, below2 h.be hb, h.h.below hb⟩
theorem BS.fa {w W : World} {R I T tb : Nat} {v vb vl : Value} {L : List Cl} {Bs : List (List Cl)} (h : BS w W R I T tb v vb vl L Bs) : W.cell? ⟨I, 0, none⟩ = some v ∧ W.cell? ⟨T, 0, none⟩ = some (.pointer (some ⟨tb, 0, none⟩)) := ⟨(Bl.cells_block h.i).1 0, (Bl.cells_block h.p).1 0⟩

theorem below_drewN (W : World) (n : Nat) : Below W.heap.size W (W.drewN n) := by
  induction n with
  | zero => exact Below.refl _ _
  | succ n ih => exact ⟨ih.os, ih.tape, ih.output, ih.size, ih.block⟩
theorem kcE {X wf wr : World} {a : Addr} {v : Value} (hX : RowKit.Below wr.heap.size wr X) (hbf : RowKit.Below X.heap.size X wf) (h : wr.cell? a = some v) : wf.cell? a = some v := by
  have hl := World.block_lt_of_cell? wr a h
  rw [World.cell?_of_block (hbf.block a.block (Nat.lt_of_lt_of_le hl hX.size)), World.cell?_of_block (hX.block a.block hl)]
  exact h
theorem atE1 {X wf wr : World} {z : Obj} (hbf : RowKit.Below X.heap.size X wf) (hX : X.heap = wr.heap.push z) : wf.heap[wr.heap.size]? = some z := by
  refine (hbf.block _ (by rw [hX]; simp)).trans ?_
  rw [hX]
  simp
theorem cell_set5 {W : World} {n : Nat} {u0 u1 u2 u3 u4 : Value} {r k : List UInt8} {v : Int} {z : Bool} {x : List UInt8} (z0 : W.cell? ⟨n, 0, none⟩ = some u0) (z1 : W.cell? ⟨n, 1, none⟩ = some u1) (z2 : W.cell? ⟨n, 2, none⟩ = some u2) (z3 : W.cell? ⟨n, 3, none⟩ = some u3) (z4 : W.cell? ⟨n, 4, none⟩ = some u4) :
    CellAt (((((W.setCell ⟨n, 0, none⟩ (.string (bstr r))).setCell ⟨n, 1, none⟩ (.string (bstr k))).setCell ⟨n, 2, none⟩ (.int .u64 v)).setCell ⟨n, 3, none⟩ (.bool z)).setCell ⟨n, 4, none⟩ (.string (bstr x))) n r k v z x := by
  obtain ⟨q0, q1, q2, q3, q4⟩ := set5_reads z0 z1 z2 z3 z4 rfl
  exact ⟨q0, q1, q2, q3, q4⟩
/-- No more of them than there are cells. -/
theorem nodup_le : ∀ {a b : List Cl}, a.Pairwise (fun x y => x ≠ y) → (∀ x ∈ a, x ∈ b) → a.length ≤ b.length
  | [], _, _, _ => by simp
  | x :: a, b, h, k => by
    obtain ⟨h1, h2⟩ := List.pairwise_cons.1 h
    obtain ⟨s, t, e⟩ := List.append_of_mem (k x (by simp))
    have : a.length ≤ (s ++ t).length := nodup_le h2 fun y hy => by
      have := k y (by simp [hy])
      rw [e] at this
      rcases List.mem_append.1 this with q | q
      · exact List.mem_append.2 (.inl q)
      · rcases List.mem_cons.1 q with q | q
        · exact absurd q.symm (h1 y hy)
        · exact List.mem_append.2 (.inr q)
    rw [e, List.length_cons]
    simp at this ⊢
    omega
theorem NewSpec.few {l ns : List Cl} (h : NewSpec l ns) : ns.length ≤ l.length := by
  refine nodup_le (h.asc.imp fun {a b} hab => ?_) h.sub
  rintro rfl
  rw [ccl_self] at hab
  omega
theorem rz_of {wr wf : World} (h : RowKit.Below (wr.alloc (.cells #[.string ⟨#[]⟩, .string ⟨#[]⟩, .int .u64 0, .bool false, .string ⟨#[]⟩] 39)).drew.heap.size (wr.alloc (.cells #[.string ⟨#[]⟩, .string ⟨#[]⟩, .int .u64 0, .bool false, .string ⟨#[]⟩] 39)).drew wf) : Rz wf wr.heap.size :=
  (h.block _ (by show _ < (wr.alloc _).heap.size; simp)).trans (heap_alloc_new wr _)
/-- The blocks that the law keeps. -/
structure BD (P : Nat → Prop) (R I T tb b pb : Nat) (v vb vl : Value) : Prop where
  r : P R
  i : P I
  p : P T
  t : P tb
  b : P b
  q : P pb
  v : ∀ k, v.ownBlock = some k → P k
  vb : ∀ k, vb.ownBlock = some k → P k
  vl : ∀ k, vl.ownBlock = some k → P k
theorem BS.kept {w W W' : World} {R I T tb b pb : Nat} {v vb vl : Value} {L : List Cl} {Bs : List (List Cl)} {P : Nat → Prop} (ht : Tabs w) (u : BD P R I T tb b pb v vb vl) (h : BS w W R I T tb v vb vl L Bs) (hk : ∀ i, P i → W'.heap[i]? = W.heap[i]?) (hb : Below w.heap.size w W') : BS w W' R I T tb v vb vl L Bs :=
  ⟨(hk _ u.r).trans h.r, (hk _ u.i).trans h.i, own_kept h.o fun i hi => hk i (u.v i hi), (hk _ u.p).trans h.p, h.t.kept (hk _ u.t) (fun i hi => hk i (u.vb i hi)) (fun i hi => hk i (u.vl i hi)), hb, ht.below hb⟩
/-- Between two cells that are told: so many were, nB counts them. -/
structure BJ (w : World) (R I T tb nB D b pb : Nat) (v vb vl : Value) (RR : Loop) (L : List Cl) (Bs : List (List Cl)) (X : Nat → Prop) (j : Nat) (W : World) : Prop where
  k : BS w W R I T tb v vb vl L Bs
  n : W.heap[nB]? = some (.cells #[.int .i64 (j : Int)] 3 (0, 0))
  d : W.heap[D]? = some (.deferred (some []))
  c : W.heap[D + 1]? = some (.loop RR)
  f : FrX W b pb (some ⟨tb, 0, none⟩) [] []
  x : ∀ i, X i → D + 2 ≤ i
theorem BJ.abd {w : World} {R I T tb nB D b pb : Nat} {v vb vl : Value} {RR : Loop} {L : List Cl} {Bs : List (List Cl)} {X : Nat → Prop} {j : Nat} {W W' : World} {P : Nat → Prop} (ht : Tabs w) (u : BD P R I T tb b pb v vb vl) (hP : ∀ i, P i → i < D) (hD : nB < D ∧ w.heap.size ≤ D) (h : BJ w R I T tb nB D b pb v vb vl RR L Bs X j W) (hk : Kp W W' X) : BJ w R I T tb nB D b pb v vb vl RR L Bs X j W' := by
  have hc := blk_lt h.c
  have hn : ∀ i, i < D + 2 → W'.heap[i]? = W.heap[i]? := fun i hi => hk.block i (by omega) (fun hx => by have := h.x i hx; omega)
  exact ⟨h.k.kept ht u (fun i hi => hn i (by have := hP i hi; omega)) (Kp.below0 h.k.be hk fun i hi => by have := h.x i hi; omega), (hn _ (by omega)).trans h.n, (hn _ (by omega)).trans h.d, (hn _ (by omega)).trans h.c, ⟨(hn _ (by have := hP _ u.b; omega)).trans h.f.t, (hn _ (by have := hP _ u.q; omega)).trans h.f.p⟩, h.x⟩

theorem box2 (W : World) (x y : List UInt8) : ((W.alloc (.cells #[.string (bstr x)] 9)).alloc (.cells #[.string (bstr y)] 9)).drew.heap[W.heap.size]? = some (.cells #[.string (bstr x)] 9 (0, 0)) ∧ ((W.alloc (.cells #[.string (bstr x)] 9)).alloc (.cells #[.string (bstr y)] 9)).drew.heap[W.heap.size + 1]? = some (.cells #[.string (bstr y)] 9 (0, 0)) ∧ Below W.heap.size W ((W.alloc (.cells #[.string (bstr x)] 9)).alloc (.cells #[.string (bstr y)] 9)).drew := by
  refine ⟨(Below.heap_alloc _ _ _ (by simp)).trans (heap_alloc_new W _), ?_, (((Below.refl _ _).alloc (Nat.le_refl _) _).alloc (by simp) _).drew⟩
  have := heap_alloc_new (W.alloc (.cells #[.string (bstr x)] 9)) (.cells #[.string (bstr y)] 9)
  rw [World.size_alloc] at this
  exact this
/-- Whether something was found, behind so many cells; whether the next one is the first. -/
def fdB (is : Bool) : Nat → Bool
  | 0 => false
  | _ + 1 => is
def fiB : Nat → Bool
  | 0 => true
  | _ + 1 => false
/-- Between two cells that are told from a place on. -/
structure BL (w : World) (R I T tb P1 P2 FB GB2 E D b pb : Nat) (v vb vl : Value) (RR : Loop) (L : List Cl) (Bs : List (List Cl)) (row col : List UInt8) (is : Bool) (X : Nat → Prop) (j : Nat) (W : World) : Prop where
  k : BS w W R I T tb v vb vl L Bs
  r : W.heap[P1]? = some (.cells #[.string (bstr row)] 9 (0, 0))
  q : W.heap[P2]? = some (.cells #[.string (bstr col)] 9 (0, 0))
  fo : W.heap[FB]? = some (.cells #[.bool (fdB is j)] 4 (0, 0))
  fi : W.heap[GB2]? = some (.cells #[.bool (fiB j)] 4 (0, 0))
  e : W.heap[E]? = some (.deferred (some []))
  d : W.heap[D]? = some (.deferred (some []))
  c : W.heap[D + 1]? = some (.loop RR)
  f : FrX W b pb (some ⟨tb, 0, none⟩) row col
  x : ∀ i, X i → D + 2 ≤ i
theorem BL.kept {w : World} {R I T tb P1 P2 FB GB2 E D b pb : Nat} {v vb vl : Value} {RR : Loop} {L : List Cl} {Bs : List (List Cl)} {row col : List UInt8} {is : Bool} {X : Nat → Prop} {j : Nat} {W W' : World} {P : Nat → Prop} (ht : Tabs w) (u : BD P R I T tb b pb v vb vl) (h : BL w R I T tb P1 P2 FB GB2 E D b pb v vb vl RR L Bs row col is X j W) (hk : ∀ i, (P i ∨ i = P1 ∨ i = P2 ∨ i = E ∨ i = D) → W'.heap[i]? = W.heap[i]?) (hb : Below w.heap.size w W') (m : Nat) (h1 : W'.heap[FB]? = some (.cells #[.bool (fdB is m)] 4 (0, 0))) (h2 : W'.heap[GB2]? = some (.cells #[.bool (fiB m)] 4 (0, 0))) (h3 : W'.heap[D + 1]? = some (.loop RR)) : BL w R I T tb P1 P2 FB GB2 E D b pb v vb vl RR L Bs row col is X m W' :=
  ⟨h.k.kept ht u (fun i hi => hk i (.inl hi)) hb, (hk _ (by simp)).trans h.r, (hk _ (by simp)).trans h.q, h1, h2, (hk _ (by simp)).trans h.e, (hk _ (by simp)).trans h.d, h3, ⟨(hk _ (.inl u.b)).trans h.f.t, (hk _ (.inl u.q)).trans h.f.p⟩, h.x⟩
theorem BL.abd {w : World} {R I T tb P1 P2 FB GB2 E D b pb : Nat} {v vb vl : Value} {RR : Loop} {L : List Cl} {Bs : List (List Cl)} {row col : List UInt8} {is : Bool} {X : Nat → Prop} {j : Nat} {W W' : World} {P : Nat → Prop} (ht : Tabs w) (u : BD P R I T tb b pb v vb vl) (hP : ∀ i, P i → i < D) (hD : P1 < D ∧ P2 < D ∧ GB2 < D ∧ E < D ∧ w.heap.size ≤ D ∧ FB < D) (h : BL w R I T tb P1 P2 FB GB2 E D b pb v vb vl RR L Bs row col is X j W) (hk : Kp W W' X) : BL w R I T tb P1 P2 FB GB2 E D b pb v vb vl RR L Bs row col is X j W' := by
  have hc := blk_lt h.c
  have hn : ∀ i, i < D + 2 → W'.heap[i]? = W.heap[i]? := fun i hi => hk.block i (by omega) (fun hx => by have := h.x i hx; omega)
  exact h.kept ht u (fun i hi => hn i (by rcases hi with hi | hi | hi | hi | hi; · have := hP i hi; omega
                                          all_goals omega)) (Kp.below0 h.k.be hk fun i hi => by have := h.x i hi; omega) j ((hn _ (by omega)).trans h.fo) ((hn _ (by omega)).trans h.fi) ((hn _ (by omega)).trans h.c)

set_option maxHeartbeats 8000000 in
set_option maxRecDepth 100000 in
theorem Back11_any (q : Option Addr) (b0 off cap : Nat) (xs : List Sp) (most : Int) (at_ : Sp) (w : World) (hq : 0 < xs.length → q = some ⟨b0, off, none⟩ ∧ SpRow w b0 off xs ∧ b0 < w.heap.size) (hx : ∀ x ∈ xs, SpOk x) (ha : SpOk at_) (ht : Tabs w) :
    Calls Tryz.prog 5 #[.slice q xs.length cap, .int .i64 most, .agg #[.int .u8 (at_.row : Int), .int .u8 (at_.col : Int), .int .u8 (at_.ver : Int), .bool at_.gone, .string (bstr at_.val)]] w fun e w' => e = .returned (.bool true) ∧ Below w.heap.size w w' := by
  obtain ⟨ws, hws⟩ : ∃ ws, ws = w.alloc (.cells #[.int .u8 (at_.row : Int), .int .u8 (at_.col : Int), .int .u8 (at_.ver : Int), .bool at_.gone, .string (bstr at_.val)] 53) := ⟨_, rfl⟩
  have hbws : Below w.heap.size w ws := by rw [hws]; exact (Below.refl _ _).alloc (Nat.le_refl _) _
  have HZS : Hid (ws.heap.size = w.heap.size + 1) := by show _ = _; rw [hws]; simp
  have HSP : Hid (ws.heap[w.heap.size]? = some (.cells #[.int .u8 (at_.row : Int), .int .u8 (at_.col : Int), .int .u8 (at_.ver : Int), .bool at_.gone, .string (bstr at_.val)] 53 (0, 0))) := by show _ = _; rw [hws]; exact heap_alloc_new w _
  obtain ⟨w1, hw1⟩ : ∃ w1, w1 = (w.alloc (.cells #[.int .u8 (at_.row : Int), .int .u8 (at_.col : Int), .int .u8 (at_.ver : Int), .bool at_.gone, .string (bstr at_.val)] 53)).alloc (.cells #[.bool false] 4) := ⟨_, rfl⟩
  have hb1 : Below ws.heap.size ws w1 := by rw [hw1, ← hws]; exact (Below.refl _ _).alloc (Nat.le_refl _) _
  have hq : 0 < xs.length → q = some ⟨b0, off, none⟩ ∧ SpRow ws b0 off xs ∧ b0 < ws.heap.size := fun h => by
    obtain ⟨h1, h2, h3⟩ := hq h
    have hc : ∀ o, ws.cell? ⟨b0, o, none⟩ = w.cell? ⟨b0, o, none⟩ := fun o => World.cell?_of_block (hbws.block b0 h3)
    exact ⟨h1, fun i hi => ⟨by rw [hc]; exact (h2 i hi).c0, by rw [hc]; exact (h2 i hi).c1, by rw [hc]; exact (h2 i hi).c2, by rw [hc]; exact (h2 i hi).c3, by rw [hc]; exact (h2 i hi).c4⟩, Nat.lt_of_lt_of_le h3 hbws.size⟩
  have ht : Tabs ws := ht.below hbws
  have HBW : Hid _ := hbws
  clear hws hbws
  have hR1 : w1.heap[w.heap.size + 1]? = some (.cells #[.bool false] 4 (0, 0)) := by
    rw [hw1]
    have := heap_alloc_new (w.alloc (.cells #[.int .u8 (at_.row : Int), .int .u8 (at_.col : Int), .int .u8 (at_.ver : Int), .bool at_.gone, .string (bstr at_.val)] 53)) (.cells #[.bool false] 4)
    rw [World.size_alloc] at this
    exact this
  have hof := of11_any q b0 off cap xs w1 (fun h => by
    obtain ⟨h1, h2, h3⟩ := hq h
    have hc : ∀ o, w1.cell? ⟨b0, o, none⟩ = ws.cell? ⟨b0, o, none⟩ := fun o => World.cell?_of_block (hb1.block b0 h3)
    exact ⟨h1, fun i hi => ⟨by rw [hc]; exact (h2 i hi).c0, by rw [hc]; exact (h2 i hi).c1, by rw [hc]; exact (h2 i hi).c2, by rw [hc]; exact (h2 i hi).c3, by rw [hc]; exact (h2 i hi).c4⟩, Nat.lt_of_lt_of_le h3 hb1.size⟩) hx
  obtain ⟨r, hr, hke⟩ := mod_fact most 32768 (by decide) (by decide)
  rw [show ((32768 : Nat) : Int) = 32768 from rfl] at hke
  have hke' := hke
  have hwp : wrap64 (1 + (r : Int)) = 1 + (r : Int) := by unfold wrap64; omega
  obtain ⟨hwri, hG, hfl, hRm, hsl, hs0⟩ := of_lay xs (m := 1 + (r : Int)) (by omega) (by omega)
  have hck := ofL_chk xs (m := 1 + (r : Int)) (by omega) (by omega)
  have hlen := ofL_len xs
  have hop := opB_lay hRm hG
  have hbl := flat_few (Bs := cutB (ofL xs) (1 + (r : Int)).toNat) fun B hB => (hG.good B hB).2
  rw [hfl] at hbl
  have HOK : Hid _ := (okL_iff.1 (ofL_ok xs)).2
  have HFIT : Hid (∀ c ∈ ofL xs, Fits c) := fun c hc => by
    have h := (ofL_mem hc).2.2
    exact ⟨by omega, by omega, by omega⟩
  have HWR : Hid _ := hwri
  have HCK : Hid _ := hck
  have HRM : Hid _ := hRm
  have HFL : Hid _ := hfl
  have HG : Hid _ := hG
  have hwr := fun (q2 : Option Addr) (g2 cap2 : Nat) (W : World) h1 h2 h3 => TWrite_any q2 g2 0 cap2 (ofL xs) (1 + (r : Int)) W h1 h2 (by omega) h3 (fun _ => hRm)
  rw [hwri, hck] at hwr
  generalize cutB (ofL xs) (1 + (r : Int)).toNat = Bs at *
  generalize ofL xs = L at *
  have hopn := fun W (h : Tabs W) => Open_any (layT Bs) W (by omega) h (by rw [hop]; exact hRm)
  rw [hop] at hopn
  have hopn2 : ∀ W, Tabs W → Calls Tryz.prog 11 #[.string (bstr (layT Bs))] W fun e w' => ∃ tb vb vl, e = .returned (.tuple #[.pointer (some ⟨tb, 0, none⟩), .int .i64 0]) ∧ TB w' tb vb vl Bs ∧ Below W.heap.size W w' := fun W h => by
    refine (hopn W h).mono ?_
    rintro e w' ⟨hb, ⟨_, tb, vb, vl, rfl, hT⟩ | ⟨h2, _⟩⟩
    · exact ⟨tb, vb, vl, rfl, hT, hb⟩
    · exact absurd rfl h2
  clear hopn hop hwri hck hRm hG hfl hke hx
  generalize layT Bs = s at *
  refine calls_marks Tryz.func5 rfl ?_
  simp only [Tryz.ntmps5, List.size_toArray, List.length_cons, List.length_nil, Nat.reduceAdd, Nat.reduceSub, Array.replicate_succ, Array.replicate_zero, List.push_toArray, List.append_toArray, List.nil_append, List.cons_append]
  gi_wp2_with fail
  rw [← hw1]
  refine ⟨trivial, (callsIn_wide.2 hof).mono ?_⟩
  rintro e w2 ⟨v, rfl, hown, hb2⟩
  obtain ⟨q2, g2, cap2, rfl, hq2, hcap2⟩ := own_arg hown
  have hb12 := below2 hb1 hb2
  have hR2 := (hb2.block _ (blk_lt hR1)).trans hR1
  have hb3 : Below w2.heap.size w2 (w2.alloc (.cells #[.slice q2 L.length cap2] 22)) := (Below.refl _ _).alloc (Nat.le_refl _) _
  have hi3 := heap_alloc_new w2 (.cells #[.slice q2 L.length cap2] 22)
  have hw3 := hwr q2 g2 cap2 (w2.alloc (.cells #[.slice q2 L.length cap2] 22)) (fun h => by
    obtain ⟨h1, h2, h3⟩ := hq2 h
    exact ⟨h1, h2.step hb3 h3.lt, h3.step hb3 h3.lt⟩) hcap2 (ht.below (below2 hb12 hb3))
  have hown3 := own_belowS (own_base hown (Nat.zero_le _)) hb3
  have hR3 := (hb3.block _ (blk_lt hR2)).trans hR2
  have hb13 := below2 hb12 hb3
  clear hof hw1 hwr hq hR1 hR2 hb1 hb2 hq2 hown hb3 hb12
  gi_wp2_with fail
  generalize w2.alloc (.cells #[.slice q2 L.length cap2] 22) = w3 at *
  refine ⟨trivial, (callsIn_wide.2 hw3).mono ?_⟩
  rintro e w4 ⟨rfl, hb4⟩
  have hb14 := below2 hb13 hb4
  clear hw3
  gi_wp2_with fail
  refine ⟨trivial, (callsIn_wide.2 (hopn2 w4 (ht.below hb14))).mono ?_⟩
  rintro e w5 ⟨tb, vb, vl, rfl, hT5, hb5⟩
  have hb35 := below2 hb4 hb5
  have hb6 : Below w5.heap.size w5 (w5.alloc (.cells #[.pointer (some ⟨tb, 0, none⟩)] 30)) := (Below.refl _ _).alloc (Nat.le_refl _) _
  have hp6 := heap_alloc_new w5 (.cells #[.pointer (some ⟨tb, 0, none⟩)] 30)
  have hb36 := below2 hb35 hb6
  have hbs : BS ws (w5.alloc (.cells #[.pointer (some ⟨tb, 0, none⟩)] 30)) (w.heap.size + 1) w2.heap.size w5.heap.size tb (.slice q2 L.length cap2) vb vl L Bs := ⟨(hb36.block _ (blk_lt hR3)).trans hR3, (hb36.block _ (blk_lt hi3)).trans hi3, own_belowS hown3 hb36, hp6, hT5.below hb6, below2 hb13 hb36, ht.below (below2 hb13 hb36)⟩
  have HBS : Hid _ := hbs
  have HT0 : Hid _ := ht
  clear hbs hopn2 hT5 hb5 hb35 hb6 hp6 hb36 hb14 hb4 hb13 hR3 hi3 hown3 ht hsl hs0 hwp hr hke' hcap2
  gi_wp2_with fail
  generalize w5.alloc (.cells #[.pointer (some ⟨tb, 0, none⟩)] 30) = w6 at *
  obtain ⟨c0, c1⟩ := HBS.out.fa
  have hbd : Below w6.heap.size w6 w6.drew := (Below.refl _ _).drew
  have hSS : ∀ W, Below w6.heap.size w6 W → W.cell? ⟨w2.heap.size, 0, none⟩ = some (.slice q2 L.length cap2) ∧ W.cell? ⟨w5.heap.size, 0, none⟩ = some (.pointer (some ⟨tb, 0, none⟩)) := fun W hb => (HBS.out.below hb).fa
  have s0 := hSS w6.drew hbd
  have hLn : ∀ W, Below w6.heap.size w6 W → Calls Tryz.prog 20 #[.pointer (some ⟨tb, 0, none⟩)] W fun e w' => e = .returned (.int .i64 (L.length : Int)) ∧ Below W.heap.size W w' := fun W hb => by
    have := TLen_any tb vb vl Bs W (HBS.out.t.below hb)
    rwa [HFL.out] at this
  have hBk : ∀ W, Below w6.heap.size w6 W → Calls Tryz.prog 21 #[.pointer (some ⟨tb, 0, none⟩)] W fun e w' => e = .returned (.int .i64 (Bs.length : Int)) ∧ Below W.heap.size W w' := fun W hb => TBlocks_any tb vb vl Bs W (HBS.out.t.below hb)
  have hbI : ¬ ((L.length : Int) < (Bs.length : Int)) := by omega
  have HSS : Hid _ := hSS
  have HLEN : Hid _ := hlen
  clear hSS hbl hlen
  refine wpIn_wide.2 ?_
  go_region_held3 (fun W => W.cell? ⟨w2.heap.size, 0, none⟩ = some (.slice q2 L.length cap2) ∧ W.cell? ⟨w5.heap.size, 0, none⟩ = some (.pointer (some ⟨tb, 0, none⟩)))
    (first | with_reducible exact s0 | with_reducible exact s1 | with_reducible exact s2)
    (first
      | (go_at_call 20; with_reducible refine (hLn _ hbd).mono ?_; rintro e Wa ⟨rfl, hba⟩; have hba' := below2 hbd hba; have s1 := HSS.out Wa hba')
      | (go_at_call 21; with_reducible refine (hBk _ hba').mono ?_; rintro e Wc ⟨rfl, hbc⟩; have hbc' := below2 hba' hbc; have s2 := HSS.out Wc hbc'))
  have hbs := HBS.out.below hbc'
  clear s0 s1 s2 hLn hBk hba hba' hbc hbc' hbd c0 c1 HSS
  have hn7 := heap_alloc_new Wc (.cells #[.int .i64 0] 3)
  have hb7 : Below Wc.heap.size Wc (Wc.alloc (.cells #[.int .i64 0] 3)) := (Below.refl _ _).alloc (Nat.le_refl _) _
  have hbs7 := hbs.below hb7
  obtain ⟨c0, c1⟩ := hbs7.fa
  have hall := TAll_any (some ⟨tb, 0, none⟩) (Wc.alloc (.cells #[.int .i64 0] 3))
  gi_wp2_with fail
  generalize Wc.alloc (.cells #[.int .i64 0] 3) = w7 at *
  refine ⟨trivial, (callsIn_wide.2 hall).mono ?_⟩
  rintro e wb ⟨b, pb, rfl, hX, hB1, hB2, hbb⟩
  clear hall c0 c1
  gi_wp2_with fail
  refine wp_range2 (by omega) rfl (enters_of Tryz.func40 (by kernel_rfl) rfl) ?_
  intro RR hRR
  have hbW : Below wb.heap.size wb ((wb.alloc (.deferred (some []))).alloc (.loop RR)) := ((Below.refl _ _).alloc (Nat.le_refl _) _).alloc (by simp) _
  have hWa : ((wb.alloc (.deferred (some []))).alloc (.loop RR)).heap[wb.heap.size + 1]? = some (.loop RR) := by
    have := World.alloc_heap_new (wb.alloc (.deferred (some []))) (.loop RR)
    rwa [World.size_alloc] at this
  have hWb : ((wb.alloc (.deferred (some []))).alloc (.loop RR)).heap[wb.heap.size]? = some (.deferred (some [])) := (Below.heap_alloc _ _ _ (by simp)).trans (World.alloc_heap_new wb _)
  obtain ⟨W1, hWW⟩ : ∃ W1, W1 = (wb.alloc (.deferred (some []))).alloc (.loop RR) := ⟨_, rfl⟩
  rw [← hWW] at hbW hWa hWb ⊢
  clear hWW
  have z0 := hb7.size
  have z1 := blk_lt hn7
  have z2 := hbb.size
  have hDw : w.heap.size + 1 < Wc.heap.size := blk_lt hbs.r
  have hu : BD (fun i => i < wb.heap.size ∧ i ≠ Wc.heap.size) (w.heap.size + 1) w2.heap.size w5.heap.size tb b pb (.slice q2 L.length cap2) vb vl := by
    have y1 := blk_lt hbs.i
    have y2 := blk_lt hbs.p
    have y3 := blk_lt hbs.t.t
    exact ⟨by omega, by omega, by omega, by omega, ⟨blk_lt hX.t, by omega⟩, ⟨blk_lt hX.p, by omega⟩, fun k hk => by have := (own_blk_lt hbs.o hk).1; omega, fun k hk => by have := (own_blk_lt hbs.t.rb hk).1; omega, fun k hk => by have := (own_blk_lt hbs.t.rl hk).1; omega⟩
  have hb7W := below2 hbb hbW
  have hJ0 : BJ ws (w.heap.size + 1) w2.heap.size w5.heap.size tb Wc.heap.size wb.heap.size b pb (.slice q2 L.length cap2) vb vl RR L Bs (fun _ => False) 0 W1 := ⟨hbs7.below hb7W, (hb7W.block _ z1).trans hn7, hWb, hWa, hX.below hbW, fun _ h => h.elim⟩
  have hzw : ws.heap.size ≤ Wc.heap.size := hbs.be.size
  have hD2 : Wc.heap.size < wb.heap.size ∧ ws.heap.size ≤ wb.heap.size := by omega
  have hct := from1_tells b pb tb vb vl Bs [] [] HG.out (by have h1 := flat_few (Bs := Bs) fun B hB => (HG.out.good B hB).2; rw [HFL.out] at h1; have := HLEN.out; omega)
  rw [frmL_all, HFL.out] at hct
  have hbe7 := hbs.be
  clear hWa hWb hbW hX hb7W hbs7 hbs hn7 hb7 hB1 hB2 hbb
  have hte := hct (wb.heap.size + 1) W1 (BJ ws (w.heap.size + 1) w2.heap.size w5.heap.size tb Wc.heap.size wb.heap.size b pb (.slice q2 L.length cap2) vb vl RR L Bs) (fun _ _ => False) (fun X j W W' h hk => h.abd HT0.out hu (fun i hi => hi.1) hD2 hk) (fun X X' j W h hx => ⟨h.k, h.n, h.d, h.c, h.f, fun i hi => by
    rcases hx i hi with hi | hi
    · exact h.x i hi
    · have := blk_lt h.c; omega⟩) (fun X j W h => ⟨h.f, h.k.t⟩) (fun _ _ _ h => h.elim) hJ0 ?_
  · refine hte.mono ?_
    clear hte hct hJ0 hRR
    rintro e W2 ⟨⟨u, rfl⟩, ⟨X, hj⟩ | ⟨_, h⟩⟩
    case inr => exact h.elim
    refine ⟨⟨_, rfl⟩, Or.inl ⟨hj.c, ?_⟩⟩
    have hb3 : Below ws.heap.size ws (W2.putObj (wb.heap.size + 1) (.loop { RR with state := .exhausted })) := Bl.below_put hj.k.be (by omega) _
    have hk3 : BS ws (W2.putObj (wb.heap.size + 1) (.loop { RR with state := .exhausted })) (w.heap.size + 1) w2.heap.size w5.heap.size tb (.slice q2 L.length cap2) vb vl L Bs := hj.k.kept HT0.out hu (fun i hi => World.putObj_heap_other (by omega)) hb3
    have hn3 : (W2.putObj (wb.heap.size + 1) (.loop { RR with state := .exhausted })).heap[Wc.heap.size]? = some (.cells #[.int .i64 (L.length : Int)] 3 (0, 0)) := (World.putObj_heap_other (by omega)).trans hj.n
    have hd3 : (W2.putObj (wb.heap.size + 1) (.loop { RR with state := .exhausted })).heap[wb.heap.size]? = some (.deferred (some [])) := (World.putObj_heap_other (by omega)).trans hj.d
    generalize W2.putObj (wb.heap.size + 1) (.loop { RR with state := .exhausted }) = W3 at *
    obtain ⟨i0, p0⟩ := hk3.fa
    have n0 : W3.cell? ⟨Wc.heap.size, 0, none⟩ = some (.int .i64 (L.length : Int)) := (Bl.cells_block hn3).1 0
    clear hj hb3 hu
    obtain ⟨qa, ga, capa, hva, hqa, hcapa⟩ := own_arg hk3.o
    cases hva
    have hLm := HOK.out
    have hnw := Newest_any q2 ga 0 cap2 L W3 (fun h => ⟨(hqa h).1, (hqa h).2.1, (hqa h).2.2.lt⟩) (fun c hc => HFIT.out c hc) (by have := HLEN.out; omega)
    clear hLm
    gi_wp2_with fail
    refine ⟨trivial, (callsIn_wide.2 hnw).mono ?_⟩
    rintro e W4 ⟨vn, rfl, hown4, hb4⟩
    have hk4 := hk3.below hb4
    have hd4 := (hb4.block _ (blk_lt hd3)).trans hd3
    obtain ⟨pn, gn, cn, rfl, hqn, hcn⟩ := own_arg hown4
    have hNl : (newL L).length ≤ 60 := by have h1 := (newL_spec L).few; have h2 := HLEN.out; omega
    have hget : ∀ n ∈ newL L, ∀ W, Below W4.heap.size W4 W → Calls Tryz.prog 14 #[.pointer (some ⟨tb, 0, none⟩), .string (bstr n.row), .string (bstr n.col)] W fun e w' => e = .returned (.tuple #[clV n, .bool true]) ∧ Below W.heap.size W w' := fun n hn W hb => by
      have hm := (newL_spec L).sub n hn
      have hf := HFIT.out n hm
      have h1 := flat_few (Bs := Bs) fun B hB => (HG.out.good B hB).2
      rw [HFL.out] at h1
      have h2 := HLEN.out
      refine (Get_any tb vb vl Bs n.row n.col W (hk4.t.below hb) HG.out (by omega) (by have := flt_long HRM.out; omega) (by have a := hf.1; have b := hf.2.1; omega)).mono ?_
      rintro e w' ⟨o, rfl, hO, hb'⟩
      rw [get_math HG.out hO, HFL.out, bk_new HOK.out hn]
      exact ⟨rfl, hb'⟩
    clear hnw hb4 hk3 hd3 hn3 i0 p0 n0 hown4 hqa hcapa
    generalize newL L = N at *
    have HK4 : Hid _ := hk4
    have HD4 : Hid _ := hd4
    clear hk4 hd4
    gi_wp2_with fail
    refine wpIn_wide.2 ?_
    go_loopw [15] (fun s15 wr => ∃ i : Nat, s15 = .int .i64 (i : Int) ∧ i ≤ N.length ∧ Below W4.heap.size W4 wr) (fun s15 _ => N.length - (intOf s15).toNat)
    case atStart => exact ⟨0, rfl, by omega, Below.refl _ _⟩
    case round =>
      obtain ⟨i, rfl, hil, hbel⟩ := hrel
      by_cases hlt : i < N.length
      · obtain ⟨rfl, hRn, hgl⟩ := hqn (by omega)
        have hAt := (hRn.step hbel hgl.lt) i hlt
        rw [Nat.zero_add] at hAt
        have hgw : gn < wr.heap.size := Nat.lt_of_lt_of_le hgl.lt hbel.size
        have hF2 := fun W (hb : Below wr.heap.size wr W) => hget N[i] (List.getElem_mem hlt) W (below2 hbel hb)
        have ct := ((HK4.out.below hbel).fa).2
        clear hRn hget hgl
        generalize N[i] = n at *
        obtain ⟨r1, k, v, z, x⟩ := n
        have heq := eqC_self ⟨r1, k, v, z, x⟩
        have hF3 : ∀ W, Below wr.heap.size wr W → Calls Tryz.prog 14 #[.pointer (some ⟨tb, 0, none⟩), .string (bstr r1), .string (bstr k)] W fun e w' => e = .returned (.tuple #[.agg #[.string (bstr r1), .string (bstr k), .int .u64 v, .bool z, .string (bstr x)], .bool true]) ∧ Below W.heap.size W w' := hF2
        clear hF2
        obtain ⟨c0, c1, c2, c3, c4⟩ := hAt
        simp only at c0 c1 c2 c3 c4
        have hlz : (i : Int) < (N.length : Int) := by omega
        go_wp2_with fail
        go_cut [16, 17] from 98 to 122 (fun s16 s17 wx => ∃ P : Nat, s16 = .pointer (some ⟨P, 0, none⟩) ∧ s17 = .bool true ∧ CellAt wx P r1 k v z x ∧ Below wr.heap.size wr wx)
        case rest =>
          obtain ⟨P, rfl, rfl, hP, hBW⟩ := hcut
          have hbe := below2 hbel hBW
          obtain ⟨k0, k1, k2, k3, k4⟩ := (At5.mk (c := ⟨r1, k, v, z, x⟩) c0 c1 c2 c3 c4).step hBW hgw
          obtain ⟨d0, d1, d2, d3, d4⟩ := hP
          simp only at k0 k1 k2 k3 k4
          clear c0 c1 c2 c3 c4 hF3 hbel hBW ct
          go_wp2_with fail
          go_quiet (fail)
          replace hbe := below2 hbe (below_drewN wc nq)
          generalize wc.drewN nq = wd at *
          clear d0 d1 d2 d3 d4 k0 k1 k2 k3 k4
          go_wp2
          go_roundw
          case rel => exact ⟨i + 1, by go_num, by omega, hbe⟩
          case measure => simp [intOf]; omega
        have e0 := World.new_ne wr _ c0
        have e9 := World.new_ne wr _ ct
        go_region_held3 (fun w' => w'.cell? ⟨w5.heap.size, 0, none⟩ = some (.pointer (some ⟨tb, 0, none⟩)) ∧ w'.cell? ⟨gn, i * 5, none⟩ = some (.string (bstr r1)) ∧ w'.cell? ⟨gn, i * 5 + 1, none⟩ = some (.string (bstr k))) (first | with_reducible exact ⟨ct, c0, c1⟩ | go_keep)
          ((go_at_call 14; with_reducible refine (hF3 _ ?_).mono ?_; (· repeat (first | exact RowKit.Below.refl _ _ | refine RowKit.Below.drew ?_ | refine RowKit.Below.alloc ?_ (by simp) _)); rintro e wf ⟨rfl, hbf⟩; obtain ⟨X, hX⟩ : ∃ X, RowKit.Below wr.heap.size wr X ∧ RowKit.Below X.heap.size X wf := ⟨_, (by repeat (first | exact RowKit.Below.refl _ _ | refine RowKit.Below.drew ?_ | refine RowKit.Below.alloc ?_ (by simp) _)), hbf⟩; have dt := kcE hX.1 hX.2 ct; have d0 := kcE hX.1 hX.2 c0; have d1 := kcE hX.1 hX.2 c1; have e1 := World.new_ne wf _ d0; have e8 := World.new_ne wf _ dt; have hbz := below2 hX.1 hX.2; (first | (have b0 : Rz wf wr.heap.size := rz_of hbf; obtain ⟨z0, z1, z2, z3, z4, f0, f1, f2, f3, f4⟩ := b0.facts; have e5 : wr.heap.size < wf.heap.size := b0.lt; clear b0) | skip); clear hX))
        all_goals (
          go_wp2
          go_meet
          case rel => exact ⟨_, rfl, rfl, by first | exact CellAt.new _ _ _ _ _ _ _ | exact cell_set5 z0 z1 z2 z3 z4, by first | exact hbz.alloc hbz.size _ | exact below_set5 _ _ _ _ _ hbz (Nat.le_refl _)⟩)
      · have hlz : ¬ ((i : Int) < (N.length : Int)) := by omega
        have hk5 := HK4.out.below hbel
        have hd5 := (hbel.block _ (blk_lt HD4.out)).trans HD4.out
        have hzs := HZS.out
        have hsp := (hk5.be.block _ (by omega)).trans HSP.out
        obtain ⟨s0, s1, s2, s3, s4⟩ : wr.cell? ⟨w.heap.size, 0, none⟩ = some (.int .u8 (at_.row : Int)) ∧ wr.cell? ⟨w.heap.size, 1, none⟩ = some (.int .u8 (at_.col : Int)) ∧ wr.cell? ⟨w.heap.size, 2, none⟩ = some (.int .u8 (at_.ver : Int)) ∧ wr.cell? ⟨w.heap.size, 3, none⟩ = some (.bool at_.gone) ∧ wr.cell? ⟨w.heap.size, 4, none⟩ = some (.string (bstr at_.val)) := ⟨(Bl.cells_block hsp).1 0, (Bl.cells_block hsp).1 1, (Bl.cells_block hsp).1 2, (Bl.cells_block hsp).1 3, (Bl.cells_block hsp).1 4⟩
        obtain ⟨uA, huA⟩ : ∃ uA, uA = wr.alloc (.cells #[.int .u8 (at_.row : Int), .int .u8 (at_.col : Int), .int .u8 (at_.ver : Int), .bool at_.gone, .string (bstr at_.val)] 53) := ⟨_, rfl⟩
        have hbA : Below wr.heap.size wr uA := by rw [huA]; exact (Below.refl _ _).alloc (Nat.le_refl _) _
        have hsA : uA.heap[wr.heap.size]? = some (.cells #[.int .u8 (at_.row : Int), .int .u8 (at_.col : Int), .int .u8 (at_.ver : Int), .bool at_.gone, .string (bstr at_.val)] 53 (0, 0)) := by rw [huA]; exact heap_alloc_new wr _
        have hof := of11_any (some ⟨wr.heap.size, 0, none⟩) wr.heap.size 0 1 [at_] uA (fun _ => ⟨rfl, fun i hi => by
          match i, hi with
          | 0, _ => exact ⟨(Bl.cells_block hsA).1 0, (Bl.cells_block hsA).1 1, (Bl.cells_block hsA).1 2, (Bl.cells_block hsA).1 3, (Bl.cells_block hsA).1 4⟩, blk_lt hsA⟩) (fun x hx => by simp at hx; rw [hx]; exact ha)
        rw [ofL_one] at hof
        have hkA := hk5.below hbA
        have hdA := (hbA.block _ (blk_lt hd5)).trans hd5
        have HUA : Hid _ := huA
        clear hsA hbA hk5 hd5 hsp hget hqn hcn hNl HK4 HD4 hbel huA
        go_wp2_with fail
        gi_wp2_with fail
        rw [← HUA.out]
        refine ⟨trivial, (callsIn_wide.2 hof).mono ?_⟩
        rintro e uB ⟨v1, rfl, hown1, hbB⟩
        have hkB := hkA.below hbB
        have hdB := (hbB.block _ (blk_lt hdA)).trans hdA
        obtain ⟨q1, g1, cap1, rfl, hq1, hcap1⟩ := own_arg hown1
        obtain ⟨rfl, hRow1, hgl1⟩ := hq1 (by simp)
        have hA1 := hRow1 0 (by simp)
        have hrl : (spC at_).row.length = 3 := rfl
        have hcl : (spC at_).col.length = 2 := rfl
        clear hof hown1 hbB hq1 hRow1 hkA hdA HUA
        generalize spC at_ = sc at *
        obtain ⟨row, col, vv, gg, xx⟩ := sc
        obtain ⟨a0, a1, _, _, _⟩ := hA1
        simp only [List.getElem_cons_zero, Nat.zero_add, Nat.zero_mul] at a0 a1
        simp only at hrl hcl
        simp only [List.length_cons, List.length_nil, Nat.zero_add] at hcap1 ⊢
        have HKB : Hid _ := hkB
        have HDB : Hid _ := hdB
        clear hkB hdB hgl1 s0 s1 s2 s3 s4
        gi_wp2_with fail
        refine wpIn_wide.2 ?_
        go_cut [19, 20] from 126 (fun s19 s20 wx => ∃ P1 P2 : Nat, s19 = .pointer (some ⟨P1, 0, none⟩) ∧ s20 = .pointer (some ⟨P2, 0, none⟩) ∧ wx.heap[P1]? = some (.cells #[.string (bstr row)] 9 (0, 0)) ∧ wx.heap[P2]? = some (.cells #[.string (bstr col)] 9 (0, 0)) ∧ Below uB.heap.size uB wx)
        case rest =>
          obtain ⟨P1, P2, rfl, rfl, hp1, hp2, hbC⟩ := hcut
          have hkC := HKB.out.below hbC
          have hdC := (hbC.block _ (blk_lt HDB.out)).trans HDB.out
          clear a0 a1
          have hbD : Below wc.heap.size wc ((wc.alloc (.cells #[.bool false] 4)).alloc (.cells #[.bool true] 4)) := ((Below.refl _ _).alloc (Nat.le_refl _) _).alloc (by simp) _
          have hfo : ((wc.alloc (.cells #[.bool false] 4)).alloc (.cells #[.bool true] 4)).heap[wc.heap.size]? = some (.cells #[.bool false] 4 (0, 0)) := (Below.heap_alloc _ _ _ (by simp)).trans (heap_alloc_new wc _)
          have hfi : ((wc.alloc (.cells #[.bool false] 4)).alloc (.cells #[.bool true] 4)).heap[wc.heap.size + 1]? = some (.cells #[.bool true] 4 (0, 0)) := by
            have := heap_alloc_new (wc.alloc (.cells #[.bool false] 4)) (.cells #[.bool true] 4)
            rwa [World.size_alloc] at this
          have hkD := hkC.below hbD
          have hdD := (hbD.block _ (blk_lt hdC)).trans hdC
          have hp1D := (hbD.block _ (blk_lt hp1)).trans hp1
          have hp2D := (hbD.block _ (blk_lt hp2)).trans hp2
          have ct := hkD.fa.2
          have c1 := (Bl.cells_block hp1D).1 0
          have c2 := (Bl.cells_block hp2D).1 0
          have y1 := blk_lt hp1
          have y2 := blk_lt hp2
          have y3 := blk_lt hdC
          have y4 := blk_lt hkC.r
          have y5 := blk_lt hkC.i
          have y6 := blk_lt hkC.p
          have y7 := hkC.be.size
          have hfrom := fun W => TFrom_any (some ⟨tb, 0, none⟩) row col W (by omega) (by omega)
          have HCS : Hid _ := hkC
          clear hkC hdC hp1 hp2 hbC HKB HDB
          gi_wp2_with fail
          generalize (wc.alloc (.cells #[.bool false] 4)).alloc (.cells #[.bool true] 4) = uD at *
          refine ⟨trivial, (callsIn_wide.2 (hfrom uD)).mono ?_⟩
          rintro e uE ⟨b2, pb2, rfl, hX2, hB1, hB2, hbE⟩
          clear hfrom ct c1 c2
          gi_wp2_with fail
          refine wp_range2 (by omega) rfl (enters_of Tryz.func40 (by kernel_rfl) rfl) ?_
          intro R2 hR2
          have hbW : Below uE.heap.size uE ((uE.alloc (.deferred (some []))).alloc (.loop R2)) := ((Below.refl _ _).alloc (Nat.le_refl _) _).alloc (by simp) _
          have hWa : ((uE.alloc (.deferred (some []))).alloc (.loop R2)).heap[uE.heap.size + 1]? = some (.loop R2) := by
            have := World.alloc_heap_new (uE.alloc (.deferred (some []))) (.loop R2)
            rwa [World.size_alloc] at this
          have hWb : ((uE.alloc (.deferred (some []))).alloc (.loop R2)).heap[uE.heap.size]? = some (.deferred (some [])) := (Below.heap_alloc _ _ _ (by simp)).trans (World.alloc_heap_new uE _)
          obtain ⟨U1, hUU⟩ : ∃ U1, U1 = (uE.alloc (.deferred (some []))).alloc (.loop R2) := ⟨_, rfl⟩
          rw [← hUU] at hbW hWa hWb ⊢
          clear hUU
          have z0 := hbD.size
          have z1 := blk_lt hfi
          have z2 := hbE.size
          have hbDU := below2 hbE hbW
          have hu2 : BD (fun i => i < uE.heap.size ∧ i ≠ wc.heap.size ∧ i ≠ wc.heap.size + 1) (w.heap.size + 1) w2.heap.size w5.heap.size tb b2 pb2 (.slice q2 L.length cap2) vb vl := by
            have y8 := blk_lt HCS.out.t.t
            exact ⟨by omega, by omega, by omega, by omega, ⟨blk_lt hX2.t, by omega, by omega⟩, ⟨blk_lt hX2.p, by omega, by omega⟩, fun k hk => by have := (own_blk_lt HCS.out.o hk).1; omega, fun k hk => by have := (own_blk_lt HCS.out.t.rb hk).1; omega, fun k hk => by have := (own_blk_lt HCS.out.t.rl hk).1; omega⟩
          have hGB := HG.out
          obtain ⟨dv, is, hfd⟩ : ∃ (dv : Cl) (is : Bool), optC (fnd row col L) = dv ∧ (fnd row col L).isSome = is := ⟨_, _, rfl, rfl⟩
          have hgt2 : ∀ W, TB W tb vb vl Bs → Calls Tryz.prog 14 #[.pointer (some ⟨tb, 0, none⟩), .string (bstr row), .string (bstr col)] W fun e w' => e = .returned (.tuple #[.agg #[.string (bstr dv.row), .string (bstr dv.col), .int .u64 dv.ver, .bool dv.gone, .string (bstr dv.val)], .bool is]) ∧ Below W.heap.size W w' := fun W hT => by
            have h1 := flat_few (Bs := Bs) fun B hB => (HG.out.good B hB).2
            rw [HFL.out] at h1
            have h2 := HLEN.out
            refine (Get_any tb vb vl Bs row col W hT HG.out (by omega) (by have := flt_long HRM.out; omega) (by omega)).mono ?_
            rintro e w' ⟨o, rfl, hO, hb'⟩
            rw [get_math HG.out hO, HFL.out, hfd.1, hfd.2]
            exact ⟨rfl, hb'⟩
          obtain ⟨F, hF⟩ : ∃ F, F = (L.filter fun c => naP (plP c) (row, col)) := ⟨_, rfl⟩
          have hF0 : F = [] → is = false := fun h => by
            rw [hF] at h
            rw [← hfd.2, frm_none (p := (row, col)) h]
            rfl
          have hF1 : ∀ c0 l, F = c0 :: l → if c0.row = row ∧ c0.col = col then is = true ∧ dv = c0 else is = false := fun c0 l h => by
            rw [hF] at h
            have h3 := frm_first HOK.out (p := (row, col)) h
            by_cases hp : c0.row = row ∧ c0.col = col
            · rw [if_pos hp] at h3 ⊢
              rw [← hfd.2, ← hfd.1, h3]
              exact ⟨rfl, rfl⟩
            · rw [if_neg hp] at h3 ⊢
              rw [← hfd.2, h3]
              rfl
          have hF2 : ∀ c ∈ F, ls c.row row = false ∧ (c.row = row → ls c.col col = false) := fun c hc => by
            rw [hF] at hc
            exact na_ge (List.mem_filter.1 hc).2
          have hct := from1_tells b2 pb2 tb vb vl Bs row col HG.out (by have h1 := flat_few (Bs := Bs) fun B hB => (HG.out.good B hB).2; rw [HFL.out] at h1; have := HLEN.out; omega)
          rw [show frmL Bs (row, col) = F by rw [hF, ← HFL.out]; rfl] at hct
          have hJ0 : BL ws (w.heap.size + 1) w2.heap.size w5.heap.size tb P1 P2 wc.heap.size (wc.heap.size + 1) wb.heap.size uE.heap.size b2 pb2 (.slice q2 L.length cap2) vb vl R2 L Bs row col is (fun _ => False) 0 U1 := ⟨hkD.below hbDU, (hbDU.block _ (blk_lt hp1D)).trans hp1D, (hbDU.block _ (blk_lt hp2D)).trans hp2D, (hbDU.block _ (blk_lt hfo)).trans hfo, (hbDU.block _ (blk_lt hfi)).trans hfi, (hbDU.block _ (blk_lt hdD)).trans hdD, hWb, hWa, hX2.below hbW, fun _ h => h.elim⟩
          have hD2 : P1 < uE.heap.size ∧ P2 < uE.heap.size ∧ wc.heap.size + 1 < uE.heap.size ∧ wb.heap.size < uE.heap.size ∧ ws.heap.size ≤ uE.heap.size := by omega
          have hP : P1 < wc.heap.size ∧ P2 < wc.heap.size ∧ wb.heap.size < wc.heap.size ∧ w.heap.size + 1 < wc.heap.size ∧ ws.heap.size ≤ wc.heap.size := by omega
          clear hWa hWb hbW hX2 hbDU hkD hdD hp1D hp2D hfo hfi hB1 hB2 hbE hbD hF hfd y1 y2 y3 y4 y5 y6 y7
          have hte := hct (uE.heap.size + 1) U1 (BL ws (w.heap.size + 1) w2.heap.size w5.heap.size tb P1 P2 wc.heap.size (wc.heap.size + 1) wb.heap.size uE.heap.size b2 pb2 (.slice q2 L.length cap2) vb vl R2 L Bs row col is) (fun _ _ => False) (fun X j W W' h hk => h.abd HT0.out hu2 (fun i hi => hi.1) (by omega) hk) (fun X X' j W h hx => ⟨h.k, h.r, h.q, h.fo, h.fi, h.e, h.d, h.c, h.f, fun i hi => by
            rcases hx i hi with hi | hi
            · exact h.x i hi
            · have := blk_lt h.c; omega⟩) (fun X j W h => ⟨h.f, h.k.t⟩) (fun _ _ _ h => h.elim) hJ0 ?_
          · refine hte.mono ?_
            clear hte hct hJ0 hR2
            rintro e U2 ⟨⟨u, rfl⟩, ⟨X, hj⟩ | ⟨_, h⟩⟩
            case inr => exact h.elim
            refine ⟨⟨_, rfl⟩, Or.inl ⟨hj.c, ?_⟩⟩
            have hb3 : Below ws.heap.size ws (U2.putObj (uE.heap.size + 1) (.loop { R2 with state := .exhausted })) := Bl.below_put hj.k.be (by omega) _
            have hk3 : BS ws (U2.putObj (uE.heap.size + 1) (.loop { R2 with state := .exhausted })) (w.heap.size + 1) w2.heap.size w5.heap.size tb (.slice q2 L.length cap2) vb vl L Bs := hj.k.kept HT0.out hu2 (fun i hi => World.putObj_heap_other (by omega)) hb3
            have hr3 : (U2.putObj (uE.heap.size + 1) (.loop { R2 with state := .exhausted })).heap[P1]? = some (.cells #[.string (bstr row)] 9 (0, 0)) := (World.putObj_heap_other (by omega)).trans hj.r
            have hq3 : (U2.putObj (uE.heap.size + 1) (.loop { R2 with state := .exhausted })).heap[P2]? = some (.cells #[.string (bstr col)] 9 (0, 0)) := (World.putObj_heap_other (by omega)).trans hj.q
            have hfo3 : (U2.putObj (uE.heap.size + 1) (.loop { R2 with state := .exhausted })).heap[wc.heap.size]? = some (.cells #[.bool (fdB is F.length)] 4 (0, 0)) := (World.putObj_heap_other (by omega)).trans hj.fo
            have he3 : (U2.putObj (uE.heap.size + 1) (.loop { R2 with state := .exhausted })).heap[wb.heap.size]? = some (.deferred (some [])) := (World.putObj_heap_other (by omega)).trans hj.e
            have hd3 : (U2.putObj (uE.heap.size + 1) (.loop { R2 with state := .exhausted })).heap[uE.heap.size]? = some (.deferred (some [])) := (World.putObj_heap_other (by omega)).trans hj.d
            generalize U2.putObj (uE.heap.size + 1) (.loop { R2 with state := .exhausted }) = U3 at *
            have hgt3 := hgt2 U3 hk3.t
            have ct := hk3.fa.2
            have c1 := (Bl.cells_block hr3).1 0
            have c2 := (Bl.cells_block hq3).1 0
            have hff : is = true → fdB is F.length = true := fun h => by
              cases hn : F.length with
              | zero => rw [hF0 (List.eq_nil_of_length_eq_zero hn)] at h; cases h
              | succ n => exact h
            clear hj hb3
            gi_wp2_with fail
            refine ⟨trivial, (callsIn_wide.2 hgt3).mono ?_⟩
            rintro e U4 ⟨rfl, hb4⟩
            clear hgt3 ct c1 c2
            have hk4 := hk3.below hb4
            have hfo4 := (hb4.block _ (blk_lt hfo3)).trans hfo3
            have he4 := (hb4.block _ (blk_lt he3)).trans he3
            have hd4 := (hb4.block _ (blk_lt hd3)).trans hd3
            have hb5 : Below U4.heap.size U4 (U4.alloc (.cells #[.string (bstr dv.row), .string (bstr dv.col), .int .u64 dv.ver, .bool dv.gone, .string (bstr dv.val)] 39)) := (Below.refl _ _).alloc (Nat.le_refl _) _
            have hk5 := hk4.below hb5
            have hfo5 := (hb5.block _ (blk_lt hfo4)).trans hfo4
            have he5 := (hb5.block _ (blk_lt he4)).trans he4
            have hd5 := (hb5.block _ (blk_lt hd4)).trans hd4
            have c5 : (U4.alloc (.cells #[.string (bstr dv.row), .string (bstr dv.col), .int .u64 dv.ver, .bool dv.gone, .string (bstr dv.val)] 39)).cell? ⟨wc.heap.size, 0, none⟩ = some (.bool (fdB is F.length)) := (Bl.cells_block hfo5).1 0
            have hwk := fun W h => works11_any W (Tabs.below (w := ws) HT0.out h)
            have hok : Hid (is = true → fdB is F.length = true) := hff
            clear hff hk4 hfo4 he4 hd4 hb4 hk3 hr3 hq3 hfo3 he3 hd3 hfo5
            cases is with
            | false =>
              clear c5 hok
              gi_wp2_with fail
              refine ⟨trivial, (callsIn_wide.2 (hwk _ hk5.be)).mono ?_⟩
              rintro e U6 ⟨rfl, hb6⟩
              have hk6 := hk5.below hb6
              have he6 := (hb6.block _ (blk_lt he5)).trans he5
              have hd6 := (hb6.block _ (blk_lt hd5)).trans hd5
              have d1 : U6.cell? ⟨w.heap.size + 1, 0, none⟩ = some (.bool false) := (Bl.cells_block hk6.r).1 0
              have d2 : U6.frozen? ⟨w.heap.size + 1, 0, none⟩ = false := (Bl.cells_block hk6.r).2 0
              have hr7 := heap_set_same hk6.r (o := 0) (.bool true)
              have he7 : (U6.setCell ⟨w.heap.size + 1, 0, none⟩ (.bool true)).heap[wb.heap.size]? = some (.deferred (some [])) := (heap_set_other _ (by omega)).trans he6
              have hd7 : (U6.setCell ⟨w.heap.size + 1, 0, none⟩ (.bool true)).heap[uE.heap.size]? = some (.deferred (some [])) := (heap_set_other _ (by omega)).trans hd6
              have hzs2 := HZS.out
              have hb7 : Below ws.heap.size ws (U6.setCell ⟨w.heap.size + 1, 0, none⟩ (.bool true)) := Bl.below_set0 hk6.be (by omega) _
              clear hk5 he5 hd5 hb6 hk6 he6 hd6 hb5
              gi_wp2
              generalize U6.setCell ⟨w.heap.size + 1, 0, none⟩ (.bool true) = U7 at *
              have he8 : (U7.putObj uE.heap.size (.deferred none)).heap[wb.heap.size]? = some (.deferred (some [])) := (World.putObj_heap_other (by omega)).trans he7
              have hr8 : ((U7.putObj uE.heap.size (.deferred none)).putObj wb.heap.size (.deferred none)).heap[w.heap.size + 1]? = _ := (World.putObj_heap_other (by omega)).trans ((World.putObj_heap_other (by omega)).trans hr7)
              have d5 : ((U7.putObj uE.heap.size (.deferred none)).putObj wb.heap.size (.deferred none)).cell? ⟨w.heap.size + 1, 0, none⟩ = some (.bool true) := (Bl.cells_block hr8).1 0
              refine ⟨by simp, .inl ⟨_, _, rfl, run_takeDeferred hd7, ?_⟩⟩
              refine ⟨by simp, .inl ⟨_, _, rfl, run_takeDeferred he8, ?_⟩⟩
              exact ⟨.bool true, by simp [results, Tryz.results5, go_sem, d5], rfl, below2 HBW.out (Bl.below_put (Bl.below_put hb7 (by omega) _) (by omega) _)⟩
            | true =>
              have hff := hok.out rfl
              rw [hff] at c5
              clear hok hff
              gi_wp2_with fail
              refine ⟨trivial, (callsIn_wide.2 (hwk _ hk5.be)).mono ?_⟩
              rintro e U6 ⟨rfl, hb6⟩
              have hk6 := hk5.below hb6
              have he6 := (hb6.block _ (blk_lt he5)).trans he5
              have hd6 := (hb6.block _ (blk_lt hd5)).trans hd5
              have d1 : U6.cell? ⟨w.heap.size + 1, 0, none⟩ = some (.bool false) := (Bl.cells_block hk6.r).1 0
              have d2 : U6.frozen? ⟨w.heap.size + 1, 0, none⟩ = false := (Bl.cells_block hk6.r).2 0
              have hr7 := heap_set_same hk6.r (o := 0) (.bool true)
              have he7 : (U6.setCell ⟨w.heap.size + 1, 0, none⟩ (.bool true)).heap[wb.heap.size]? = some (.deferred (some [])) := (heap_set_other _ (by omega)).trans he6
              have hd7 : (U6.setCell ⟨w.heap.size + 1, 0, none⟩ (.bool true)).heap[uE.heap.size]? = some (.deferred (some [])) := (heap_set_other _ (by omega)).trans hd6
              have hzs2 := HZS.out
              have hb7 : Below ws.heap.size ws (U6.setCell ⟨w.heap.size + 1, 0, none⟩ (.bool true)) := Bl.below_set0 hk6.be (by omega) _
              clear hk5 he5 hd5 hb6 hk6 he6 hd6 hb5
              gi_wp2
              generalize U6.setCell ⟨w.heap.size + 1, 0, none⟩ (.bool true) = U7 at *
              have he8 : (U7.putObj uE.heap.size (.deferred none)).heap[wb.heap.size]? = some (.deferred (some [])) := (World.putObj_heap_other (by omega)).trans he7
              have hr8 : ((U7.putObj uE.heap.size (.deferred none)).putObj wb.heap.size (.deferred none)).heap[w.heap.size + 1]? = _ := (World.putObj_heap_other (by omega)).trans ((World.putObj_heap_other (by omega)).trans hr7)
              have d5 : ((U7.putObj uE.heap.size (.deferred none)).putObj wb.heap.size (.deferred none)).cell? ⟨w.heap.size + 1, 0, none⟩ = some (.bool true) := (Bl.cells_block hr8).1 0
              refine ⟨by simp, .inl ⟨_, _, rfl, run_takeDeferred hd7, ?_⟩⟩
              refine ⟨by simp, .inl ⟨_, _, rfl, run_takeDeferred he8, ?_⟩⟩
              exact ⟨.bool true, by simp [results, Tryz.results5, go_sem, d5], rfl, below2 HBW.out (Bl.below_put (Bl.below_put hb7 (by omega) _) (by omega) _)⟩
          · clear hct hJ0 HCK HWR HRM HBS ha hbe7 HG HFL HOK HFIT HLEN
            intro m X j W c hc hXl hj
            have key : ∀ RP : Ending → World → Prop, Hid (∀ W', BL ws (w.heap.size + 1) w2.heap.size w5.heap.size tb P1 P2 wc.heap.size (wc.heap.size + 1) wb.heap.size uE.heap.size b2 pb2 (.slice q2 L.length cap2) vb vl R2 L Bs row col is X (j + 1) W' → (∀ i, X i → W'.heap[i]? = W.heap[i]?) → RP (.returned (.bool true)) W') → YieldAt Fence.wide m Tryz.prog (uE.heap.size + 1) #[clV c] W RP := by
              intro RP hT
              have eRR : ({ R2 with state := .ready, pending := none } : Loop) = R2 := by
                have e1 := hR2.s
                have e2 := hR2.e
                cases R2
                simp_all
              have hge := hF2 c (List.mem_of_getElem? hc)
              have hj0 : j = 0 → if c.row = row ∧ c.col = col then is = true ∧ dv = c else is = false := fun h => by
                subst h
                obtain ⟨l, hl⟩ : ∃ l, F = c :: l := by
                  cases F with
                  | nil => cases hc
                  | cons a l => simp at hc; subst hc; exact ⟨l, rfl⟩
                exact hF1 c l hl
              obtain ⟨cr, ck, cv, cg, cx⟩ := c
              obtain ⟨dr, dk, dw, dg, dx⟩ := dv
              simp only at hge hj0
              have hb : Below W.heap.size W (W.alloc (.cells #[.string (bstr cr), .string (bstr ck), .int .u64 cv, .bool cg, .string (bstr cx)] 39)) := (Below.refl _ _).alloc (Nat.le_refl _) _
              have hcA := heap_alloc_new W (.cells #[.string (bstr cr), .string (bstr ck), .int .u64 cv, .bool cg, .string (bstr cx)] 39)
              have hjr := hj.c
              have HRR : Hid _ := hR2
              have HJ : Hid _ := hj
              have HXL : Hid _ := hXl
              refine yield_round2 hjr hR2 rfl ?_
              clear hR2 hj hc hXl hF0 hF1 hF2
              gi_wp2
              generalize hWa : W.alloc (.cells #[.string (bstr cr), .string (bstr ck), .int .u64 cv, .bool cg, .string (bstr cx)] 39) = Wa at *
              have h1a := (hb.block _ (blk_lt hjr)).trans hjr
              refine ⟨_, run_beginRound h1a HRR.out.s, ?_⟩
              have hlt := blk_lt hjr
              have hne : W.heap.size ≠ uE.heap.size + 1 := by omega
              have hWk : ∀ i, i < W.heap.size → i ≠ uE.heap.size + 1 → (Wa.putObj (uE.heap.size + 1) (.loop { R2 with state := .busy })).heap[i]? = W.heap[i]? := fun i hi h2 => (World.putObj_heap_other h2).trans (hb.block i hi)
              have hrB : (Wa.putObj (uE.heap.size + 1) (.loop { R2 with state := .busy })).heap[uE.heap.size + 1]? = some (.loop { R2 with state := .busy }) := World.putObj_heap_same (blk_lt h1a)
              have hcB : (Wa.putObj (uE.heap.size + 1) (.loop { R2 with state := .busy })).heap[W.heap.size]? = _ := (World.putObj_heap_other hne).trans hcA
              have hbeB : Below ws.heap.size ws (Wa.putObj (uE.heap.size + 1) (.loop { R2 with state := .busy })) := Bl.below_put (below2 HJ.out.k.be hb) (by omega) _
              generalize Wa.putObj (uE.heap.size + 1) (.loop { R2 with state := .busy }) = Wb at *
              have hkB : BS ws Wb (w.heap.size + 1) w2.heap.size w5.heap.size tb (.slice q2 L.length cap2) vb vl L Bs := HJ.out.k.kept HT0.out hu2 (fun i hi => hWk i (by omega) (by omega)) hbeB
              have hrP := (hWk P1 (by omega) (by omega)).trans HJ.out.r
              have hqP := (hWk P2 (by omega) (by omega)).trans HJ.out.q
              have hfoB := (hWk wc.heap.size (by omega) (by omega)).trans HJ.out.fo
              have hfiB := (hWk (wc.heap.size + 1) (by omega) (by omega)).trans HJ.out.fi
              have ct := hkB.fa.2
              have c1 := (Bl.cells_block hrP).1 0
              have c2 := (Bl.cells_block hqP).1 0
              have hg4 := hgt2 Wb hkB.t
              clear hWa hb hcA h1a
              gi_wp2_with fail
              refine ⟨trivial, fun h => (by cases h), (CallsIn.inRound _ (callsIn_wide.2 hg4)).mono ?_⟩
              rintro e Wd ⟨rfl, hbd⟩
              clear ct c1 c2 hg4 hgt2
              have hbe : Below Wb.heap.size Wb (Wd.alloc (.cells #[.string (bstr dr), .string (bstr dk), .int .u64 dw, .bool dg, .string (bstr dx)] 39)) := hbd.alloc hbd.size _
              have hdD := heap_alloc_new Wd (.cells #[.string (bstr dr), .string (bstr dk), .int .u64 dw, .bool dg, .string (bstr dx)] 39)
              have hcD := (hbe.block _ (blk_lt hcB)).trans hcB
              have hrD := (hbe.block _ (blk_lt hrP)).trans hrP
              have hqD := (hbe.block _ (blk_lt hqP)).trans hqP
              have hfoD := (hbe.block _ (blk_lt hfoB)).trans hfoB
              have hfiD := (hbe.block _ (blk_lt hfiB)).trans hfiB
              have hlD := (hbe.block _ (blk_lt hrB)).trans hrB
              have hbeD := below2 hbeB hbe
              have x0 := blk_lt hcB
              have x1 := hbd.size
              have hf6 : ((Wd.alloc (.cells #[.string (bstr dr), .string (bstr dk), .int .u64 dw, .bool dg, .string (bstr dx)] 39)).setCell ⟨wc.heap.size + 1, 0, none⟩ (.bool false)).heap[wc.heap.size]? = some (.cells #[.bool (fdB is j)] 4 (0, 0)) := (heap_set_other _ (by omega)).trans hfoD
              have hg6 := heap_set_same hfiD (o := 0) (.bool false)
              have hf7 := heap_set_same hf6 (o := 0) (.bool is)
              have hg7 : (((Wd.alloc (.cells #[.string (bstr dr), .string (bstr dk), .int .u64 dw, .bool dg, .string (bstr dx)] 39)).setCell ⟨wc.heap.size + 1, 0, none⟩ (.bool false)).setCell ⟨wc.heap.size, 0, none⟩ (.bool is)).heap[wc.heap.size + 1]? = _ := (heap_set_other _ (by omega)).trans hg6
              have hall : ∀ i, i ≠ wc.heap.size → i ≠ wc.heap.size + 1 → (((Wd.alloc (.cells #[.string (bstr dr), .string (bstr dk), .int .u64 dw, .bool dg, .string (bstr dx)] 39)).setCell ⟨wc.heap.size + 1, 0, none⟩ (.bool false)).setCell ⟨wc.heap.size, 0, none⟩ (.bool is)).heap[i]? = (Wd.alloc (.cells #[.string (bstr dr), .string (bstr dk), .int .u64 dw, .bool dg, .string (bstr dx)] 39)).heap[i]? := fun i h1 h2 => (heap_set_other _ h1).trans (heap_set_other _ h2)
              obtain ⟨e0, e1, e2, e3, e4⟩ : (Wd.alloc (.cells #[.string (bstr dr), .string (bstr dk), .int .u64 dw, .bool dg, .string (bstr dx)] 39)).cell? ⟨W.heap.size, 0, none⟩ = some (.string (bstr cr)) ∧ (Wd.alloc (.cells #[.string (bstr dr), .string (bstr dk), .int .u64 dw, .bool dg, .string (bstr dx)] 39)).cell? ⟨W.heap.size, 1, none⟩ = some (.string (bstr ck)) ∧ (Wd.alloc (.cells #[.string (bstr dr), .string (bstr dk), .int .u64 dw, .bool dg, .string (bstr dx)] 39)).cell? ⟨W.heap.size, 2, none⟩ = some (.int .u64 cv) ∧ (Wd.alloc (.cells #[.string (bstr dr), .string (bstr dk), .int .u64 dw, .bool dg, .string (bstr dx)] 39)).cell? ⟨W.heap.size, 3, none⟩ = some (.bool cg) ∧ (Wd.alloc (.cells #[.string (bstr dr), .string (bstr dk), .int .u64 dw, .bool dg, .string (bstr dx)] 39)).cell? ⟨W.heap.size, 4, none⟩ = some (.string (bstr cx)) := ⟨(Bl.cells_block hcD).1 0, (Bl.cells_block hcD).1 1, (Bl.cells_block hcD).1 2, (Bl.cells_block hcD).1 3, (Bl.cells_block hcD).1 4⟩
              obtain ⟨f0, f1, f2, f3, f4⟩ : (Wd.alloc (.cells #[.string (bstr dr), .string (bstr dk), .int .u64 dw, .bool dg, .string (bstr dx)] 39)).cell? ⟨Wd.heap.size, 0, none⟩ = some (.string (bstr dr)) ∧ (Wd.alloc (.cells #[.string (bstr dr), .string (bstr dk), .int .u64 dw, .bool dg, .string (bstr dx)] 39)).cell? ⟨Wd.heap.size, 1, none⟩ = some (.string (bstr dk)) ∧ (Wd.alloc (.cells #[.string (bstr dr), .string (bstr dk), .int .u64 dw, .bool dg, .string (bstr dx)] 39)).cell? ⟨Wd.heap.size, 2, none⟩ = some (.int .u64 dw) ∧ (Wd.alloc (.cells #[.string (bstr dr), .string (bstr dk), .int .u64 dw, .bool dg, .string (bstr dx)] 39)).cell? ⟨Wd.heap.size, 3, none⟩ = some (.bool dg) ∧ (Wd.alloc (.cells #[.string (bstr dr), .string (bstr dk), .int .u64 dw, .bool dg, .string (bstr dx)] 39)).cell? ⟨Wd.heap.size, 4, none⟩ = some (.string (bstr dx)) := ⟨(Bl.cells_block hdD).1 0, (Bl.cells_block hdD).1 1, (Bl.cells_block hdD).1 2, (Bl.cells_block hdD).1 3, (Bl.cells_block hdD).1 4⟩
              have p1 : (Wd.alloc (.cells #[.string (bstr dr), .string (bstr dk), .int .u64 dw, .bool dg, .string (bstr dx)] 39)).cell? ⟨P1, 0, none⟩ = some (.string (bstr row)) := (Bl.cells_block hrD).1 0
              have p2 : (Wd.alloc (.cells #[.string (bstr dr), .string (bstr dk), .int .u64 dw, .bool dg, .string (bstr dx)] 39)).cell? ⟨P2, 0, none⟩ = some (.string (bstr col)) := (Bl.cells_block hqD).1 0
              have g0 : (Wd.alloc (.cells #[.string (bstr dr), .string (bstr dk), .int .u64 dw, .bool dg, .string (bstr dx)] 39)).cell? ⟨wc.heap.size + 1, 0, none⟩ = some (.bool (fiB j)) := (Bl.cells_block hfiD).1 0
              have g1 : (Wd.alloc (.cells #[.string (bstr dr), .string (bstr dk), .int .u64 dw, .bool dg, .string (bstr dx)] 39)).frozen? ⟨wc.heap.size + 1, 0, none⟩ = false := (Bl.cells_block hfiD).2 0
              have o0 : ((Wd.alloc (.cells #[.string (bstr dr), .string (bstr dk), .int .u64 dw, .bool dg, .string (bstr dx)] 39)).setCell ⟨wc.heap.size + 1, 0, none⟩ (.bool false)).cell? ⟨wc.heap.size, 0, none⟩ = some (.bool (fdB is j)) := (Bl.cells_block hf6).1 0
              have o1 : ((Wd.alloc (.cells #[.string (bstr dr), .string (bstr dk), .int .u64 dw, .bool dg, .string (bstr dx)] 39)).setCell ⟨wc.heap.size + 1, 0, none⟩ (.bool false)).frozen? ⟨wc.heap.size, 0, none⟩ = false := (Bl.cells_block hf6).2 0
              have hr7 := (hall P1 (by omega) (by omega)).trans hrD
              have hq7 := (hall P2 (by omega) (by omega)).trans hqD
              have hc7 := (hall W.heap.size (by omega) (by omega)).trans hcD
              have s1 : (((Wd.alloc (.cells #[.string (bstr dr), .string (bstr dk), .int .u64 dw, .bool dg, .string (bstr dx)] 39)).setCell ⟨wc.heap.size + 1, 0, none⟩ (.bool false)).setCell ⟨wc.heap.size, 0, none⟩ (.bool is)).cell? ⟨P1, 0, none⟩ = some (.string (bstr row)) := (Bl.cells_block hr7).1 0
              have s2 : (((Wd.alloc (.cells #[.string (bstr dr), .string (bstr dk), .int .u64 dw, .bool dg, .string (bstr dx)] 39)).setCell ⟨wc.heap.size + 1, 0, none⟩ (.bool false)).setCell ⟨wc.heap.size, 0, none⟩ (.bool is)).cell? ⟨P2, 0, none⟩ = some (.string (bstr col)) := (Bl.cells_block hq7).1 0
              have s3 : (((Wd.alloc (.cells #[.string (bstr dr), .string (bstr dk), .int .u64 dw, .bool dg, .string (bstr dx)] 39)).setCell ⟨wc.heap.size + 1, 0, none⟩ (.bool false)).setCell ⟨wc.heap.size, 0, none⟩ (.bool is)).cell? ⟨W.heap.size, 0, none⟩ = some (.string (bstr cr)) := (Bl.cells_block hc7).1 0
              have s4 : (((Wd.alloc (.cells #[.string (bstr dr), .string (bstr dk), .int .u64 dw, .bool dg, .string (bstr dx)] 39)).setCell ⟨wc.heap.size + 1, 0, none⟩ (.bool false)).setCell ⟨wc.heap.size, 0, none⟩ (.bool is)).cell? ⟨W.heap.size, 1, none⟩ = some (.string (bstr ck)) := (Bl.cells_block hc7).1 1
              have hl7 := (hall (uE.heap.size + 1) (by omega) (by omega)).trans hlD
              have hb7 : Below ws.heap.size ws ((((Wd.alloc (.cells #[.string (bstr dr), .string (bstr dk), .int .u64 dw, .bool dg, .string (bstr dx)] 39)).setCell ⟨wc.heap.size + 1, 0, none⟩ (.bool false)).setCell ⟨wc.heap.size, 0, none⟩ (.bool is)).putObj (uE.heap.size + 1) (.loop R2)) := Bl.below_put (Bl.below_set0 (Bl.below_set0 hbeD (by omega) _) (by omega) _) (by omega) _
              have hke : ∀ i, i < W.heap.size → i ≠ uE.heap.size + 1 → i ≠ wc.heap.size → i ≠ wc.heap.size + 1 → ((((Wd.alloc (.cells #[.string (bstr dr), .string (bstr dk), .int .u64 dw, .bool dg, .string (bstr dx)] 39)).setCell ⟨wc.heap.size + 1, 0, none⟩ (.bool false)).setCell ⟨wc.heap.size, 0, none⟩ (.bool is)).putObj (uE.heap.size + 1) (.loop R2)).heap[i]? = W.heap[i]? := fun i h0 h1 h2 h3 => (World.putObj_heap_other h1).trans ((hall i h2 h3).trans ((hbe.block i (by omega)).trans (hWk i h0 h1)))
              have HCL : Hid (RP (.returned (.bool true)) ((((Wd.alloc (.cells #[.string (bstr dr), .string (bstr dk), .int .u64 dw, .bool dg, .string (bstr dx)] 39)).setCell ⟨wc.heap.size + 1, 0, none⟩ (.bool false)).setCell ⟨wc.heap.size, 0, none⟩ (.bool is)).putObj (uE.heap.size + 1) (.loop R2))) := hT.out _ (HJ.out.kept HT0.out hu2 (fun i hi => hke i (by rcases hi with hi | hi | hi | hi | hi <;> omega) (by rcases hi with hi | hi | hi | hi | hi <;> omega) (by rcases hi with hi | hi | hi | hi | hi <;> omega) (by rcases hi with hi | hi | hi | hi | hi <;> omega)) hb7 (j + 1) ((World.putObj_heap_other (by omega)).trans hf7) ((World.putObj_heap_other (by omega)).trans hg7) (World.putObj_heap_same (blk_lt hl7))) (fun i hi => hke i (HXL.out i hi).2 (by have := HJ.out.x i hi; omega) (by have := HJ.out.x i hi; omega) (by have := HJ.out.x i hi; omega))
              have HC7 : Hid _ := hl7
              have hls := hge.1
              have hle := hge.2
              clear hbe hdD hcD hrD hqD hfoD hfiD hlD hbeD hf6 hg6 hf7 hg7 hall hr7 hq7 hc7 hl7 hb7 hke hcB hrP hqP hfoB hfiB hrB hWk hbeB hkB hbd hge x0 x1 hlt hne z0 z1 z2 hD2 hP hjr
              rcases j with _ | j
              · have g0 : (Wd.alloc (.cells #[.string (bstr dr), .string (bstr dk), .int .u64 dw, .bool dg, .string (bstr dx)] 39)).cell? ⟨wc.heap.size + 1, 0, none⟩ = some (.bool true) := g0
                have o0 : ((Wd.alloc (.cells #[.string (bstr dr), .string (bstr dk), .int .u64 dw, .bool dg, .string (bstr dx)] 39)).setCell ⟨wc.heap.size + 1, 0, none⟩ (.bool false)).cell? ⟨wc.heap.size, 0, none⟩ = some (.bool false) := o0
                have hj0 := hj0 rfl
                by_cases hp : cr = row ∧ ck = col
                · rw [if_pos hp] at hj0
                  obtain ⟨rfl, hdv⟩ := hj0
                  obtain ⟨rfl, rfl⟩ := hp
                  cases hdv
                  have hle := hle rfl
                  have heq := eqC_self ⟨cr, ck, cv, cg, cx⟩
                  gi_wp2
                  refine ⟨_, _, run_endRound (r := { R2 with state := .busy }) none HC7.out, ?_⟩
                  show RP _ (World.putObj _ _ (Obj.loop { R2 with state := .ready, pending := none }))
                  rw [eRR]
                  exact HCL.out
                · rw [if_neg hp] at hj0
                  subst hj0
                  by_cases hcr : cr = row
                  · subst hcr
                    have hle := hle rfl
                    have hck : ¬ ck = col := fun h => hp ⟨rfl, h⟩
                    have hcb : (ck == col) = false := by simpa using hck
                    clear hp hck
                    gi_wp2
                    refine ⟨_, _, run_endRound (r := { R2 with state := .busy }) none HC7.out, ?_⟩
                    show RP _ (World.putObj _ _ (Obj.loop { R2 with state := .ready, pending := none }))
                    rw [eRR]
                    exact HCL.out
                  · have hcb : (cr == row) = false := by simpa using hcr
                    clear hp hle hcr
                    gi_wp2
                    refine ⟨_, _, run_endRound (r := { R2 with state := .busy }) none HC7.out, ?_⟩
                    show RP _ (World.putObj _ _ (Obj.loop { R2 with state := .ready, pending := none }))
                    rw [eRR]
                    exact HCL.out
              · have g0 : (Wd.alloc (.cells #[.string (bstr dr), .string (bstr dk), .int .u64 dw, .bool dg, .string (bstr dx)] 39)).cell? ⟨wc.heap.size + 1, 0, none⟩ = some (.bool false) := g0
                have o0 : ((Wd.alloc (.cells #[.string (bstr dr), .string (bstr dk), .int .u64 dw, .bool dg, .string (bstr dx)] 39)).setCell ⟨wc.heap.size + 1, 0, none⟩ (.bool false)).cell? ⟨wc.heap.size, 0, none⟩ = some (.bool is) := o0
                clear hj0
                by_cases hcr : cr = row
                · subst hcr
                  have hle := hle rfl
                  cases is
                  · skip
                    gi_wp2
                    refine ⟨_, _, run_endRound (r := { R2 with state := .busy }) none HC7.out, ?_⟩
                    show RP _ (World.putObj _ _ (Obj.loop { R2 with state := .ready, pending := none }))
                    rw [eRR]
                    exact HCL.out
                  · skip
                    gi_wp2
                    refine ⟨_, _, run_endRound (r := { R2 with state := .busy }) none HC7.out, ?_⟩
                    show RP _ (World.putObj _ _ (Obj.loop { R2 with state := .ready, pending := none }))
                    rw [eRR]
                    exact HCL.out
                · have hcb : (cr == row) = false := by simpa using hcr
                  clear hle hcr
                  cases is
                  · skip
                    gi_wp2
                    refine ⟨_, _, run_endRound (r := { R2 with state := .busy }) none HC7.out, ?_⟩
                    show RP _ (World.putObj _ _ (Obj.loop { R2 with state := .ready, pending := none }))
                    rw [eRR]
                    exact HCL.out
                  · skip
                    gi_wp2
                    refine ⟨_, _, run_endRound (r := { R2 with state := .busy }) none HC7.out, ?_⟩
                    show RP _ (World.putObj _ _ (Obj.loop { R2 with state := .ready, pending := none }))
                    rw [eRR]
                    exact HCL.out
            exact key _ (fun W' h1 h2 => Or.inl ⟨rfl, h1, h2⟩)
        have hg1 : g1 < uB.heap.size := block_lt_of_cell a0
        have hg2 : g1 ≠ uB.heap.size := by omega
        have hg3 : g1 ≠ uB.heap.size + 1 := by omega
        go_region
        all_goals (
          go_wp2
          go_meet
          case rel => first | exact ⟨_, _, rfl, rfl, (box2 uB row col).1, (box2 uB row col).2.1, (box2 uB row col).2.2⟩ | exact ⟨_, _, rfl, rfl, (box2 uB col row).2.1, (box2 uB col row).1, (box2 uB col row).2.2⟩)
  · clear hct hJ0 HCK HWR HRM HBS ha hbe7
    intro m X j W c hc hXl hj
    have key : ∀ RP : Ending → World → Prop, Hid (∀ W', BJ ws (w.heap.size + 1) w2.heap.size w5.heap.size tb Wc.heap.size wb.heap.size b pb (.slice q2 L.length cap2) vb vl RR L Bs X (j + 1) W' → (∀ i, X i → W'.heap[i]? = W.heap[i]?) → RP (.returned (.bool true)) W') → YieldAt Fence.wide m Tryz.prog (wb.heap.size + 1) #[clV c] W RP := by
      intro RP hT
      have eRR : ({ RR with state := .ready, pending := none } : Loop) = RR := by
        have e1 := hRR.s
        have e2 := hRR.e
        cases RR
        simp_all
      have hjl : j < L.length := (List.getElem?_eq_some_iff.1 hc).1
      have hjc : L[j] = c := (List.getElem?_eq_some_iff.1 hc).2
      obtain ⟨cr, ck, cv, cg, cx⟩ := c
      have hb : Below W.heap.size W (W.alloc (.cells #[.string (bstr cr), .string (bstr ck), .int .u64 cv, .bool cg, .string (bstr cx)] 39)) := (Below.refl _ _).alloc (Nat.le_refl _) _
      have hcA := heap_alloc_new W (.cells #[.string (bstr cr), .string (bstr ck), .int .u64 cv, .bool cg, .string (bstr cx)] 39)
      have hjr := hj.c
      have HRR : Hid _ := hRR
      have HJ : Hid _ := hj
      have HJC : Hid _ := hjc
      have HXL : Hid _ := hXl
      refine yield_round2 hjr hRR rfl ?_
      clear hRR hj hjc hc hXl
      gi_wp2
      generalize hWa : W.alloc (.cells #[.string (bstr cr), .string (bstr ck), .int .u64 cv, .bool cg, .string (bstr cx)] 39) = Wa at *
      have h1a := (hb.block _ (blk_lt hjr)).trans hjr
      refine ⟨_, run_beginRound h1a HRR.out.s, ?_⟩
      have hlt := blk_lt hjr
      have hne : W.heap.size ≠ wb.heap.size + 1 := by omega
      have hWk : ∀ i, i < W.heap.size → i ≠ wb.heap.size + 1 → (Wa.putObj (wb.heap.size + 1) (.loop { RR with state := .busy })).heap[i]? = W.heap[i]? := fun i hi h2 => (World.putObj_heap_other h2).trans (hb.block i hi)
      have hrB : (Wa.putObj (wb.heap.size + 1) (.loop { RR with state := .busy })).heap[wb.heap.size + 1]? = some (.loop { RR with state := .busy }) := World.putObj_heap_same (blk_lt h1a)
      have hcB : (Wa.putObj (wb.heap.size + 1) (.loop { RR with state := .busy })).heap[W.heap.size]? = _ := (World.putObj_heap_other hne).trans hcA
      have hbeB : Below ws.heap.size ws (Wa.putObj (wb.heap.size + 1) (.loop { RR with state := .busy })) := Bl.below_put (below2 HJ.out.k.be hb) (by omega) _
      generalize Wa.putObj (wb.heap.size + 1) (.loop { RR with state := .busy }) = Wb at *
      have hkB : BS ws Wb (w.heap.size + 1) w2.heap.size w5.heap.size tb (.slice q2 L.length cap2) vb vl L Bs := HJ.out.k.kept HT0.out hu (fun i hi => hWk i (by omega) (by omega)) hbeB
      have hnB := (hWk Wc.heap.size (by omega) (by omega)).trans HJ.out.n
      have hLne : L ≠ [] := by intro e; rw [e] at hjl; cases hjl
      obtain ⟨g1, cap1, hv, hg1, hgl1, hlc, hmx, hcr, hfz⟩ := own_crow hkB.o hLne
      cases hv
      have hA := hcr j hjl
      rw [Nat.zero_add, HJC.out] at hA
      obtain ⟨a0, a1, a2, a3, a4⟩ := hA
      simp only at a0 a1 a2 a3 a4
      have i0 := hkB.fa.1
      have n0 : Wb.cell? ⟨Wc.heap.size, 0, none⟩ = some (.int .i64 (j : Int)) := (Bl.cells_block hnB).1 0
      obtain ⟨e0, e1, e2, e3, e4⟩ : Wb.cell? ⟨W.heap.size, 0, none⟩ = some (.string (bstr cr)) ∧ Wb.cell? ⟨W.heap.size, 1, none⟩ = some (.string (bstr ck)) ∧ Wb.cell? ⟨W.heap.size, 2, none⟩ = some (.int .u64 cv) ∧ Wb.cell? ⟨W.heap.size, 3, none⟩ = some (.bool cg) ∧ Wb.cell? ⟨W.heap.size, 4, none⟩ = some (.string (bstr cx)) := ⟨(Bl.cells_block hcB).1 0, (Bl.cells_block hcB).1 1, (Bl.cells_block hcB).1 2, (Bl.cells_block hcB).1 3, (Bl.cells_block hcB).1 4⟩
      have hge : decide ((L.length : Int) ≤ (j : Int)) = false := by simp; omega
      have hjI : (j : Int) < (L.length : Int) := by omega
      have hjn0 : ¬ L.length ≤ j := by omega
      have hjd2 : decide (L.length ≤ j) = false := by simpa using hjl
      have heq : eqC ⟨cr, ck, cv, cg, cx⟩ ⟨cr, ck, cv, cg, cx⟩ = true := by simp [eqC]
      have hwp : wrap64 ((j : Int) + 1) = (j : Int) + 1 := wrap_succ (by have := HLEN.out; omega)
      have HK : Hid _ := hkB
      have HN : Hid _ := hnB
      have HR : Hid _ := hrB
      have HW : Hid _ := hWk
      have HB : Hid _ := hbeB
      clear hWa hb hcA h1a hkB hnB hrB hWk hbeB hcr hfz hmx hlc hcB hgl1 hg1 hLne
      gi_wp2
      refine wpIn_quiet_round rfl (by kernel_rfl) (by kernel_rfl) (by kernel_rfl) ?_
      repeat (gi_big_quiet_step (fail))
      refine wpQuietIn_nil ?_
      intro _ hw'
      obtain ⟨nq, hw''⟩ := hw'
      subst hw''
      have hbd : Below Wb.heap.size Wb (Wb.drewN nq) := below_drewN Wb nq
      have hnD := (hbd.block _ (blk_lt HN.out)).trans HN.out
      have hrD := (hbd.block _ (blk_lt HR.out)).trans HR.out
      have hkD := HK.out.below hbd
      have hWD : ∀ i, i < W.heap.size → i ≠ wb.heap.size + 1 → (Wb.drewN nq).heap[i]? = W.heap[i]? := fun i hi h2 => by
        have h3 := HW.out i hi h2
        have h4 : i < Wb.heap.size := by
          rw [Array.getElem?_eq_getElem hi] at h3
          exact blk_lt h3
        exact (hbd.block i h4).trans h3
      generalize Wb.drewN nq = Wd at *
      have n1 : Wd.cell? ⟨Wc.heap.size, 0, none⟩ = some (.int .i64 (j : Int)) := (Bl.cells_block hnD).1 0
      have n2 : Wd.frozen? ⟨Wc.heap.size, 0, none⟩ = false := (Bl.cells_block hnD).2 0
      have hn6 := heap_set_same hnD (o := 0) (.int .i64 ((j : Int) + 1))
      have hr6 : (Wd.setCell ⟨Wc.heap.size, 0, none⟩ (.int .i64 ((j : Int) + 1))).heap[wb.heap.size + 1]? = some (.loop { RR with state := .busy }) := (heap_set_other _ (by omega)).trans hrD
      have hbe6 : Below ws.heap.size ws ((Wd.setCell ⟨Wc.heap.size, 0, none⟩ (.int .i64 ((j : Int) + 1))).putObj (wb.heap.size + 1) (.loop RR)) := Bl.below_put (Bl.below_set0 hkD.be (by omega) _) (by omega) _
      have hall : ∀ i, i < W.heap.size → i ≠ wb.heap.size + 1 → i ≠ Wc.heap.size → ((Wd.setCell ⟨Wc.heap.size, 0, none⟩ (.int .i64 ((j : Int) + 1))).putObj (wb.heap.size + 1) (.loop RR)).heap[i]? = W.heap[i]? := fun i hi a1 a2 => (World.putObj_heap_other a1).trans ((heap_set_other _ a2).trans (hWD i hi a1))
      have HCL : Hid (RP (.returned (.bool true)) ((Wd.setCell ⟨Wc.heap.size, 0, none⟩ (.int .i64 ((j : Int) + 1))).putObj (wb.heap.size + 1) (.loop RR))) := by
        refine hT.out _ ⟨HJ.out.k.kept HT0.out hu (fun i hi => hall i (by omega) (by omega) hi.2) hbe6, (World.putObj_heap_other (by omega)).trans (hn6.trans rfl), (hall _ (by omega) (by omega) (by omega)).trans HJ.out.d, World.putObj_heap_same (blk_lt hr6), ⟨(hall _ (by have := hu.b; omega) (by have := hu.b; omega) hu.b.2).trans HJ.out.f.t, (hall _ (by have := hu.q; omega) (by have := hu.q; omega) hu.q.2).trans HJ.out.f.p⟩, HJ.out.x⟩ (fun i hi => hall i (HXL.out i hi).2 (by have := HJ.out.x i hi; omega) (by have := HJ.out.x i hi; omega))
      have HR6 : Hid _ := hr6
      clear hn6 hr6 hbe6 hall hnD hrD hkD hWD hbd HW HB HN HK HR HJC hjl hjI hge hjn0 hjd2 a0 a1 a2 a3 a4 i0 n0 e0 e1 e2 e3 e4 hlt hne hD2 z0 z1 z2 hDw hzw
      gi_wp2
      refine ⟨_, _, run_endRound (r := { RR with state := .busy }) none HR6.out, ?_⟩
      show RP _ (World.putObj _ _ (Obj.loop { RR with state := .ready, pending := none }))
      rw [eRR]
      exact HCL.out
    exact key _ (fun W' h1 h2 => Or.inl ⟨rfl, h1, h2⟩)

end Go.Proofs.YtmpnofbhbglfpaaGreatDoor

namespace Go.Proofs.YtmpnofbhbglfpaaGreatDoor
set_option maxRecDepth 100000
open Go.ChangeShapes Go.WideShapes Go.ChangeAt Go.RowKit

theorem tableBack_met (os : Os) : laidMet Tryz.prog Rows.tableBackRow.laid ((World.laidAll Tryz.prog os laid2).forCall (fun _ _ => 0) ⟨#[], #[.slice none 0 0, .int .i64 0, .agg #[.int .u8 0, .int .u8 0, .int .u8 0, .bool false, .string ByteArray.empty]], []⟩).memory :=
  laidMet_laidAll (laid := laid2) _ (by kernel_rfl) (by kernel_rfl)
theorem tableBack_reads (os : Os) {H : Type} (enc : TypeId × Value → H) : ∃ places, DataW.whole enc Tryz.prog ((World.laidAll Tryz.prog os laid2).forCall (fun _ _ => 0) ⟨#[], #[.slice none 0 0, .int .i64 0, .agg #[.int .u8 0, .int .u8 0, .int .u8 0, .bool false, .string ByteArray.empty]], []⟩).memory Tryz.f5.params.toList Rows.tableBackSpec.vars false #[Value.slice none 0 0, .int .i64 0, .agg #[.int .u8 0, .int .u8 0, .int .u8 0, .bool false, .string ByteArray.empty]].toList 8 = some ([.nil, .lit (.int .i64 0), .agg [.lit (.int .u8 0), .lit (.int .u8 0), .lit (.int .u8 0), .lit (.bool false), .lit (.string [])]], [], places) :=
  ⟨[], by kernel_rfl⟩

theorem tableBack_contract (H : Type) (enc : TypeId × Value → H) (W : World) (base : Nat) (args : Array Value) (ds gs : List (DataW H)) (before : List MemPlace)
    (hval : ∀ (j : Nat) t v, Tryz.f5.params[j]? = some t → args[j]? = some v → Value.okWide Tryz.prog W .any base t v)
    (hW : DataW.Whole enc Tryz.prog Tryz.f5.params.toList Rows.tableBackSpec.vars false W args.toList ds gs before)
    (hwt : (DataW.weightsEach Tryz.prog (Tryz.f5.params.toList ++ (OpenSpec.ofChange Rows.tableBackSpec).bare.plain.varTypes Tryz.prog) (ds ++ gs)).all (· ≤ reachBytes) = true)
    (hL : laidMetH Tryz.prog Rows.tableBackRow.laid W) :
    Calls Tryz.prog 5 args W fun e W' => ∃ v, e = .returned v ∧ Rows.tableBackSpec.post enc Tryz.prog Tryz.f5 false true false false W args v W' := by
  have hW' := hW
  obtain ⟨p, q, hA0, hV, rfl, hfz, hnd⟩ := hW
  have hA : DataW.TrodAll enc Tryz.prog W 0 (fun _ => true) true Tryz.f5.params.toList args.toList ds p := hA0
  rw [Tryz.params5] at hA hval
  obtain ⟨v0, vs0, d0, ds0, p0, q0, hargs0, rfl, rfl, h0, r0⟩ := trodAll_cons hA
  obtain ⟨v1, vs1, d1, ds1, p1, q1, hargs1, rfl, rfl, h1, r1⟩ := trodAll_cons r0
  obtain ⟨v2, vs2, d2, ds2, p2, q2, hargs2, rfl, rfl, h2, r2⟩ := trodAll_cons r1
  obtain ⟨rfl, rfl, rfl⟩ := trodAll_nil r2
  obtain rfl : args = #[v0, v1, v2] := by cases args; simp_all
  obtain ⟨rfl, rfl⟩ := trodVars_none hV
  have lt0 : ∀ x ∈ p0, x.block < W.heap.size := by obtain ⟨m, hm⟩ := h0; exact DataW.trod_lt m _ _ _ hm
  have lt1 : ∀ x ∈ p1, x.block < W.heap.size := by obtain ⟨m, hm⟩ := h1; exact DataW.trod_lt m _ _ _ hm
  have lt2 : ∀ x ∈ p2, x.block < W.heap.size := by obtain ⟨m, hm⟩ := h2; exact DataW.trod_lt m _ _ _ hm
  have hz0 : (d0.weights Tryz.prog 51).all (· ≤ reachBytes) = true := by
    rw [List.all_eq_true] at hwt ⊢
    exact fun n hn => hwt n (DataW.weights_mem_each (j := 0) (by rw [Tryz.params5]; rfl) rfl n hn)
  obtain ⟨aa0, ll0, cc0, rfl⟩ := okWide_slice Tryz.underlying51 (hval 0 51 _ rfl rfl)
  obtain ⟨q0x, b0, off0, cap0, cs0, hv0, hq0, hf0, hn0, hcap0, hcm0, hnil0⟩ : ∃ (q : Option Addr) (b off cap : Nat) (cs : List Sp), [Value.slice aa0 ll0 cc0] = [.slice q cs.length cap] ∧ (0 < cs.length → q = some ⟨b, off, none⟩ ∧ SpRow W b off cs ∧ b < W.heap.size) ∧ (∀ c ∈ cs, SpOk c) ∧ cs.length * 24 ≤ 140737488351232 ∧ cs.length ≤ cap ∧ cap ≤ maxLen ∧ (q = none → cs = [] ∧ cap = 0) := by
    obtain ⟨fuel, hf⟩ := id h0
    exact view_spots hf hz0
  obtain ⟨rfl, rfl, rfl⟩ : aa0 = q0x ∧ ll0 = cs0.length ∧ cc0 = cap0 := by simpa using hv0
  obtain ⟨a1, rfl, hd1, hp1, hs1⟩ := open_int Tryz.underlying3 (hval 1 3 v1 rfl rfl) h1
  have hz2 : (d2.weights Tryz.prog 53).all (· ≤ reachBytes) = true := by
    rw [List.all_eq_true] at hwt ⊢
    exact fun n hn => hwt n (DataW.weights_mem_each (j := 2) (by rw [Tryz.params5]; rfl) rfl n hn)
  obtain ⟨c2, rfl, hf2⟩ := arg_spot (hval 2 53 _ rfl rfl) h2 hz2
  clear hA0
  simp only [List.append_nil] at hW'
  have hwalk := Back11_any aa0 b0 off0 cc0 cs0 a1 c2 W hq0 hf0 hf2 (tabs_of_laid hL) 
  refine hwalk.mono fun e W' ⟨he, bel⟩ => ?_
  subst he
  exact ⟨_, rfl, _, _, _, [], _, [], hW', trodAll_mk1 (shut_bool Tryz.underlying4 _), (trodAll_cons_mk (Below.trod k_laidOut (by kernel_rfl) (of_decide_eq_true (by kernel_rfl)) h0 bel lt0) (trodAll_cons_mk (Below.trod k_laidOut (by kernel_rfl) (of_decide_eq_true (by kernel_rfl)) h1 bel lt1) (trodAll_cons_mk (Below.trod k_laidOut (by kernel_rfl) (of_decide_eq_true (by kernel_rfl)) h2 bel lt2) trodAll_mk0))), rfl, bel.frame _, fun h => by cases h⟩

theorem tableBack_lifted (os : Os) (started : os.Started) (H : Type) (enc : TypeId × Value → H) (F : Stop.Interp) :
    ReturnsInHanded {} Tryz.checked os 5 .any ((OpenSpec.ofChange Rows.tableBackSpec).preRow enc Tryz.prog Tryz.f5 Rows.tableBackRow.domain false Rows.tableBackRow.laid) (((OpenSpec.ofChange Rows.tableBackSpec).at F).post enc Tryz.prog Tryz.f5 false true false false) := by
  obtain ⟨places, hx⟩ := tableBack_reads os enc
  refine returnsInHanded_of_row (C := Tryz.checked) (s := OpenSpec.ofChange Rows.tableBackSpec) own started (by kernel_rfl) Tryz.func5
    (witness_row_at (enc := enc) (C := Tryz.checked) false (World.laidAll Tryz.prog os laid2) #[.slice none 0 0, .int .i64 0, .agg #[.int .u8 0, .int .u8 0, .int .u8 0, .bool false, .string ByteArray.empty]] (World.laidAll_os _ _ _) (by kernel_rfl) (by kernel_rfl) (by kernel_rfl)
      (OpenSpec.preRow_of_cond 8 hx (by kernel_rfl) (fun k hk => by cases hk) (by kernel_rfl) (tableBack_met os))) ?_
  intro W base args ds gs before hval hW _ _ hwt hL _ _
  exact tableBack_contract H enc W base args ds gs before hval hW hwt hL

theorem tableBack_said : Rows.TableBackSaid :=
  OpenClaim.holds_of_cond 5 Tryz.f5 rfl rfl rfl rfl rfl rfl rfl ⟨rfl, rfl, rfl, rfl, rfl⟩ rfl rfl rfl rfl rfl (by kernel_rfl) Tryz.func5 (by kernel_rfl)
    (of_decide_eq_true (by kernel_rfl)) (by unfold Func.isWrapper; first | (rw [if_pos (by decide +kernel)]; kernel_rfl) | (rw [if_neg (by decide +kernel)]; exact ⟨rfl, rfl⟩))
    (fun os started H enc _ F => by rw [OpenClaim.pre_eq_preRow]; exact tableBack_lifted os started H enc F)

theorem tableBack_plain (f : FuncId) (fn : Func) (hf : Tryz.pinned.checked.prog.funcNamed "acreage/acreagelaw11.TableBack" = some f) (hfn : Tryz.pinned.checked.prog.funcs[f]? = some fn) :
    false = Tryz.pinned.checked.prog.looks [] ∧ ∀ (j : Nat) t, fn.params[j]? = some t → Tryz.pinned.checked.prog.wantsStandIn t = false := by
  obtain rfl : f = 5 := Option.some.inj ((show Tryz.prog.funcNamed "acreage/acreagelaw11.TableBack" = some 5 by kernel_rfl).symm.trans hf) |>.symm
  obtain rfl : fn = Tryz.f5 := (Option.some.inj (Tryz.func5.symm.trans hfn)).symm
  refine ⟨by kernel_rfl, fun j t ht => ?_⟩
  rw [Tryz.params5] at ht
  have hm : t ∈ [51, 3, 53] := by simpa using Array.mem_of_getElem? ht
  have hall : ([51, 3, 53].all fun u => !Tryz.prog.wantsStandIn u) = true := by kernel_rfl
  exact (show Tryz.prog.wantsStandIn t = false by simpa using List.all_eq_true.1 hall t hm)

/-- THE STATEMENT. -/
theorem tableBack_card : Rows.TableBackCardSaid :=
  Claim7.holds_tied_plain_at .later [] _ _ _ _ tableBack_said (fun _ h => by cases h) (by kernel_rfl) (fun _ h => by cases h) tableBack_row_tie rfl ⟨rfl, rfl⟩ (by kernel_rfl) rfl tableBack_plain (by kernel_rfl)
#print axioms tableBack_card

end Go.Proofs.YtmpnofbhbglfpaaGreatDoor
