/-
  No table's bytes are a beginning of another's; none are another's but for its first byte.
  The cells of small numbers, their table's bytes; what bytes beside these are none's.
-/
import Derived.Test.YtmpnofbhbglfpaaGreatDoorGTRdM
import Derived.Test.YtmpnofbhbglfpaaGreatDoorGTOpen
import Derived.Test.YtmpnofbhbglfpaaGreatDoorGTNil
namespace Go.Proofs.YtmpnofbhbglfpaaGreatDoor
open Go.RowKit

/-- Rows of frames of bodies that are not empty, behind each what begins with no such frame. -/
theorem fr_same {z y : List UInt8} (hz : ∀ b, opn z = some b → b = []) (hy : ∀ b, opn y = some b → b = []) : ∀ (G H : List (List UInt8)), (∀ b ∈ G, b ≠ [] ∧ b.length ≤ 1048576) → (∀ b ∈ H, b ≠ [] ∧ b.length ≤ 1048576) → fr G ++ z = fr H ++ y → G = H ∧ z = y
  | [], [], _, _, e => ⟨rfl, by simpa [fr_nil] using e⟩
  | [], b :: H, _, h2, e => by
    have hb := h2 b List.mem_cons_self
    rw [fr_nil, List.nil_append, fr_cons, List.append_assoc] at e
    exact absurd (hz b (by rw [e]; exact opn_frm hb.2 _)) hb.1
  | b :: G, [], h1, _, e => by
    have hb := h1 b List.mem_cons_self
    rw [fr_nil, List.nil_append, fr_cons, List.append_assoc] at e
    exact absurd (hy b (by rw [← e]; exact opn_frm hb.2 _)) hb.1
  | b :: G, c :: H, h1, h2, e => by
    have hb := h1 b List.mem_cons_self
    have hc := h2 c List.mem_cons_self
    rw [fr_cons, fr_cons, List.append_assoc, List.append_assoc] at e
    have h3 := opn_frm hb.2 (fr G ++ z)
    rw [e, opn_frm hc.2] at h3
    have h4 := Option.some.inj h3
    subst h4
    have h5 := List.append_cancel_left e
    obtain ⟨h6, h7⟩ := fr_same hz hy G H (fun x hx => h1 x (List.mem_cons_of_mem _ hx)) (fun x hx => h2 x (List.mem_cons_of_mem _ hx)) h5
    exact ⟨by rw [h6], h7⟩
theorem opn_zero (r b : List UInt8) (h : opn (0 :: 0 :: 0 :: 0 :: r) = some b) : b = [] := by
  by_cases hs : r.length < 4
  · rw [opn_short (by simp only [List.length_cons]; omega)] at h
    cases h
  · obtain ⟨a1, a2, a3, a4, e, f, g, i, t, e0⟩ := ex8 (s := 0 :: 0 :: 0 :: 0 :: r) (by simp only [List.length_cons]; omega)
    rw [e0] at h
    simp only [List.cons.injEq] at e0
    obtain ⟨rfl, rfl, rfl, rfl, _⟩ := e0
    rw [opn_eq, show rd4 0 0 0 0 = 0 from rfl, List.take_zero] at h
    split at h
    · exact (Option.some.inj h).symm
    · cases h
theorem be8_small {n : Nat} (h : n ≤ 4294967295) : be8 n = 0 :: 0 :: 0 :: 0 :: be4 n := by
  unfold be8
  rw [show n / 4294967296 = 0 by omega, show n % 4294967296 = n by omega]
  rfl
theorem uv_small {n : Nat} (h : n < 128) : Lib.uvarint n = [n.toUInt8] := by
  rw [Lib.uvarint]
  simp [h]
theorem blkB_ne (B : List Cl) : blkB B ≠ [] := by
  intro h
  have := congrArg List.length h
  rw [blkB_len] at this
  simp at this
theorem idx_ne (Bs : List (List Cl)) : idx Bs ≠ [] := by
  intro h
  have := congrArg List.length h
  have p := Lib.uvarint_pos Bs.length
  unfold idx at this
  rw [List.length_append, List.length_nil] at this
  omega
/-- The bodies of a table's frames; its footer. -/
def bodT (Bs : List (List Cl)) : List (List UInt8) := Bs.map blkB ++ [idx Bs, flt Bs]
def foot (Bs : List (List Cl)) : List UInt8 := be8 (frs Bs).length ++ be8 ((frs Bs).length + (frm (idx Bs)).length)
theorem foot_length (Bs : List (List Cl)) : (foot Bs).length = 16 := rfl
theorem layT_parts (Bs : List (List Cl)) : layT Bs = fr (bodT Bs) ++ foot Bs := by
  unfold layT bodT foot frs
  rw [fr_append, fr_cons, fr_cons, fr_nil]
  simp only [List.append_assoc, List.append_nil]
theorem foot_zero {Bs : List (List Cl)} (h : Room Bs) (x : List UInt8) : ∀ b, opn (foot Bs ++ x) = some b → b = [] := by
  intro b hb
  unfold foot at hb
  rw [be8_small (Nat.le_trans h.f (by omega))] at hb
  exact opn_zero _ b hb
theorem bodT_facts {Bs : List (List Cl)} (h : Room Bs) (g : GB Bs) : ∀ b ∈ bodT Bs, b ≠ [] ∧ b.length ≤ 1048576 := by
  intro b hb
  unfold bodT at hb
  rcases List.mem_append.1 hb with hb | hb
  · obtain ⟨B, hB, rfl⟩ := List.mem_map.1 hb
    exact ⟨blkB_ne B, (g.good B hB).1.long⟩
  · simp only [List.mem_cons, List.not_mem_nil, or_false] at hb
    rcases hb with rfl | rfl
    · exact ⟨idx_ne Bs, h.i⟩
    · unfold flt
      refine ⟨fun e => ?_, ?_⟩
      · have := congrArg List.length e
        rw [Bl.mkF_length] at this
        simp at this
      · rw [Bl.mkF_length]
        have := Bl.szz_le (b := 10) (n := (names Bs.flatten).length) (by decide) h.n
        omega
/-- No table's bytes are a beginning of another's. -/
theorem lay_prefix {Bs Cs : List (List Cl)} (h : Room Bs) (g : GB Bs) (h' : Room Cs) (g' : GB Cs) {x : List UInt8} (e : layT Bs ++ x = layT Cs) : x = [] := by
  rw [layT_parts, layT_parts, List.append_assoc] at e
  have hc := foot_zero h' []
  rw [List.append_nil] at hc
  have := (fr_same (foot_zero h x) hc _ _ (bodT_facts h g) (bodT_facts h' g') e).2
  have hl := congrArg List.length this
  rw [List.length_append, foot_length, foot_length] at hl
  exact List.eq_nil_of_length_eq_zero (by omega)
theorem blk_zero {B : List Cl} (hn : B ≠ []) : ∃ t, blkB B = 0 :: t := by
  cases B with
  | nil => exact absurd rfl hn
  | cons c B =>
    have e : blkB (c :: B) = layB [] c ++ (bdy 1 c.row B ++ tailB (whl (c :: B))) := by
      unfold blkB body
      rw [bdy, if_pos (by decide), List.append_assoc]
    rw [e]
    unfold layB txt
    rw [cmn_nil, uv_small (n := 0) (by decide)]
    exact ⟨_, rfl⟩
theorem blk_head {B : List Cl} (g : Good B) (hn : B ≠ []) (hr : ∀ c ∈ B, c.row ≠ []) : ∃ a t, blkB B = 0 :: a :: t ∧ a ≠ 0 := by
  cases B with
  | nil => exact absurd rfl hn
  | cons c B =>
    have hok := okC_len (List.all_eq_true.1 g.ok c List.mem_cons_self)
    have hrow := List.length_pos_iff.2 (hr c List.mem_cons_self)
    refine ⟨c.row.length.toUInt8, ?_⟩
    have e : blkB (c :: B) = layB [] c ++ (bdy 1 c.row B ++ tailB (whl (c :: B))) := by
      unfold blkB body
      rw [bdy, if_pos (by decide), List.append_assoc]
    rw [e]
    unfold layB txt
    rw [cmn_nil, uv_small (n := 0) (by decide), List.drop_zero, uv_small (n := c.row.length) (by omega)]
    refine ⟨_, rfl, fun h => ?_⟩
    have := congrArg UInt8.toNat h
    simp at this
    omega
theorem frm_head {b : List UInt8} (h : b.length ≤ 65535) : frm b = 0 :: 0 :: (b.length / 256).toUInt8 :: (b.length % 256).toUInt8 :: (le4 (crc (be4 b.length ++ b)).toNat ++ b) := by
  unfold frm
  have : be4 b.length = [0, 0, (b.length / 256).toUInt8, (b.length % 256).toUInt8] := by
    unfold be4
    rw [show b.length / 16777216 = 0 by omega, show b.length / 65536 = 0 by omega, show b.length / 256 % 256 = b.length / 256 by omega]
    rfl
  rw [this]
  rfl
theorem idx_nil : idx [] = [0] := by
  unfold idx
  rw [show ([] : List (List Cl)).length = 0 from rfl, uv_small (by decide)]
  rfl
theorem layT_nil_head : ∃ t, layT [] = 0 :: 0 :: 0 :: 1 :: t ∧ (layT []).length = 42 := by
  have h1 : ∃ t, layT [] = 0 :: 0 :: 0 :: 1 :: t := by
    unfold layT
    rw [idx_nil, frm_head (b := [0]) (by decide)]
    exact ⟨_, rfl⟩
  obtain ⟨t, h1⟩ := h1
  refine ⟨t, h1, ?_⟩
  unfold layT
  rw [idx_nil]
  simp only [List.length_append, be8_length, frm_length]
  rfl
/-- A table's bytes without the first are no table's. -/
theorem lay_tail {Bs Cs : List (List Cl)} (g : GB Bs) (g' : GB Cs) (hr : ∀ c ∈ Bs.flatten, c.row ≠ []) {a : UInt8} (e : layT Bs = a :: layT Cs) : False := by
  cases Bs with
  | nil =>
    obtain ⟨t, e1, l1⟩ := layT_nil_head
    cases Cs with
    | nil =>
      have := congrArg List.length e
      simp at this
    | cons C Cs =>
      have gC := g'.good C List.mem_cons_self
      have hl := congrArg List.length e
      have e2 : layT (C :: Cs) = frm (blkB C) ++ (frs Cs ++ (frm (idx (C :: Cs)) ++ (frm (flt (C :: Cs)) ++ foot (C :: Cs)))) := by
        unfold layT foot
        rw [frs_cons]
        simp only [List.append_assoc]
      rw [l1, List.length_cons, e2, List.length_append, frm_length] at hl
      have hlC := gC.1.len
      rw [e1, e2, frm_head (b := blkB C) (by omega)] at e
      simp only [List.cons_append, List.cons.injEq] at e
      have h2 := congrArg UInt8.toNat e.2.2.2.1
      have hlen := gC.1.len
      simp at h2
      omega
  | cons B Bs =>
    have gB := g.good B List.mem_cons_self
    have e1 : layT (B :: Bs) = frm (blkB B) ++ (frs Bs ++ (frm (idx (B :: Bs)) ++ (frm (flt (B :: Bs)) ++ foot (B :: Bs)))) := by
      unfold layT foot
      rw [frs_cons]
      simp only [List.append_assoc]
    have hlB := gB.1.len
    have hlp : 0 < (blkB B).length := List.length_pos_iff.2 (blkB_ne B)
    cases Cs with
    | nil =>
      obtain ⟨t, e2, _⟩ := layT_nil_head
      rw [e1, e2, frm_head (b := blkB B) (by omega)] at e
      simp only [List.cons_append, List.cons.injEq] at e
      have h2 := congrArg UInt8.toNat e.2.2.1
      have h3 := congrArg UInt8.toNat e.2.2.2.1
      simp at h2 h3
      omega
    | cons C Cs =>
      have gC := g'.good C List.mem_cons_self
      have e2 : layT (C :: Cs) = frm (blkB C) ++ (frs Cs ++ (frm (idx (C :: Cs)) ++ (frm (flt (C :: Cs)) ++ foot (C :: Cs)))) := by
        unfold layT foot
        rw [frs_cons]
        simp only [List.append_assoc]
      obtain ⟨x, t, h1, hx⟩ := blk_head gB.1 gB.2 (fun c hc => hr c (by rw [List.flatten_cons]; exact List.mem_append_left _ hc))
      obtain ⟨u, h2⟩ := blk_zero gC.2
      have hlC := gC.1.len
      rw [e1, e2, frm_head (b := blkB B) (by omega), frm_head (b := blkB C) (by omega)] at e
      generalize (blkB B).length = n1 at *
      generalize (blkB C).length = n2 at *
      unfold le4 at e
      rw [h1, h2] at e
      simp only [List.cons_append, List.nil_append, List.cons.injEq] at e
      exact hx e.2.2.2.2.2.2.2.2.2.1

end Go.Proofs.YtmpnofbhbglfpaaGreatDoor

namespace Go.Proofs.YtmpnofbhbglfpaaGreatDoor

theorem uv_one {x : Nat} (h : x < 128) : (Lib.uvarint x).length = 1 := by rw [Lib.uvarint_small h]; rfl
theorem uv_big {x k : Nat} (h : 128 ≤ x) (hk : (Lib.uvarint (x / 128)).length ≤ k) : (Lib.uvarint x).length ≤ k + 1 := by rw [Lib.uvarint_big h]; simp; omega
theorem uv_le : ∀ (k x : Nat), x < 128 ^ (k + 1) → (Lib.uvarint x).length ≤ k + 1
  | 0, x, h => by rw [uv_one (by simpa using h)]; omega
  | k + 1, x, h => by
    by_cases hx : x < 128
    · rw [uv_one hx]; omega
    · refine uv_big (by omega) (uv_le k (x / 128) ?_)
      rw [Nat.div_lt_iff_lt_mul (by omega)]
      rw [Nat.pow_succ] at h
      exact h
theorem layB_short {a : List UInt8} {c : Cl} (h : okC c = true) : (layB a c).length ≤ c.row.length + c.col.length + c.val.length + 14 := by
  obtain ⟨h1, h2, h3, h4, h5⟩ := okC_len h
  have hr := cmn_right a c.row
  have t1 := uv_le 0 (cmn a c.row) (by omega)
  have t2 := uv_le 0 (c.row.drop (cmn a c.row)).length (by rw [List.length_drop]; omega)
  have t3 := uv_le 0 c.col.length (by omega)
  have t4 := uv_le 5 c.ver.toNat (by omega)
  have t5 := uv_le 2 c.val.length (by omega)
  unfold layB txt
  simp only [List.length_append]
  have g : ((if c.gone = true then [1] else [0]) : List UInt8).length = 1 := by cases c.gone <;> rfl
  rw [g]
  rw [List.length_drop] at t2 ⊢
  omega
/-- What the law adds up. -/
def sumS : List Cl → Nat
  | [] => 2
  | c :: l => c.row.length + c.col.length + c.val.length + 16 + sumS l
def sumT (l : List Cl) : Nat := l.foldl (fun n c => n + c.row.length + c.col.length + c.val.length + 16) 2
theorem bdy_short : ∀ (k : Nat) (a : List UInt8) (l : List Cl), l.all okC = true → (bdy k a l).length + 2 * l.length + 2 ≤ sumS l
  | _, _, [], _ => by simp [bdy, sumS]
  | k, a, c :: l, h => by
    rw [List.all_cons, Bool.and_eq_true] at h
    have h1 := layB_short (a := if k % 8 = 0 then [] else a) h.1
    have h2 := bdy_short (k + 1) c.row l h.2
    rw [bdy, sumS, List.length_append, List.length_cons]
    omega
theorem blk_short {l : List Cl} (h : l.all okC = true) : (blkB l).length ≤ sumS l := by
  have := bdy_short 0 [] l h
  rw [blkB_len]
  unfold body
  omega
theorem ins_len : ∀ (l : List Cl) (c : Cl), (ins l c).length ≤ l.length + 1
  | [], c => by simp [ins]
  | x :: xs, c => by
    have := ins_len xs c
    rw [ins]
    split
    · simp only [List.length_cons]; omega
    · split <;> simp
theorem sortL_len (l : List Cl) : (sortL l).length ≤ l.length := by
  have : ∀ (l acc : List Cl), (l.foldl ins acc).length ≤ acc.length + l.length := by
    intro l
    induction l with
    | nil => intro acc; simp
    | cons c l ih =>
      intro acc
      have h1 := ih (ins acc c)
      have h2 := ins_len acc c
      rw [List.foldl_cons, List.length_cons]
      omega
  have := this l []
  unfold sortL
  simpa using this
theorem mem_sortL {l : List Cl} {c : Cl} (h : c ∈ sortL l) : c ∈ l := List.mem_of_find?_eq_some ((sortL_spec l).fst c h)

theorem sp_ok (x : Sp) : okC (spC x) = true ∧ (spC x).row ≠ [] ∧ (spC x).row.length + (spC x).col.length + (spC x).val.length ≤ 105 := by
  have h6 : x.ver % 6 < 6 := Nat.mod_lt _ (by decide)
  have hv : (spC x).val.length ≤ 100 := by
    unfold spC
    cases x.gone
    · simp; omega
    · simp
  refine ⟨?_, by simp [spC], ?_⟩
  · unfold okC mayC
    have e1 : storedB (spC x).row = true := by simp [spC, storedB]
    have e2 : ((spC x).row == [] && (spC x).col == []) = false := by simp [spC]
    have e3 : ((spC x).gone && !((spC x).val == [])) = false := by
      unfold spC
      cases x.gone <;> simp
    have e4 : (spC x).ver = 1 + ((x.ver % 6 : Nat) : Int) := rfl
    have e5 : (spC x).col.length = 2 := rfl
    rw [e1, e2, e3, e4, e5]
    simp only [Bool.true_and, Bool.not_false, Bool.and_true, Bool.and_eq_true, decide_eq_true_eq]
    omega
  · have e1 : (spC x).row.length = 3 := rfl
    have e2 : (spC x).col.length = 2 := rfl
    omega
theorem ofL_mem {xs : List Sp} {c : Cl} (h : c ∈ ofL xs) : okC c = true ∧ c.row ≠ [] ∧ c.row.length + c.col.length + c.val.length ≤ 105 := by
  obtain ⟨x, _, rfl⟩ := List.mem_map.1 (mem_sortL h)
  exact sp_ok x
theorem ofL_ok (xs : List Sp) : okL (ofL xs) = true := okL_iff.2 ⟨List.all_eq_true.2 fun _ hc => (ofL_mem hc).1, (sortL_spec _).asc⟩
theorem ofL_len (xs : List Sp) : (ofL xs).length ≤ 60 := by
  refine Nat.le_trans (sortL_len _) ?_
  rw [List.length_map, List.length_take]
  omega
theorem sumS_few : ∀ {l : List Cl}, (∀ c ∈ l, c.row.length + c.col.length + c.val.length ≤ 105) → sumS l ≤ 2 + 121 * l.length
  | [], _ => by simp [sumS]
  | c :: l, h => by
    have h1 := h c List.mem_cons_self
    have h2 := sumS_few (l := l) fun d hd => h d (List.mem_cons_of_mem _ hd)
    rw [sumS, List.length_cons]
    omega
theorem ofL_ones (xs : List Sp) : onesB (ofL xs) = true := by
  unfold onesB
  rw [List.all_eq_true]
  intro c hc
  obtain ⟨h1, _, h2⟩ := ofL_mem hc
  have h3 := blk_short (l := [c]) (by simp [h1])
  have h4 := sumS_few (l := [c]) (by simpa using h2)
  simp only [List.length_singleton] at h4
  rw [decide_eq_true_eq]
  omega
theorem ofL_chk (xs : List Sp) {m : Int} (h1 : 1 ≤ m) (h2 : m ≤ 32768) : chkE (ofL xs) m = 0 := chk_iff.2 ⟨⟨h1, h2⟩, ofL_ok xs, ofL_ones xs⟩
theorem frs_short : ∀ {Bs : List (List Cl)}, (∀ B ∈ Bs, B.all okC = true ∧ ∀ c ∈ B, c.row.length + c.col.length + c.val.length ≤ 105) → (frs Bs).length ≤ 10 * Bs.length + 121 * Bs.flatten.length
  | [], _ => by simp [frs, fr]
  | B :: Bs, h => by
    obtain ⟨h1, h2⟩ := h B List.mem_cons_self
    have h3 := frs_short (Bs := Bs) fun d hd => h d (List.mem_cons_of_mem _ hd)
    have h4 := blk_short h1
    have h5 := sumS_few h2
    rw [frs_cons, List.length_append, frm_length, List.length_cons, List.flatten_cons, List.length_append]
    omega
theorem lay_short {Bs : List (List Cl)} (hG : GB Bs) (hw : ∀ c ∈ Bs.flatten, c.row.length + c.col.length + c.val.length ≤ 105) (hn : Bs.flatten.length ≤ 60) : (layT Bs).length ≤ 40000 ∧ 0 < (layT Bs).length := by
  have h1 : (frs Bs).length ≤ 10 * Bs.length + 121 * Bs.flatten.length := frs_short fun B hB => ⟨(hG.good B hB).1.ok, fun c hc => hw c (List.mem_flatten.2 ⟨B, hB, hc⟩)⟩
  have h2 := flat_few (Bs := Bs) fun B hB => (hG.good B hB).2
  have h3 := idxF_few (Bs := Bs) (fun B hB => hG.good B hB) 0 (by omega)
  have h4 := uv_le 0 Bs.length (by omega)
  have h5 : (names Bs.flatten).length ≤ Bs.flatten.length := nmsF_len _ _
  have h6 : (flt Bs).length ≤ 200 := by
    unfold flt
    rw [Bl.mkF_length]
    unfold Bl.szz
    omega
  unfold layT idx
  simp only [List.length_append, frm_length, be8_length]
  omega
/-- The table of such cells. -/
theorem of_lay (xs : List Sp) {m : Int} (h1 : 1 ≤ m) (h2 : m ≤ 32768) : wriT (ofL xs) m = layT (cutB (ofL xs) m.toNat) ∧ GB (cutB (ofL xs) m.toNat) ∧ (cutB (ofL xs) m.toNat).flatten = ofL xs ∧ Room (cutB (ofL xs) m.toNat) ∧ (layT (cutB (ofL xs) m.toNat)).length ≤ 40000 ∧ 0 < (layT (cutB (ofL xs) m.toNat)).length := by
  have hc := ofL_chk xs h1 h2
  have hg := cutB_gb (l := ofL xs) (m := m.toNat) (by omega) (ofL_ok xs) (ofL_ones xs)
  have hl := ofL_len xs
  have hs := lay_short hg.1 (fun _ h => by rw [hg.2] at h; exact (ofL_mem h).2.2) (by rw [hg.2]; exact hl)
  exact ⟨by unfold wriT; rw [if_pos hc], hg.1, hg.2, room_cut (by omega) hc, hs⟩
theorem opn_cut {Bs : List (List Cl)} (h : Room Bs) (g : GB Bs) (hl : (layT Bs).length ≤ 50000) {k : Nat} (hk : k < (layT Bs).length) : layT (opB ((layT Bs).take k)) ≠ (layT Bs).take k := by
  intro e
  have hR : Room (opB ((layT Bs).take k)) := room_open (by rw [List.length_take]; omega)
  have e2 : layT (opB ((layT Bs).take k)) ++ (layT Bs).drop k = layT Bs := by rw [e, List.take_append_drop]
  have e3 := lay_prefix hR (opB_gb _) h g e2
  have e4 := congrArg List.length e3
  rw [List.length_drop, List.length_nil] at e4
  omega
theorem opn_more {Bs : List (List Cl)} (h : Room Bs) (g : GB Bs) (hl : (layT Bs).length ≤ 50000) (a : UInt8) : layT (opB (layT Bs ++ [a])) ≠ layT Bs ++ [a] := by
  intro e
  have hR : Room (opB (layT Bs ++ [a])) := room_open (by rw [List.length_append]; simp; omega)
  have e3 := lay_prefix h g hR (opB_gb _) e.symm
  cases e3
theorem opn_tail {Bs : List (List Cl)} (g : GB Bs) (hr : ∀ c ∈ Bs.flatten, c.row ≠ []) (h0 : 0 < (layT Bs).length) : layT (opB ((layT Bs).drop 1)) ≠ (layT Bs).drop 1 := by
  intro e
  obtain ⟨a, t, ht⟩ : ∃ a t, layT Bs = a :: t := by
    cases hx : layT Bs with
    | nil => rw [hx] at h0; cases h0
    | cons a t => exact ⟨a, t, rfl⟩
  have e2 : (layT Bs).drop 1 = t := by rw [ht]; rfl
  rw [e2] at e
  exact lay_tail g (opB_gb t) hr (ht.trans (by rw [e]))

end Go.Proofs.YtmpnofbhbglfpaaGreatDoor
