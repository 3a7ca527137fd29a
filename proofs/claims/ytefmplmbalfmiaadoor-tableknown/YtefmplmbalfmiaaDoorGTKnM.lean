/-
  No table's bytes are a beginning of another's; none are another's but for its first byte.
  The examples of table's chapter, as lists.
-/
import Derived.Test.YtefmplmbalfmiaaDoorGTRdM
import Derived.Test.YtefmplmbalfmiaaDoorGTNil
import Derived.Test.YtefmplmbalfmiaaDoorGTOpn
import Derived.Test.YtefmplmbalfmiaaDoorGTFn
namespace Go.Proofs.YtefmplmbalfmiaaDoor
open Go.RowKit

/-- Rows of frames of bodies that are not empty, behind each what begins with no such frame. -/
theorem fr_same {z y : List UInt8} (hz : ∀ b, opn z = some b → b = []) (hy : ∀ b, opn y = some b → b = []) : ∀ (G H : List (List UInt8)), (∀ b ∈ G, b ≠ [] ∧ b.length ≤ 1048576) → (∀ b ∈ H, b ≠ [] ∧ b.length ≤ 1048576) → fr G ++ z = fr H ++ y → G = H ∧ z = y
  | [], [], _, _, e => ⟨rfl, by simpa [fr_nil] using e⟩
  | [], b :: H, _, h2, e => by
    have hb := h2 b List.mem_cons_self
    rw [fr_nil, List.nil_append, fr_cons, List.append_assoc] at e
    exact absurd (hz b (by rw [e]; exact opn_frm hb.2 _)) hb.1
  | b :: G, [], h1, _, e => by
    have hb := h1 b List.mem_cons_self
    rw [fr_nil, List.nil_append, fr_cons, List.append_assoc] at e
    exact absurd (hy b (by rw [← e]; exact opn_frm hb.2 _)) hb.1
  | b :: G, c :: H, h1, h2, e => by
    have hb := h1 b List.mem_cons_self
    have hc := h2 c List.mem_cons_self
    rw [fr_cons, fr_cons, List.append_assoc, List.append_assoc] at e
    have h3 := opn_frm hb.2 (fr G ++ z)
    rw [e, opn_frm hc.2] at h3
    have h4 := Option.some.inj h3
    subst h4
    have h5 := List.append_cancel_left e
    obtain ⟨h6, h7⟩ := fr_same hz hy G H (fun x hx => h1 x (List.mem_cons_of_mem _ hx)) (fun x hx => h2 x (List.mem_cons_of_mem _ hx)) h5
    exact ⟨by rw [h6], h7⟩
theorem opn_zero (r b : List UInt8) (h : opn (0 :: 0 :: 0 :: 0 :: r) = some b) : b = [] := by
  by_cases hs : r.length < 4
  · rw [opn_short (by simp only [List.length_cons]; omega)] at h
    cases h
  · obtain ⟨a1, a2, a3, a4, e, f, g, i, t, e0⟩ := ex8 (s := 0 :: 0 :: 0 :: 0 :: r) (by simp only [List.length_cons]; omega)
    rw [e0] at h
    simp only [List.cons.injEq] at e0
    obtain ⟨rfl, rfl, rfl, rfl, _⟩ := e0
    rw [opn_eq, show rd4 0 0 0 0 = 0 from rfl, List.take_zero] at h
    split at h
    · exact (Option.some.inj h).symm
    · cases h
theorem be8_small {n : Nat} (h : n ≤ 4294967295) : be8 n = 0 :: 0 :: 0 :: 0 :: be4 n := by
  unfold be8
  rw [show n / 4294967296 = 0 by omega, show n % 4294967296 = n by omega]
  rfl
theorem uv_small {n : Nat} (h : n < 128) : Lib.uvarint n = [n.toUInt8] := by
  rw [Lib.uvarint]
  simp [h]
theorem blkB_ne (B : List Cl) : blkB B ≠ [] := by
  intro h
  have := congrArg List.length h
  rw [blkB_len] at this
  simp at this
theorem idx_ne (Bs : List (List Cl)) : idx Bs ≠ [] := by
  intro h
  have := congrArg List.length h
  have p := Lib.uvarint_pos Bs.length
  unfold idx at this
  rw [List.length_append, List.length_nil] at this
  omega
/-- The bodies of a table's frames; its footer. -/
def bodT (Bs : List (List Cl)) : List (List UInt8) := Bs.map blkB ++ [idx Bs, flt Bs]
def foot (Bs : List (List Cl)) : List UInt8 := be8 (frs Bs).length ++ be8 ((frs Bs).length + (frm (idx Bs)).length)
theorem foot_length (Bs : List (List Cl)) : (foot Bs).length = 16 := rfl
theorem layT_parts (Bs : List (List Cl)) : layT Bs = fr (bodT Bs) ++ foot Bs := by
  unfold layT bodT foot frs
  rw [fr_append, fr_cons, fr_cons, fr_nil]
  simp only [List.append_assoc, List.append_nil]
theorem foot_zero {Bs : List (List Cl)} (h : Room Bs) (x : List UInt8) : ∀ b, opn (foot Bs ++ x) = some b → b = [] := by
  intro b hb
  unfold foot at hb
  rw [be8_small (Nat.le_trans h.f (by omega))] at hb
  exact opn_zero _ b hb
theorem bodT_facts {Bs : List (List Cl)} (h : Room Bs) (g : GB Bs) : ∀ b ∈ bodT Bs, b ≠ [] ∧ b.length ≤ 1048576 := by
  intro b hb
  unfold bodT at hb
  rcases List.mem_append.1 hb with hb | hb
  · obtain ⟨B, hB, rfl⟩ := List.mem_map.1 hb
    exact ⟨blkB_ne B, (g.good B hB).1.long⟩
  · simp only [List.mem_cons, List.not_mem_nil, or_false] at hb
    rcases hb with rfl | rfl
    · exact ⟨idx_ne Bs, h.i⟩
    · unfold flt
      refine ⟨fun e => ?_, ?_⟩
      · have := congrArg List.length e
        rw [Bl.mkF_length] at this
        simp at this
      · rw [Bl.mkF_length]
        have := Bl.szz_le (b := 10) (n := (names Bs.flatten).length) (by decide) h.n
        omega
/-- No table's bytes are a beginning of another's. -/
theorem lay_prefix {Bs Cs : List (List Cl)} (h : Room Bs) (g : GB Bs) (h' : Room Cs) (g' : GB Cs) {x : List UInt8} (e : layT Bs ++ x = layT Cs) : x = [] := by
  rw [layT_parts, layT_parts, List.append_assoc] at e
  have hc := foot_zero h' []
  rw [List.append_nil] at hc
  have := (fr_same (foot_zero h x) hc _ _ (bodT_facts h g) (bodT_facts h' g') e).2
  have hl := congrArg List.length this
  rw [List.length_append, foot_length, foot_length] at hl
  exact List.eq_nil_of_length_eq_zero (by omega)
theorem blk_zero {B : List Cl} (hn : B ≠ []) : ∃ t, blkB B = 0 :: t := by
  cases B with
  | nil => exact absurd rfl hn
  | cons c B =>
    have e : blkB (c :: B) = layB [] c ++ (bdy 1 c.row B ++ tailB (whl (c :: B))) := by
      unfold blkB body
      rw [bdy, if_pos (by decide), List.append_assoc]
    rw [e]
    unfold layB txt
    rw [cmn_nil, uv_small (n := 0) (by decide)]
    exact ⟨_, rfl⟩
theorem blk_head {B : List Cl} (g : Good B) (hn : B ≠ []) (hr : ∀ c ∈ B, c.row ≠ []) : ∃ a t, blkB B = 0 :: a :: t ∧ a ≠ 0 := by
  cases B with
  | nil => exact absurd rfl hn
  | cons c B =>
    have hok := okC_len (List.all_eq_true.1 g.ok c List.mem_cons_self)
    have hrow := List.length_pos_iff.2 (hr c List.mem_cons_self)
    refine ⟨c.row.length.toUInt8, ?_⟩
    have e : blkB (c :: B) = layB [] c ++ (bdy 1 c.row B ++ tailB (whl (c :: B))) := by
      unfold blkB body
      rw [bdy, if_pos (by decide), List.append_assoc]
    rw [e]
    unfold layB txt
    rw [cmn_nil, uv_small (n := 0) (by decide), List.drop_zero, uv_small (n := c.row.length) (by omega)]
    refine ⟨_, rfl, fun h => ?_⟩
    have := congrArg UInt8.toNat h
    simp at this
    omega
theorem frm_head {b : List UInt8} (h : b.length ≤ 65535) : frm b = 0 :: 0 :: (b.length / 256).toUInt8 :: (b.length % 256).toUInt8 :: (le4 (crc (be4 b.length ++ b)).toNat ++ b) := by
  unfold frm
  have : be4 b.length = [0, 0, (b.length / 256).toUInt8, (b.length % 256).toUInt8] := by
    unfold be4
    rw [show b.length / 16777216 = 0 by omega, show b.length / 65536 = 0 by omega, show b.length / 256 % 256 = b.length / 256 by omega]
    rfl
  rw [this]
  rfl
theorem idx_nil : idx [] = [0] := by
  unfold idx
  rw [show ([] : List (List Cl)).length = 0 from rfl, uv_small (by decide)]
  rfl
theorem layT_nil_head : ∃ t, layT [] = 0 :: 0 :: 0 :: 1 :: t ∧ (layT []).length = 42 := by
  have h1 : ∃ t, layT [] = 0 :: 0 :: 0 :: 1 :: t := by
    unfold layT
    rw [idx_nil, frm_head (b := [0]) (by decide)]
    exact ⟨_, rfl⟩
  obtain ⟨t, h1⟩ := h1
  refine ⟨t, h1, ?_⟩
  unfold layT
  rw [idx_nil]
  simp only [List.length_append, be8_length, frm_length]
  rfl
/-- A table's bytes without the first are no table's. -/
theorem lay_tail {Bs Cs : List (List Cl)} (g : GB Bs) (g' : GB Cs) (hr : ∀ c ∈ Bs.flatten, c.row ≠ []) {a : UInt8} (e : layT Bs = a :: layT Cs) : False := by
  cases Bs with
  | nil =>
    obtain ⟨t, e1, l1⟩ := layT_nil_head
    cases Cs with
    | nil =>
      have := congrArg List.length e
      simp at this
    | cons C Cs =>
      have gC := g'.good C List.mem_cons_self
      have hl := congrArg List.length e
      have e2 : layT (C :: Cs) = frm (blkB C) ++ (frs Cs ++ (frm (idx (C :: Cs)) ++ (frm (flt (C :: Cs)) ++ foot (C :: Cs)))) := by
        unfold layT foot
        rw [frs_cons]
        simp only [List.append_assoc]
      rw [l1, List.length_cons, e2, List.length_append, frm_length] at hl
      have hlC := gC.1.len
      rw [e1, e2, frm_head (b := blkB C) (by omega)] at e
      simp only [List.cons_append, List.cons.injEq] at e
      have h2 := congrArg UInt8.toNat e.2.2.2.1
      have hlen := gC.1.len
      simp at h2
      omega
  | cons B Bs =>
    have gB := g.good B List.mem_cons_self
    have e1 : layT (B :: Bs) = frm (blkB B) ++ (frs Bs ++ (frm (idx (B :: Bs)) ++ (frm (flt (B :: Bs)) ++ foot (B :: Bs)))) := by
      unfold layT foot
      rw [frs_cons]
      simp only [List.append_assoc]
    have hlB := gB.1.len
    have hlp : 0 < (blkB B).length := List.length_pos_iff.2 (blkB_ne B)
    cases Cs with
    | nil =>
      obtain ⟨t, e2, _⟩ := layT_nil_head
      rw [e1, e2, frm_head (b := blkB B) (by omega)] at e
      simp only [List.cons_append, List.cons.injEq] at e
      have h2 := congrArg UInt8.toNat e.2.2.1
      have h3 := congrArg UInt8.toNat e.2.2.2.1
      simp at h2 h3
      omega
    | cons C Cs =>
      have gC := g'.good C List.mem_cons_self
      have e2 : layT (C :: Cs) = frm (blkB C) ++ (frs Cs ++ (frm (idx (C :: Cs)) ++ (frm (flt (C :: Cs)) ++ foot (C :: Cs)))) := by
        unfold layT foot
        rw [frs_cons]
        simp only [List.append_assoc]
      obtain ⟨x, t, h1, hx⟩ := blk_head gB.1 gB.2 (fun c hc => hr c (by rw [List.flatten_cons]; exact List.mem_append_left _ hc))
      obtain ⟨u, h2⟩ := blk_zero gC.2
      have hlC := gC.1.len
      rw [e1, e2, frm_head (b := blkB B) (by omega), frm_head (b := blkB C) (by omega)] at e
      generalize (blkB B).length = n1 at *
      generalize (blkB C).length = n2 at *
      unfold le4 at e
      rw [h1, h2] at e
      simp only [List.cons_append, List.nil_append, List.cons.injEq] at e
      exact hx e.2.2.2.2.2.2.2.2.2.1

end Go.Proofs.YtefmplmbalfmiaaDoor

namespace Go.Proofs.YtefmplmbalfmiaaDoor

abbrev kA : Cl := ⟨[97], [120], 1, false, []⟩
abbrev kB : Cl := ⟨[98], [120], 1, false, []⟩
abbrev kZ : Cl := ⟨[], [], 0, false, []⟩
theorem kn_none : chkE [] 1 = 0 ∧ wriT [] 1 = layT [] := ⟨by decide +kernel, rfl⟩
theorem kn_room0 : Room [] := ⟨by decide +kernel, by decide +kernel, by decide +kernel⟩
theorem kn_42 : (layT []).length = 42 := by decide +kernel
theorem kn_foot : (layT []).drop 26 = [0, 0, 0, 0, 0, 0, 0, 0, 0, 0, 0, 0, 0, 0, 0, 9] := by decide +kernel
theorem kn_ba : chkE [kB, kA] 1 = 2 := by decide +kernel
theorem kn_a0 : chkE [kA] 0 = 2 := by decide +kernel
theorem kn_a3 : chkE [kA] 32769 = 2 := by decide +kernel
theorem kn_aa : chkE [kA, kA] 1 = 2 := by decide +kernel
theorem kn_z : chkE [kZ] 1 = 2 := by decide +kernel
theorem kn_ab : chkE [kA, kB] 12 = 0 ∧ cutB [kA, kB] 12 = [[kA], [kB]] := ⟨by decide +kernel, by kernel_rfl⟩
theorem blk_val (c : Cl) : c.val.length ≤ (blkB [c]).length := by
  rw [blkB_len]
  unfold body bdy bdy layB txt
  simp only [List.length_append]
  omega
theorem kn_long {z : List UInt8} (hz : z.length = 65536) : chkE [⟨[97], [120], 1, false, z⟩] 1 = 3 := by
  have h1 := blk_val ⟨[97], [120], 1, false, z⟩
  have h2 : okL [(⟨[97], [120], 1, false, z⟩ : Cl)] = true := by
    rw [okL_iff]
    refine ⟨?_, List.pairwise_singleton _ _⟩
    have : okC ⟨[97], [120], 1, false, z⟩ = true := by
      unfold okC mayC
      simp [storedB, hz]
    simp [this]
  have h3 : onesB [(⟨[97], [120], 1, false, z⟩ : Cl)] = false := by
    unfold onesB
    simp only [List.all_cons, List.all_nil, Bool.and_true, decide_eq_false_iff_not]
    have : z.length ≤ _ := h1
    omega
  unfold chkE
  rw [if_neg (by decide), if_pos h2, h3]
  rfl

theorem kn_one {r z : List UInt8} (hr : r.length = 1) (hz : z.length = 20000) : okC ⟨r, [120], 1, false, z⟩ = true ∧ (blkB [⟨r, [120], 1, false, z⟩]).length ≤ 32767 := by
  have h1 : okC ⟨r, [120], 1, false, z⟩ = true := by
    unfold okC mayC
    simp [storedB, hz, hr]
  refine ⟨h1, ?_⟩
  have h2 := (layB_len (a := []) h1).1
  rw [blkB_len]
  have h3 : body [(⟨r, [120], 1, false, z⟩ : Cl)] = layB [] ⟨r, [120], 1, false, z⟩ := by
    unfold body bdy bdy
    simp
  rw [h3]
  simp only [List.length_singleton, hr, hz] at h2 ⊢
  omega
theorem layB_val (a : List UInt8) (c : Cl) : c.val.length ≤ (layB a c).length := by
  unfold layB txt
  simp only [List.length_append]
  omega
theorem kn_two {z : List UInt8} (hz : z.length = 20000) : chkE [⟨[97], [120], 1, false, z⟩, ⟨[98], [120], 1, false, z⟩] 32768 = 0 ∧ (cutB [⟨[97], [120], 1, false, z⟩, ⟨[98], [120], 1, false, z⟩] 32768).length = 2 := by
  obtain ⟨c, hc⟩ : ∃ c : Cl, c = ⟨[97], [120], 1, false, z⟩ := ⟨_, rfl⟩
  obtain ⟨d, hd⟩ : ∃ d : Cl, d = ⟨[98], [120], 1, false, z⟩ := ⟨_, rfl⟩
  have c1 := kn_one (r := [97]) rfl hz
  have d1 := kn_one (r := [98]) rfl hz
  rw [← hc] at c1 ⊢
  rw [← hd] at d1 ⊢
  have hcd : ccl c d < 0 := by rw [hc, hd]; show cc [97] [120] 1 [98] [120] 1 < 0; decide +kernel
  have hbig : 40000 ≤ (blkB [c, d]).length := by
    rw [blkB_len]
    have e : body [c, d] = layB [] c ++ (layB c.row d ++ []) := rfl
    have v1 := layB_val [] c
    have v2 := layB_val c.row d
    have z1 : c.val.length = 20000 := by rw [hc]; exact hz
    have z2 : d.val.length = 20000 := by rw [hd]; exact hz
    rw [e, List.length_append, List.append_nil]
    omega
  have hok : okL [c, d] = true := okL_iff.2 ⟨by simp [c1.1, d1.1], by simp [Asc, hcd]⟩
  have hon : onesB [c, d] = true := by
    unfold onesB
    simp only [List.all_cons, List.all_nil, Bool.and_true, Bool.and_eq_true, decide_eq_true_eq]
    omega
  refine ⟨chk_iff.2 ⟨⟨by decide, by decide⟩, hok, hon⟩, ?_⟩
  have s1 : szB [c, d] 1 = (blkB [c]).length := rfl
  have s2 : szB [c, d] 2 = (blkB [c, d]).length := rfl
  have f1 : fil [c, d] 32768 = 1 := by
    have hn : n0 [c, d] 32768 = 2 := by
      show ful [c, d] 32768 1 1 = 2
      unfold ful
      rw [s1, if_neg (by omega)]
      rfl
    unfold fil
    rw [hn, s2, if_neg (by omega)]
  have f2 : fil [d] 32768 = 1 := by
    have hn : n0 [d] 32768 = 1 := rfl
    have s3 : szB [d] 1 = (blkB [d]).length := rfl
    unfold fil
    rw [hn, s3, if_pos (by omega)]
  show (cutN 2 [c, d] 32768).length = 2
  unfold cutN
  rw [if_neg (by simp), f1]
  show (_ :: cutN 1 [d] 32768).length = 2
  unfold cutN
  rw [if_neg (by simp), f2]
  rfl
/-- The bytes that are none's. -/
def l6 (s : List UInt8) : List (List UInt8) := [[], s ++ [0], s.drop 1, s.take 41, s.take 41 ++ [8], s.take 33 ++ [1] ++ s.drop 34]
theorem kn_six : ∀ x ∈ l6 (layT []), layT (opB x) ≠ x ∧ x.length ≤ 50 := by decide +kernel

end Go.Proofs.YtefmplmbalfmiaaDoor
