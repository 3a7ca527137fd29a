/-
  Lists of cells read back from their bytes: what is laid is read, and what is read was laid so.
  A block's bytes, as lists: what rows begin with alike, a cell's bytes by the row ahead, the places of the whole ones; that they are read back in one way alone.
  The contracts of block's small functions: common, tailSize, lay.
-/
import Derived.Test.YtmpnofbhbglfpaaGreatDoorGCTake
namespace Go.Proofs.YtmpnofbhbglfpaaGreatDoor

theorem okT_txt {m : Nat} {s r : List UInt8} (h : s.length ≤ m) (hm : m ≤ 10000000) : okT m (txt s ++ r) = true ∧ tV m (txt s ++ r) = s ∧ tR m (txt s ++ r) = r := by
  have hn := numOf_uvarint s.length (by omega) (s ++ r)
  have hp := Lib.uvarint_pos s.length
  have e : txt s ++ r = Lib.uvarint s.length ++ (s ++ r) := by simp [txt]
  have ho : okT m (txt s ++ r) = true := by
    unfold okT
    rw [e, hn]
    simp only [Bool.and_eq_true, decide_eq_true_eq, List.length_append]
    omega
  refine ⟨ho, ?_, ?_⟩
  · unfold tV
    rw [ho, if_pos rfl, e, hn]
    simp
  · unfold tR
    rw [ho, if_pos rfl, e, hn]
    simp [← List.drop_drop]
theorem okN_num {x : Nat} {r : List UInt8} (h : x < 18446744073709551616) : okN (Lib.uvarint x ++ r) = true ∧ nV (Lib.uvarint x ++ r) = x ∧ nR (Lib.uvarint x ++ r) = r := by
  have hn := numOf_uvarint x h r
  have hp := Lib.uvarint_pos x
  have ho : okN (Lib.uvarint x ++ r) = true := by
    unfold okN
    rw [hn]
    simp only [decide_eq_true_eq]
    omega
  refine ⟨ho, ?_, ?_⟩
  · unfold nV
    rw [ho, if_pos rfl, hn]
  · unfold nR
    rw [ho, if_pos rfl, hn]
    simp
theorem okC_ver {c : Cl} (h : okC c = true) : ((c.ver.toNat : Nat) : Int) = c.ver := by have := okC_len h; omega
/-- A cell that was laid is read. -/
theorem take_lay {c : Cl} (h : okC c = true) (r : List UInt8) : takeOk (layL c ++ r) = true ∧ cellOf (layL c ++ r) = c ∧ l5 (layL c ++ r) = r := by
  obtain ⟨k1, k2, k3, k4, k5⟩ := okC_len h
  have hv := okC_ver h
  obtain ⟨row, col, ver, gone, val⟩ := c
  simp only at k1 k2 k3 k4 k5 hv
  have e : layL ⟨row, col, ver, gone, val⟩ ++ r = txt row ++ (txt col ++ (Lib.uvarint ver.toNat ++ ((if gone then [1] else [0]) ++ (txt val ++ r)))) := by simp [layL]
  rw [e]
  obtain ⟨a1, a2, a3⟩ := okT_txt (m := 65536) (s := row) (r := txt col ++ (Lib.uvarint ver.toNat ++ ((if gone then [1] else [0]) ++ (txt val ++ r)))) (by omega) (by omega)
  obtain ⟨b1, b2, b3⟩ := okT_txt (m := 65536) (s := col) (r := Lib.uvarint ver.toNat ++ ((if gone then [1] else [0]) ++ (txt val ++ r))) (by omega) (by omega)
  obtain ⟨d1, d2, d3⟩ := okN_num (x := ver.toNat) (r := (if gone then [1] else [0]) ++ (txt val ++ r)) (by omega)
  obtain ⟨f1, f2, f3⟩ := okT_txt (m := 65536) (s := val) (r := r) (by omega) (by omega)
  have g1 : okB ((if gone then [1] else [0]) ++ (txt val ++ r)) = true := by cases gone <;> rfl
  have g2 : bR ((if gone then [1] else [0]) ++ (txt val ++ r)) = txt val ++ r := by cases gone <;> rfl
  have g3 : (bV ((if gone then [1] else [0]) ++ (txt val ++ r)) == 1) = gone := by cases gone <;> rfl
  have g4 : (bV ((if gone then [1] else [0]) ++ (txt val ++ r))).toNat ≤ 1 := by
    cases gone
    · show (0 : UInt8).toNat ≤ 1; decide
    · show (1 : UInt8).toNat ≤ 1; decide
  have hc : cellOf (txt row ++ (txt col ++ (Lib.uvarint ver.toNat ++ ((if gone then [1] else [0]) ++ (txt val ++ r))))) = ⟨row, col, ver, gone, val⟩ := by
    unfold cellOf l4 l3 l2 l1
    rw [a3, b3, d3, g2, a2, b2, d2, g3, f2, hv]
  refine ⟨?_, hc, ?_⟩
  · unfold takeOk
    rw [hc, h]
    unfold l4 l3 l2 l1
    rw [a3, b3, d3, g2, a1, b1, d1, g1, f1, decide_eq_true g4]
    rfl
  · unfold l5 l4 l3 l2 l1
    rw [a3, b3, d3, g2, f3]
theorem okT_back {m : Nat} {l : List UInt8} (h : okT m l = true) : l = txt (tV m l) ++ tR m l ∧ (tV m l).length ≤ m := by
  have h' := h
  simp only [okT, Bool.and_eq_true, decide_eq_true_eq] at h'
  obtain ⟨⟨h1, h2⟩, h3⟩ := h'
  obtain ⟨k1, k2, k3, k4, k5⟩ := numOf_back (l := l) (v := (numOf l).1) (n := (numOf l).2) rfl h1
  have hlen : ((l.drop (numOf l).2).take (numOf l).1).length = (numOf l).1 := by rw [List.length_take, List.length_drop]; omega
  unfold tV tR
  rw [h, if_pos rfl, if_pos rfl]
  refine ⟨?_, by rw [hlen]; exact h2⟩
  unfold txt
  rw [hlen, ← k5, List.append_assoc, ← List.drop_drop, List.take_append_drop, List.take_append_drop]
theorem okN_back {l : List UInt8} (h : okN l = true) : l = Lib.uvarint (nV l) ++ nR l ∧ nV l < 18446744073709551616 := by
  have h' := h
  simp only [okN, decide_eq_true_eq] at h'
  obtain ⟨k1, k2, k3, k4, k5⟩ := numOf_back (l := l) (v := (numOf l).1) (n := (numOf l).2) rfl h'
  unfold nV nR
  rw [h, if_pos rfl, if_pos rfl]
  exact ⟨by rw [← k5, List.take_append_drop], k4⟩
theorem okB_back {l : List UInt8} (h : okB l = true) : l = bV l :: bR l := by
  cases l with
  | nil => simp [okB] at h
  | cons x l => rfl
/-- A cell that is read was laid so. -/
theorem take_back {l : List UInt8} (h : takeOk l = true) : l = layL (cellOf l) ++ l5 l ∧ okC (cellOf l) = true := by
  simp only [takeOk, Bool.and_eq_true, decide_eq_true_eq] at h
  obtain ⟨⟨⟨⟨⟨⟨h1, h2⟩, h3⟩, h4⟩, h5⟩, h6⟩, h7⟩ := h
  refine ⟨?_, h7⟩
  have a := (okT_back h1).1
  have b := (okT_back h2).1
  have d := (okN_back h3).1
  have e := okB_back h4
  have f := (okT_back h5).1
  have hg : (if (bV (l3 l) == 1) = true then [1] else [0]) = [bV (l3 l)] := by
    generalize bV (l3 l) = x at h6
    by_cases hx : x = 1
    · subst hx; rfl
    · have h0 : x = 0 := by
        have : x.toNat ≠ 1 := fun e => hx (UInt8.toNat_inj.1 e)
        exact UInt8.toNat_inj.1 (show x.toNat = 0 by omega)
      subst h0
      rfl
  show l = layL ⟨tV 65536 l, tV 65536 (l1 l), (nV (l2 l) : Int), bV (l3 l) == 1, tV 65536 (l4 l)⟩ ++ l5 l
  unfold layL
  simp only [Int.toNat_natCast]
  rw [hg]
  show l = txt (tV 65536 l) ++ (txt (tV 65536 (l1 l)) ++ (Lib.uvarint (nV (l2 l)) ++ ([bV (l3 l)] ++ txt (tV 65536 (l4 l))))) ++ tR 65536 (l4 l)
  have e2 : l3 l = bV (l3 l) :: l4 l := e
  have d2 : l2 l = Lib.uvarint (nV (l2 l)) ++ l3 l := d
  have b2 : l1 l = txt (tV 65536 (l1 l)) ++ l2 l := b
  have a2 : l = txt (tV 65536 l) ++ l1 l := a
  have f2 : txt (tV 65536 (l4 l)) ++ tR 65536 (l4 l) = l4 l := f.symm
  simp only [List.append_assoc]
  rw [f2, List.singleton_append, ← e2, ← d2, ← b2, ← a2]

/-- n cells read, one behind the other. -/
def decN : Nat → List UInt8 → Option (List Cl × List UInt8)
  | 0, l => some ([], l)
  | n + 1, l => if takeOk l then (decN n (l5 l)).map (fun p => (cellOf l :: p.1, p.2)) else none
theorem decN_lay : ∀ (cs : List Cl) (r : List UInt8), cs.all okC = true → decN cs.length (bodyL cs ++ r) = some (cs, r)
  | [], r, _ => rfl
  | c :: cs, r, h => by
    rw [List.all_cons, Bool.and_eq_true] at h
    have e : bodyL (c :: cs) ++ r = layL c ++ (bodyL cs ++ r) := by simp [bodyL]
    obtain ⟨t1, t2, t3⟩ := take_lay h.1 (bodyL cs ++ r)
    rw [List.length_cons, decN, e, t1, if_pos rfl, t2, t3, decN_lay cs r h.2]
    rfl
theorem decN_back : ∀ (n : Nat) (l : List UInt8) (cs : List Cl) (r : List UInt8), decN n l = some (cs, r) → cs.length = n ∧ cs.all okC = true ∧ l = bodyL cs ++ r
  | 0, l, cs, r, h => by
    simp [decN] at h
    obtain ⟨rfl, rfl⟩ := h
    simp [bodyL]
  | n + 1, l, cs, r, h => by
    rw [decN] at h
    split at h
    · rename_i ht
      obtain ⟨p, hp, hq⟩ := Option.map_eq_some_iff.1 h
      obtain ⟨cs', r'⟩ := p
      simp only [Prod.mk.injEq] at hq
      obtain ⟨rfl, rfl⟩ := hq
      obtain ⟨k1, k2, k3⟩ := decN_back n _ _ _ hp
      obtain ⟨t1, t2⟩ := take_back ht
      refine ⟨by simp [k1], by rw [List.all_cons, t2, k2]; rfl, ?_⟩
      have : bodyL (cellOf l :: cs') = layL (cellOf l) ++ bodyL cs' := by simp [bodyL]
      rw [this, List.append_assoc, ← k3]
      exact t1
    · cases h
/-- Nothing may be left. -/
def fin : Option (List Cl × List UInt8) → Option (List Cl)
  | some (cs, []) => some cs
  | _ => none
/-- What Decode answers. -/
def decR (s : List UInt8) : Option (List Cl) :=
  if s.length ≤ 1048576 then (if okN s then fin (decN (nV s) (nR s)) else none) else none
theorem decR_enc {cs : List Cl} (h : cs.all okC = true) (hl : (encL cs).length ≤ 1048576) : decR (encL cs) = some cs := by
  have hb : cs.length < 18446744073709551616 := by
    have : cs.length ≤ (bodyL cs).length := by
      clear hl h
      induction cs with
      | nil => simp
      | cons c cs ih =>
        have e : bodyL (c :: cs) = layL c ++ bodyL cs := by simp [bodyL]
        rw [e, List.length_append, List.length_cons]
        have : 1 ≤ (layL c).length := by
          have := Lib.uvarint_pos c.row.length
          simp [layL, txt]
          omega
        omega
    unfold encL at hl
    rw [List.length_append] at hl
    omega
  obtain ⟨o1, o2, o3⟩ := okN_num (r := bodyL cs) hb
  have hd := decN_lay cs [] h
  rw [List.append_nil] at hd
  unfold decR
  rw [if_pos hl]
  show (if okN (Lib.uvarint cs.length ++ bodyL cs) = true then _ else none) = some cs
  rw [o1, if_pos rfl]
  show fin (decN (nV (Lib.uvarint cs.length ++ bodyL cs)) (nR (Lib.uvarint cs.length ++ bodyL cs))) = some cs
  rw [o2, o3, hd]
  rfl
theorem decR_back {s : List UInt8} {cs : List Cl} (h : decR s = some cs) : s = encL cs ∧ cs.all okC = true ∧ s.length ≤ 1048576 := by
  unfold decR at h
  split at h
  · rename_i hl
    split at h
    · rename_i ho
      obtain ⟨k1, k2⟩ := okN_back ho
      unfold fin at h
      split at h
      · rename_i cs' hd
        cases h
        obtain ⟨d1, d2, d3⟩ := decN_back _ _ _ _ hd
        refine ⟨?_, d2, hl⟩
        rw [List.append_nil] at d3
        unfold encL
        rw [d1, ← d3]
        exact k1
      · cases h
    · cases h
  · cases h
/-- No list's bytes with others behind them are a list's. -/
theorem decR_more {cs : List Cl} {t : List UInt8} (h : cs.all okC = true) (ht : t ≠ []) (hn : cs.length < 18446744073709551616) : decR (encL cs ++ t) = none := by
  unfold decR
  split
  · have e : encL cs ++ t = Lib.uvarint cs.length ++ (bodyL cs ++ t) := by simp [encL]
    obtain ⟨o1, o2, o3⟩ := okN_num (r := bodyL cs ++ t) hn
    rw [e, o1, if_pos rfl, o2, o3, decN_lay cs t h]
    cases t with
    | nil => exact absurd rfl ht
    | cons x t => rfl
  · rfl

end Go.Proofs.YtmpnofbhbglfpaaGreatDoor

namespace Go.Proofs.YtmpnofbhbglfpaaGreatDoor

/-- How many first bytes two texts have in common. -/
def cmn : List UInt8 → List UInt8 → Nat
  | a :: p, b :: q => if a = b then cmn p q + 1 else 0
  | _, _ => 0
theorem cmn_left : ∀ (a b : List UInt8), cmn a b ≤ a.length
  | [], _ => by simp [cmn]
  | _ :: _, [] => by simp [cmn]
  | a :: p, b :: q => by
    rw [cmn]
    have := cmn_left p q
    split <;> simp <;> omega
theorem cmn_right : ∀ (a b : List UInt8), cmn a b ≤ b.length
  | [], _ => by simp [cmn]
  | _ :: _, [] => by simp [cmn]
  | a :: p, b :: q => by
    rw [cmn]
    have := cmn_right p q
    split <;> simp <;> omega
theorem cmn_take : ∀ (a b : List UInt8), a.take (cmn a b) = b.take (cmn a b)
  | [], _ => by simp [cmn]
  | _ :: _, [] => by simp [cmn]
  | a :: p, b :: q => by
    rw [cmn]
    split
    · rename_i h
      rw [List.take_succ_cons, List.take_succ_cons, h, cmn_take p q]
    · simp
theorem cmn_nil (b : List UInt8) : cmn [] b = 0 := by cases b <;> rfl
theorem cmn_step {a b : List UInt8} {i : Nat} (ha : i < a.length) (hb : i < b.length) (h : a[i] = b[i]) (k : cmn a b = i + cmn (a.drop i) (b.drop i)) : cmn a b = i + 1 + cmn (a.drop (i + 1)) (b.drop (i + 1)) := by
  rw [List.drop_eq_getElem_cons ha, List.drop_eq_getElem_cons hb, cmn, if_pos h] at k
  omega
theorem cmn_here {a b : List UInt8} {i : Nat} (ha : i < a.length) (hb : i < b.length) (h : a[i] ≠ b[i]) (k : cmn a b = i + cmn (a.drop i) (b.drop i)) : cmn a b = i := by
  rw [List.drop_eq_getElem_cons ha, List.drop_eq_getElem_cons hb, cmn, if_neg h] at k
  omega
theorem cmn_end {a b : List UInt8} {i : Nat} (hi : a.length ≤ i ∨ b.length ≤ i) (k : cmn a b = i + cmn (a.drop i) (b.drop i)) : cmn a b = i := by
  have : cmn (a.drop i) (b.drop i) = 0 := by
    rcases hi with h | h
    · rw [List.drop_eq_nil_of_le h, cmn_nil]
    · rw [List.drop_eq_nil_of_le h]
      cases a.drop i <;> rfl
  omega

/-- The bytes of a cell, by the row ahead. -/
def layB (a : List UInt8) (c : Cl) : List UInt8 := Lib.uvarint (cmn a c.row) ++ (txt (c.row.drop (cmn a c.row)) ++ (txt c.col ++ (Lib.uvarint c.ver.toNat ++ ((if c.gone then [1] else [0]) ++ txt c.val))))
theorem layB_len {a : List UInt8} {c : Cl} (h : okC c = true) : (layB a c).length ≤ c.row.length + c.col.length + c.val.length + 21 + 33 ∧ 6 ≤ (layB a c).length := by
  obtain ⟨h1, h2, h3, h4, h5⟩ := okC_len h
  have hr := cmn_right a c.row
  have t1 := txt_len (s := c.row.drop (cmn a c.row)) (by rw [List.length_drop]; omega)
  have t2 := txt_len (s := c.col) (by omega)
  have t3 := txt_len (s := c.val) (by omega)
  have t4 := Lib.uvarint_length64 (x := c.ver.toNat) (by omega)
  have t5 := Lib.uvarint_length64 (x := cmn a c.row) (by omega)
  have p1 := Lib.uvarint_pos (cmn a c.row)
  have p2 := Lib.uvarint_pos (c.row.drop (cmn a c.row)).length
  have p3 := Lib.uvarint_pos c.col.length
  have p4 := Lib.uvarint_pos c.ver.toNat
  have p5 := Lib.uvarint_pos c.val.length
  rw [List.length_drop] at t1
  have q1 : 1 ≤ (txt (c.row.drop (cmn a c.row))).length := by unfold txt; rw [List.length_append]; omega
  have q2 : 1 ≤ (txt c.col).length := by unfold txt; rw [List.length_append]; omega
  have q3 : 1 ≤ (txt c.val).length := by unfold txt; rw [List.length_append]; omega
  unfold layB
  simp only [List.length_append]
  have g : ((if c.gone = true then [1] else [0]) : List UInt8).length = 1 := by cases c.gone <;> rfl
  rw [g]
  constructor <;> omega
theorem layB_pos (a : List UInt8) (c : Cl) : layB a c ≠ [] := by
  have := Lib.uvarint_pos (cmn a c.row)
  intro h
  have := congrArg List.length h
  unfold layB at this
  rw [List.length_append, List.length_nil] at this
  omega

/-- What is left behind each part of a cell, the texts being at most so long. -/
def q1 (l : List UInt8) : List UInt8 := nR l
def q2 (m : Nat) (l : List UInt8) : List UInt8 := tR m (q1 l)
def q3 (m k : Nat) (l : List UInt8) : List UInt8 := tR k (q2 m l)
def q4 (m k : Nat) (l : List UInt8) : List UInt8 := nR (q3 m k l)
def q5 (m k : Nat) (l : List UInt8) : List UInt8 := bR (q4 m k l)
def q6 (m k z : Nat) (l : List UInt8) : List UInt8 := tR z (q5 m k l)
/-- The cell with which bytes begin, behind a row. -/
def cellB (m k z : Nat) (a l : List UInt8) : Cl := ⟨a.take (nV l) ++ tV m (q1 l), tV k (q2 m l), (nV (q3 m k l) : Int), bV (q4 m k l) == 1, tV z (q5 m k l)⟩
/-- All its parts are there. -/
def rawB (m k z : Nat) (a l : List UInt8) : Bool := okN l && okT m (q1 l) && okT k (q2 m l) && okN (q3 m k l) && okB (q4 m k l) && okT z (q5 m k l) && decide ((bV (q4 m k l)).toNat ≤ 1) && decide (nV l ≤ a.length)
theorem cell_lay {c : Cl} {a : List UInt8} {m k z : Nat} (h : okC c = true) (hm : 32 ≤ m ∧ m ≤ 100000) (hk : 16 ≤ k ∧ k ≤ 100000) (hz : c.val.length ≤ z ∧ z ≤ 100000) (r : List UInt8) :
    rawB m k z a (layB a c ++ r) = true ∧ cellB m k z a (layB a c ++ r) = c ∧ q6 m k z (layB a c ++ r) = r ∧ nV (layB a c ++ r) = cmn a c.row := by
  obtain ⟨k1, k2, k3, k4, k5⟩ := okC_len h
  have hv := okC_ver h
  have hl := cmn_left a c.row
  have hr := cmn_right a c.row
  have ht := cmn_take a c.row
  obtain ⟨row, col, ver, gone, val⟩ := c
  simp only at k1 k2 k3 k4 k5 hv hl hr ht hz
  generalize hn : cmn a row = n at *
  have e : layB a ⟨row, col, ver, gone, val⟩ ++ r = Lib.uvarint n ++ (txt (row.drop n) ++ (txt col ++ (Lib.uvarint ver.toNat ++ ((if gone then [1] else [0]) ++ (txt val ++ r))))) := by simp [layB, hn]
  rw [e]
  obtain ⟨n1, n2, n3⟩ := okN_num (x := n) (r := txt (row.drop n) ++ (txt col ++ (Lib.uvarint ver.toNat ++ ((if gone then [1] else [0]) ++ (txt val ++ r))))) (by omega)
  obtain ⟨a1, a2, a3⟩ := okT_txt (m := m) (s := row.drop n) (r := txt col ++ (Lib.uvarint ver.toNat ++ ((if gone then [1] else [0]) ++ (txt val ++ r)))) (by rw [List.length_drop]; omega) (by omega)
  obtain ⟨b1, b2, b3⟩ := okT_txt (m := k) (s := col) (r := Lib.uvarint ver.toNat ++ ((if gone then [1] else [0]) ++ (txt val ++ r))) (by omega) (by omega)
  obtain ⟨d1, d2, d3⟩ := okN_num (x := ver.toNat) (r := (if gone then [1] else [0]) ++ (txt val ++ r)) (by omega)
  obtain ⟨f1, f2, f3⟩ := okT_txt (m := z) (s := val) (r := r) (by omega) (by omega)
  have g1 : okB ((if gone then [1] else [0]) ++ (txt val ++ r)) = true := by cases gone <;> rfl
  have g2 : bR ((if gone then [1] else [0]) ++ (txt val ++ r)) = txt val ++ r := by cases gone <;> rfl
  have g3 : (bV ((if gone then [1] else [0]) ++ (txt val ++ r)) == 1) = gone := by cases gone <;> rfl
  have g4 : (bV ((if gone then [1] else [0]) ++ (txt val ++ r))).toNat ≤ 1 := by
    cases gone
    · show (0 : UInt8).toNat ≤ 1; decide
    · show (1 : UInt8).toNat ≤ 1; decide
  have hc : cellB m k z a (Lib.uvarint n ++ (txt (row.drop n) ++ (txt col ++ (Lib.uvarint ver.toNat ++ ((if gone then [1] else [0]) ++ (txt val ++ r)))))) = ⟨row, col, ver, gone, val⟩ := by
    unfold cellB q5 q4 q3 q2 q1
    rw [n3, a3, b3, d3, g2, n2, a2, b2, d2, g3, f2, hv, ht, List.take_append_drop]
  refine ⟨?_, hc, ?_, n2⟩
  · unfold rawB q5 q4 q3 q2 q1
    rw [n3, a3, b3, d3, g2, n1, n2, a1, b1, d1, g1, f1, decide_eq_true g4, decide_eq_true hl]
    rfl
  · unfold q6 q5 q4 q3 q2 q1
    rw [n3, a3, b3, d3, g2, f3]
theorem cell_back {m k z : Nat} {a l : List UInt8} (h : rawB m k z a l = true) (hn : cmn a (cellB m k z a l).row = nV l) : l = layB a (cellB m k z a l) ++ q6 m k z l := by
  simp only [rawB, Bool.and_eq_true, decide_eq_true_eq] at h
  obtain ⟨⟨⟨⟨⟨⟨⟨h0, h1⟩, h2⟩, h3⟩, h4⟩, h5⟩, h6⟩, h7⟩ := h
  have o := (okN_back h0).1
  have e1 := (okT_back h1).1
  have b := (okT_back h2).1
  have d := (okN_back h3).1
  have e := okB_back h4
  have f := (okT_back h5).1
  have hg : (if (bV (q4 m k l) == 1) = true then [1] else [0]) = [bV (q4 m k l)] := by
    generalize bV (q4 m k l) = x at h6
    by_cases hx : x = 1
    · subst hx; rfl
    · have h0 : x = 0 := by
        have : x.toNat ≠ 1 := fun e => hx (UInt8.toNat_inj.1 e)
        exact UInt8.toNat_inj.1 (show x.toNat = 0 by omega)
      subst h0
      rfl
  have hd : (cellB m k z a l).row.drop (nV l) = tV m (q1 l) := by
    show (a.take (nV l) ++ tV m (q1 l)).drop (nV l) = _
    rw [List.drop_left' (by rw [List.length_take]; omega)]
  unfold layB
  rw [hn, hd]
  show l = Lib.uvarint (nV l) ++ (txt (tV m (q1 l)) ++ (txt (tV k (q2 m l)) ++ (Lib.uvarint (Int.toNat (nV (q3 m k l) : Int)) ++ ((if (bV (q4 m k l) == 1) = true then [1] else [0]) ++ txt (tV z (q5 m k l)))))) ++ tR z (q5 m k l)
  rw [hg, Int.toNat_natCast]
  have o2 : l = Lib.uvarint (nV l) ++ q1 l := o
  have a2 : q1 l = txt (tV m (q1 l)) ++ q2 m l := e1
  have b2 : q2 m l = txt (tV k (q2 m l)) ++ q3 m k l := b
  have d2 : q3 m k l = Lib.uvarint (nV (q3 m k l)) ++ q4 m k l := d
  have e2 : q4 m k l = bV (q4 m k l) :: q5 m k l := e
  have f2 : txt (tV z (q5 m k l)) ++ tR z (q5 m k l) = q5 m k l := f.symm
  simp only [List.append_assoc]
  rw [f2, List.singleton_append, ← e2, ← d2, ← b2, ← a2, ← o2]
theorem layB_inj {a : List UInt8} {c d : Cl} {x y : List UInt8} (hc : okC c = true) (hd : okC d = true) (h : layB a c ++ x = layB a d ++ y) : c = d ∧ x = y := by
  have k1 := okC_len hc
  have k2 := okC_len hd
  obtain ⟨_, c1, c2, _⟩ := cell_lay (a := a) (m := 32) (k := 16) (z := 65536) hc (by omega) (by omega) (by omega) x
  obtain ⟨_, d1, d2, _⟩ := cell_lay (a := a) (m := 32) (k := 16) (z := 65536) hd (by omega) (by omega) (by omega) y
  rw [h] at c1 c2
  exact ⟨c1.symm.trans d1, c2.symm.trans d2⟩
theorem q6_len {m k z : Nat} {a l : List UInt8} (h : rawB m k z a l = true) : (q6 m k z l).length + 1 ≤ l.length := by
  simp only [rawB, Bool.and_eq_true, decide_eq_true_eq] at h
  have o := (okN_back h.1.1.1.1.1.1.1).1
  have p := Lib.uvarint_pos (nV l)
  have e := congrArg List.length o
  rw [List.length_append] at e
  have e2 : (q6 m k z l).length ≤ (nR l).length := by
    unfold q6 q5 q4 q3 q2 q1
    have a1 := tR_len m (nR l)
    have a2 := tR_len k (tR m (nR l))
    have a3 := nR_len (tR k (tR m (nR l)))
    have a4 := bR_len (nR (tR k (tR m (nR l))))
    have a5 := tR_len z (bR (nR (tR k (tR m (nR l)))))
    omega
  omega

/-- What stands ahead of the cell behind these. -/
def lastR (a : List UInt8) : List Cl → List UInt8
  | [] => a
  | c :: l => lastR c.row l
theorem lastR_snoc (a : List UInt8) (l : List Cl) (c : Cl) : lastR a (l ++ [c]) = c.row := by
  induction l generalizing a with
  | nil => rfl
  | cons x l ih => exact ih x.row
theorem lastR_get (a : List UInt8) (l : List Cl) (i : Nat) (hi : i < l.length) : lastR a (l.take (i + 1)) = l[i].row := by
  rw [List.take_succ_eq_append_getElem hi, lastR_snoc]
/-- The row by which the cell behind these is laid. -/
def ahd (l : List Cl) : List UInt8 := if l.length % 8 = 0 then [] else lastR [] l
theorem ahd_whole {l : List Cl} (h : l.length % 8 = 0) : ahd l = [] := if_pos h
theorem ahd_not {l : List Cl} (h : l.length % 8 ≠ 0) : ahd l = lastR [] l := if_neg h
/-- Cells laid behind others, of which the first k are laid. -/
def bdy (k : Nat) (a : List UInt8) : List Cl → List UInt8
  | [] => []
  | c :: l => layB (if k % 8 = 0 then [] else a) c ++ bdy (k + 1) c.row l
theorem bdy_append (k : Nat) (a : List UInt8) (l r : List Cl) : bdy k a (l ++ r) = bdy k a l ++ bdy (k + l.length) (lastR a l) r := by
  induction l generalizing k a with
  | nil => rfl
  | cons c l ih =>
    rw [List.cons_append, bdy, ih, bdy, List.append_assoc, List.length_cons, lastR, show k + (l.length + 1) = k + 1 + l.length by omega]
def body (l : List Cl) : List UInt8 := bdy 0 [] l
theorem body_append (l r : List Cl) : body (l ++ r) = body l ++ bdy l.length (lastR [] l) r := by
  unfold body
  rw [bdy_append, Nat.zero_add]
theorem body_snoc (l : List Cl) (c : Cl) : body (l ++ [c]) = body l ++ layB (ahd l) c := by
  rw [body_append, bdy, bdy, List.append_nil]
  rfl
theorem body_cons (l : List Cl) (c : Cl) (r : List Cl) : body (l ++ c :: r) = body l ++ (layB (ahd l) c ++ bdy (l.length + 1) c.row r) := by
  rw [body_append, bdy]
  rfl
theorem bdy_inj : ∀ (k : Nat) (a : List UInt8) (l r : List Cl), l.all okC = true → r.all okC = true → bdy k a l = bdy k a r → l = r
  | _, _, [], [], _, _, _ => rfl
  | k, a, [], c :: r, _, _, h => by
    rw [bdy, bdy] at h
    exact absurd (List.append_eq_nil_iff.1 h.symm).1 (layB_pos _ _)
  | k, a, c :: l, [], _, _, h => by
    rw [bdy, bdy] at h
    exact absurd (List.append_eq_nil_iff.1 h).1 (layB_pos _ _)
  | k, a, c :: l, d :: r, hl, hr, h => by
    rw [List.all_cons, Bool.and_eq_true] at hl hr
    rw [bdy, bdy] at h
    obtain ⟨rfl, e⟩ := layB_inj hl.1 hr.1 h
    rw [bdy_inj (k + 1) c.row l r hl.2 hr.2 e]
theorem bod_mono (l r : List Cl) : (body l).length ≤ (body (l ++ r)).length := by rw [body_append, List.length_append]; omega
theorem body_many (l : List Cl) (h : l.all okC = true) : 6 * l.length ≤ (body l).length := by
  unfold body
  generalize 0 = k, ([] : List UInt8) = a
  induction l generalizing k a with
  | nil => simp
  | cons c l ih =>
    rw [List.all_cons, Bool.and_eq_true] at h
    have := (layB_len (a := if k % 8 = 0 then [] else a) h.1).2
    have := ih h.2 (k + 1) c.row
    rw [bdy, List.length_append, List.length_cons]
    omega

/-- The places of the whole ones. -/
def whlN : Nat → List Cl → List Nat
  | 0, _ => []
  | n + 1, l => if n % 8 = 0 then whlN n l ++ [(body (l.take n)).length] else whlN n l
def whl (l : List Cl) : List Nat := whlN l.length l
theorem whlN_append (l r : List Cl) : ∀ n, n ≤ l.length → whlN n (l ++ r) = whlN n l
  | 0, _ => rfl
  | n + 1, h => by
    rw [whlN, whlN, whlN_append l r n (by omega), List.take_append_of_le_length (by omega)]
theorem whl_nil : whl [] = [] := rfl
theorem whl_snoc (l : List Cl) (c : Cl) : whl (l ++ [c]) = if l.length % 8 = 0 then whl l ++ [(body l).length] else whl l := by
  unfold whl
  rw [List.length_append, List.length_singleton, whlN, whlN_append l [c] _ (Nat.le_refl _), List.take_left' rfl]
theorem whlN_len (l : List Cl) : ∀ n, (whlN n l).length = (n + 7) / 8
  | 0 => rfl
  | n + 1 => by
    rw [whlN]
    have := whlN_len l n
    split
    · rw [List.length_append, List.length_singleton]; omega
    · omega
theorem whl_len (l : List Cl) : (whl l).length = (l.length + 7) / 8 := whlN_len l _
theorem whlN_le (l : List Cl) : ∀ n, ∀ p ∈ whlN n l, p ≤ (body l).length
  | 0, p, h => by simp [whlN] at h
  | n + 1, p, h => by
    rw [whlN] at h
    split at h
    · rcases List.mem_append.1 h with h | h
      · exact whlN_le l n p h
      · rw [List.mem_singleton] at h
        have := bod_mono (l.take n) (l.drop n)
        rw [List.take_append_drop] at this
        omega
    · exact whlN_le l n p h
theorem whl_le (l : List Cl) : ∀ p ∈ whl l, p ≤ (body l).length := whlN_le l _
/-- A number in two bytes, the highest first. -/
def be2 (n : Nat) : List UInt8 := [(n / 256 % 256).toUInt8, (n % 256).toUInt8]
def tailB (ws : List Nat) : List UInt8 := ws.flatMap be2 ++ be2 ws.length
theorem flat_len (ws : List Nat) : (ws.flatMap be2).length = 2 * ws.length := by
  induction ws with
  | nil => rfl
  | cons w ws ih => rw [List.flatMap_cons, List.length_append, ih, List.length_cons]; simp [be2]; omega
theorem tailB_len (ws : List Nat) : (tailB ws).length = 2 * ws.length + 2 := by
  unfold tailB
  rw [List.length_append, flat_len]
  rfl
/-- A block's bytes. -/
def blkB (l : List Cl) : List UInt8 := body l ++ tailB (whl l)
theorem blkB_len (l : List Cl) : (blkB l).length = (body l).length + 2 * ((l.length + 7) / 8) + 2 := by
  unfold blkB
  rw [List.length_append, tailB_len, whl_len]
  omega
theorem blkB_mono (l r : List Cl) : (blkB l).length ≤ (blkB (l ++ r)).length := by
  rw [blkB_len, blkB_len, List.length_append]
  have := bod_mono l r
  omega

/-- Cells in order, each ahead of the next one. -/
def ascB : List Cl → Bool
  | [] => true
  | [_] => true
  | a :: b :: l => decide (ccl a b < 0) && ascB (b :: l)
theorem ascB_iff (l : List Cl) : ascB l = true ↔ Asc l := by
  induction l with
  | nil => simp [ascB, Asc]
  | cons a l ih =>
    cases l with
    | nil => simp [ascB, Asc]
    | cons b l =>
      rw [ascB, Bool.and_eq_true, decide_eq_true_eq, ih]
      constructor
      · rintro ⟨h1, h2⟩
        refine List.pairwise_cons.2 ⟨fun y hy => ?_, h2⟩
        rcases List.mem_cons.1 hy with rfl | hy
        · exact h1
        · exact ccl_lt_trans h1 ((List.pairwise_cons.1 h2).1 y hy)
      · intro h
        obtain ⟨h1, h2⟩ := List.pairwise_cons.1 h
        exact ⟨h1 b (by simp), h2⟩
theorem Asc.snoc {l : List Cl} {c : Cl} (h : Asc l) (k : ∀ x ∈ l.getLast?, ccl x c < 0) : Asc (l ++ [c]) := by
  refine List.pairwise_append.2 ⟨h, by simp, fun x hx y hy => ?_⟩
  rw [List.mem_singleton] at hy
  subst hy
  have hne : l ≠ [] := List.ne_nil_of_mem hx
  have hl : l = l.dropLast ++ [l.getLast hne] := (List.dropLast_concat_getLast hne).symm
  have kk := k (l.getLast hne) (by rw [List.getLast?_eq_some_getLast hne]; rfl)
  rw [hl] at hx h
  rcases List.mem_append.1 hx with hx | hx
  · exact ccl_lt_trans ((List.pairwise_append.1 h).2.2 x hx _ (by simp)) kk
  · rw [List.mem_singleton] at hx
    rw [hx]
    exact kk
/-- A block's cells. -/
structure Good (l : List Cl) : Prop where
  ok : l.all okC = true
  asc : Asc l
  len : (blkB l).length ≤ 32768
theorem Good.ws {l : List Cl} (h : Good l) : (whl l).length < 65536 ∧ 2 * (whl l).length + 2 ≤ 32768 := by
  have := h.len
  rw [blkB_len] at this
  rw [whl_len]
  omega

/-- What the last two bytes say. -/
def rd2 (a b : UInt8) : Nat := a.toNat * 256 + b.toNat
theorem rd2_be2 {n : Nat} (h : n < 65536) : rd2 (n / 256 % 256).toUInt8 (n % 256).toUInt8 = n := by
  unfold rd2
  rw [show (n / 256 % 256).toUInt8.toNat = n / 256 % 256 by simp [Nat.toUInt8], show (n % 256).toUInt8.toNat = n % 256 by simp [Nat.toUInt8]]
  omega
/-- How many bytes stand behind the cells, as the last two bytes say. -/
def tl2 (s : List UInt8) : Nat := match s.reverse with
  | b :: a :: _ => 2 * rd2 a b + 2
  | _ => 0
theorem tl2_blk {x : List UInt8} {ws : List Nat} (h : ws.length < 65536) : tl2 (x ++ tailB ws) = 2 * ws.length + 2 := by
  have e : (x ++ tailB ws).reverse = (ws.length % 256).toUInt8 :: (ws.length / 256 % 256).toUInt8 :: (x ++ ws.flatMap be2).reverse := by
    unfold tailB be2
    simp
  unfold tl2
  rw [e]
  simp only
  rw [rd2_be2 h]
theorem tl2_get {s : List UInt8} (h : 2 ≤ s.length) : tl2 s = 2 * rd2 (s[s.length - 2]'(by omega)) (s[s.length - 1]'(by omega)) + 2 := by
  have e : s = s.take (s.length - 2) ++ [s[s.length - 2]'(by omega), s[s.length - 1]'(by omega)] := by
    apply List.ext_getElem
    · simp; omega
    · intro i h1 h2
      by_cases hi : i < s.length - 2
      · rw [List.getElem_append_left (by simp; omega), List.getElem_take]
      · rw [List.getElem_append_right (by simp; omega)]
        have hl : (s.take (s.length - 2)).length = s.length - 2 := by simp
        by_cases hj : i = s.length - 2
        · subst hj
          simp
        · have : i = s.length - 1 := by omega
          subst this
          have e2 : s.length - 1 - (s.take (s.length - 2)).length = 1 := by rw [hl]; omega
          simp only [e2]
          rfl
  have e3 : s.reverse = s[s.length - 1]'(by omega) :: s[s.length - 2]'(by omega) :: (s.take (s.length - 2)).reverse := by
    conv => lhs; rw [e]
    simp
  unfold tl2
  rw [e3]
theorem Good.parts {l : List Cl} (h : Good l) : tl2 (blkB l) = 2 * (whl l).length + 2 ∧ (blkB l).take ((blkB l).length - tl2 (blkB l)) = body l ∧ (blkB l).drop ((blkB l).length - tl2 (blkB l)) = tailB (whl l) ∧ tl2 (blkB l) ≤ (blkB l).length ∧ 2 ≤ (blkB l).length := by
  have e : tl2 (blkB l) = 2 * (whl l).length + 2 := tl2_blk h.ws.1
  have n : (blkB l).length - tl2 (blkB l) = (body l).length := by rw [e, blkB_len, whl_len]; omega
  rw [n]
  refine ⟨e, by unfold blkB; simp, by unfold blkB; simp, ?_, ?_⟩
  · rw [e, blkB_len, whl_len]; omega
  · rw [blkB_len]; omega
theorem Good.inj {l r : List Cl} (h : Good l) (k : Good r) (e : blkB l = blkB r) : l = r := by
  have a := h.parts.2.1
  have b := k.parts.2.1
  rw [e, b] at a
  exact (bdy_inj 0 [] r l k.ok h.ok a).symm

/-- Bytes are a block's that begins with these cells, and goes on with those bytes. -/
def Goes (b : List UInt8) (l : List Cl) (r : List UInt8) : Prop := ∀ cs, Good cs → body cs = b → ∃ ds, cs = l ++ ds ∧ r = bdy l.length (lastR [] l) ds
theorem Goes.start (b : List UInt8) : Goes b [] b := fun cs _ h => ⟨cs, rfl, h.symm⟩
theorem Goes.end_ {b : List UInt8} {l : List Cl} (h : Goes b l []) {cs : List Cl} (g : Good cs) (e : body cs = b) : cs = l := by
  obtain ⟨ds, h1, h2⟩ := h cs g e
  cases ds with
  | nil => rw [h1, List.append_nil]
  | cons d ds =>
    rw [bdy] at h2
    exact absurd (List.append_eq_nil_iff.1 h2.symm).1 (layB_pos _ _)
/-- The next cell is what the bytes say, whatever texts are allowed. -/
theorem Goes.next {b : List UInt8} {l : List Cl} {r : List UInt8} {m k z : Nat} (h : Goes b l r) (hr : r ≠ []) (hm : 32 ≤ m ∧ m ≤ 100000) (hk : 16 ≤ k ∧ k ≤ 100000) (hz : 32768 ≤ z ∧ z ≤ 100000) {cs : List Cl} (g : Good cs) (e : body cs = b) :
    ∃ c ds, cs = l ++ c :: ds ∧ okC c = true ∧ rawB m k z (ahd l) r = true ∧ cellB m k z (ahd l) r = c ∧ nV r = cmn (ahd l) c.row ∧ q6 m k z r = bdy (l.length + 1) c.row ds := by
  obtain ⟨ds, h1, h2⟩ := h cs g e
  cases ds with
  | nil => exact absurd h2 hr
  | cons c ds =>
    have hc : okC c = true := by
      have := g.ok
      rw [h1, List.all_append, List.all_cons, Bool.and_eq_true, Bool.and_eq_true] at this
      exact this.2.1
    have h3 : r = layB (ahd l) c ++ bdy (l.length + 1) c.row ds := h2
    have hv : c.val.length ≤ 32768 := by
      have gl := g.len
      rw [blkB_len, h1, body_cons, List.length_append, List.length_append] at gl
      have : c.val.length ≤ (layB (ahd l) c).length := by
        unfold layB txt
        simp only [List.length_append]
        omega
      omega
    obtain ⟨a1, a2, a3, a4⟩ := cell_lay (a := ahd l) (m := m) (k := k) (z := z) hc hm hk (by omega) (bdy (l.length + 1) c.row ds)
    rw [← h3] at a1 a2 a3 a4
    exact ⟨c, ds, h1, hc, a1, a2, a4, a3⟩
theorem Goes.step {b : List UInt8} {l : List Cl} {r : List UInt8} {m k z : Nat} (h : Goes b l r) (hr : r ≠ []) (hm : 32 ≤ m ∧ m ≤ 100000) (hk : 16 ≤ k ∧ k ≤ 100000) (hz : 32768 ≤ z ∧ z ≤ 100000) : Goes b (l ++ [cellB m k z (ahd l) r]) (q6 m k z r) := by
  intro cs g e
  obtain ⟨c, ds, h1, _, _, h4, _, h6⟩ := h.next hr hm hk hz g e
  refine ⟨ds, by rw [h1, h4]; simp, ?_⟩
  rw [h6, lastR_snoc, h4, List.length_append, List.length_singleton]

end Go.Proofs.YtmpnofbhbglfpaaGreatDoor

namespace Go.Proofs.YtmpnofbhbglfpaaGreatDoor
open Go.RowKit Go.BigFrame Go.Sort
attribute [local go_sem] size_bstr getElem_bstr toList_bstr

set_option maxHeartbeats 1000000 in
set_option maxRecDepth 100000 in
theorem common_any (a b : List UInt8) (w : World) (ha : a.length ≤ 1000000) :
    Calls Tryz.prog 131 #[.string (bstr a), .string (bstr b)] w fun e w' => e = .returned (.int .i64 (cmn a b : Int)) ∧ RowKit.Below w.heap.size w w' := by
  go_enter Tryz.func131, Tryz.ntmps131
  go_wp2
  obtain ⟨m, hm⟩ : ∃ m : Nat, (min (a.length : Int) (b.length : Int)) = (m : Int) := ⟨min a.length b.length, by omega⟩
  have hma : m ≤ a.length := by omega
  have hmb : m ≤ b.length := by omega
  have hme : a.length ≤ m ∨ b.length ≤ m := by omega
  rw [hm]
  clear hm
  have HME : Hid _ := hme
  clear hme
  go_loopw [13] (fun s13 wr => ∃ i : Nat, s13 = .int .i64 (i : Int) ∧ i ≤ m ∧ Hid (cmn a b = i + cmn (a.drop i) (b.drop i)) ∧ RowKit.Below w.heap.size w wr) (fun s13 _ => m - (intOf s13).toNat)
  case atStart => exact ⟨0, rfl, by omega, by show _ = _; simp, RowKit.Below.refl _ _⟩
  case round =>
    obtain ⟨i, rfl, him, HC, hbel⟩ := hrel
    by_cases hlt : i < m
    · have ha' : i < a.length := by omega
      have hb' : i < b.length := by omega
      by_cases he : a[i] = b[i]
      · have HE : Hid _ := he
        have hq : ((a[i].toNat : Int) == (b[i].toNat : Int)) = true := by rw [he]; simp
        clear he
        go_wp2_with fail
        go_quiet (fail)
        have hbq := below_drewN hbel nq
        go_wp2
        go_roundw
        case rel => exact ⟨i + 1, by go_num, by omega, cmn_step ha' hb' HE.out HC.out, hbq⟩
        case measure => simp [intOf]; omega
      · have HE : Hid _ := he
        have hq : ((a[i].toNat : Int) == (b[i].toNat : Int)) = false := by
          rw [beq_eq_false_iff_ne]
          intro h
          exact he (UInt8.toNat_inj.1 (by omega))
        clear he
        go_wp2_with fail
        go_quiet (fail)
        have hbq := below_drewN hbel nq
        go_wp2
        go_ret
        exact ⟨by rw [cmn_here ha' hb' HE.out HC.out]; rfl, hbq⟩
    · have hie : i = m := by omega
      subst hie
      go_wp2
      go_ret
      exact ⟨by rw [cmn_end HME.out HC.out]; rfl, hbel⟩
theorem tailSize_any (n : Nat) (w : World) (h : n ≤ 1000000) : Calls Tryz.prog 96 #[.int .i64 (n : Int)] w fun e w' => e = .returned (.int .i64 ((2 * n + 2 : Nat) : Int)) ∧ w' = w := by
  go_enter Tryz.func96, Tryz.ntmps96
  go_wp2
  go_ret
  exact ⟨by go_num, rfl⟩

/-- 's[i:]', 's[:n]'. -/
theorem erun_from {P : Program} (t : TypeId) (L : List UInt8) (i : Nat) (hi : i ≤ L.length) (w : World) (ht : P.underlying t = some .string) :
    (Instr.slice t (.string (bstr L)) (some (.int .i64 (i : Int))) none none).run P w = .ok (.string (bstr (L.drop i))) w := by
  have h := run_slice_string_l (P := P) (t := t) (s := bstr L) (w := w) ht .i64 (i : Int) (by omega) (by rw [size_bstr]; omega)
  rw [h]
  have e2 : (bstr L).extract ((i : Int).toNat) (bstr L).size = bstr (L.drop i) := by
    apply ByteArray.ext
    rw [size_bstr]
    simp only [bstr, ByteArray.data_extract, List.extract_toArray, Int.toNat_natCast, List.extract_eq_take_drop]
    rw [List.take_of_length_le (by rw [List.length_drop]; omega)]
  rw [e2]
theorem erun_head {P : Program} (t : TypeId) (k : IntKind) (L : List UInt8) (n : Nat) (hn : n ≤ L.length) (w : World) (ht : P.underlying t = some .string) :
    (Instr.slice t (.string (bstr L)) none (some (.int k (n : Int))) none).run P w = .ok (.string (bstr (L.take n))) w := by
  have h := run_slice_string_h (P := P) (t := t) (s := bstr L) (w := w) ht k (n : Int) (by omega) (by rw [size_bstr]; omega)
  rw [h]
  have e2 : (bstr L).extract 0 ((n : Int).toNat) = bstr (L.take n) := by
    apply ByteArray.ext
    simp [bstr]
  rw [e2]

set_option maxHeartbeats 2000000 in
set_option maxRecDepth 100000 in
theorem blay_any (c : Cl) (a : List UInt8) (w : World) (hc : okC c = true) (ha : a.length ≤ 1000) :
    Calls Tryz.prog 95 #[clV c, .string (bstr a)] w fun e w' => e = .returned (.string (bstr (layB a c))) ∧ RowKit.Below w.heap.size w w' := by
  obtain ⟨h1, h2, h3, h4, h5⟩ := okC_len hc
  clear hc
  obtain ⟨r, k, v, z, x⟩ := c
  simp only at h1 h2 h3 h4 h5
  have hB : RowKit.Below w.heap.size w (w.alloc (.cells #[.string (bstr r), .string (bstr k), .int .u64 v, .bool z, .string (bstr x)] 39)) := (RowKit.Below.refl _ _).alloc (Nat.le_refl _) _
  have hA := CellAt.new w 39 r k v z x
  have hcm := fun W => common_any a r W (by omega)
  have hnl := cmn_right a r
  obtain ⟨n, hn⟩ : ∃ n, cmn a r = n := ⟨_, rfl⟩
  rw [hn] at hnl
  have e0 := Lib.uvarint_length64 (x := n) (by omega)
  have e1 := txt_len (s := r.drop n) (by rw [List.length_drop]; omega)
  rw [List.length_drop] at e1
  have e2 := txt_len (s := k) (by omega)
  have e3 := Lib.uvarint_length64 (x := v.toNat) (by omega)
  have l2 : (Lib.uvarint n ++ txt (r.drop n)).length ≤ 10000000000 := by rw [List.length_append]; omega
  have l3 : (Lib.uvarint n ++ txt (r.drop n) ++ txt k).length ≤ 10000000000 := by rw [List.length_append, List.length_append]; omega
  have l4 : (Lib.uvarint n ++ txt (r.drop n) ++ txt k ++ Lib.uvarint v.toNat).length ≤ 10000000000 := by rw [List.length_append, List.length_append, List.length_append]; omega
  have l5' : ∀ {g : UInt8}, (Lib.uvarint n ++ txt (r.drop n) ++ txt k ++ Lib.uvarint v.toNat ++ [g]).length ≤ 10000000000 := by intro g; rw [List.length_append, List.length_append, List.length_append, List.length_append, List.length_singleton]; omega
  have p1 : ∀ W, Calls Tryz.prog 56 #[.string ⟨#[]⟩, .int .u64 (n : Int)] W fun e w' => e = .returned (.string (bstr (Lib.uvarint n))) ∧ RowKit.Below W.heap.size W w' := fun W => putNum [] n W (by omega) (by simp)
  have p2 : ∀ W, Calls Tryz.prog 102 #[.string (bstr (Lib.uvarint n)), .string (bstr (r.drop n))] W fun e w' => e = .returned (.string (bstr (Lib.uvarint n ++ txt (r.drop n)))) ∧ RowKit.Below W.heap.size W w' := fun W => putText _ _ W (by omega) (by rw [List.length_drop]; omega)
  have p3 : ∀ W, Calls Tryz.prog 102 #[.string (bstr (Lib.uvarint n ++ txt (r.drop n))), .string (bstr k)] W fun e w' => e = .returned (.string (bstr (Lib.uvarint n ++ txt (r.drop n) ++ txt k))) ∧ RowKit.Below W.heap.size W w' := fun W => putText _ _ W l2 (by omega)
  have p3b : ∀ W, Calls Tryz.prog 56 #[.string (bstr (Lib.uvarint n ++ txt (r.drop n) ++ txt k)), .int .u64 v] W fun e w' => e = .returned (.string (bstr (Lib.uvarint n ++ txt (r.drop n) ++ txt k ++ Lib.uvarint v.toNat))) ∧ RowKit.Below W.heap.size W w' := by
    intro W
    have := putNum (Lib.uvarint n ++ txt (r.drop n) ++ txt k) v.toNat W (by omega) l3
    rw [Int.toNat_of_nonneg (by omega)] at this
    exact this
  have hsl := fun W => erun_from (P := Tryz.prog) 9 r n hnl W Tryz.underlying9
  rw [hn] at hcm
  clear e0 e1 e2 e3
  go_enter Tryz.func95, Tryz.ntmps95
  go_wp2_with fail
  generalize w.alloc (.cells #[.string (bstr r), .string (bstr k), .int .u64 v, .bool z, .string (bstr x)] 39) = W at *
  refine (hcm _).mono ?_
  rintro e w1 ⟨rfl, hb1⟩
  replace hB := below2 hB hb1
  replace hA := hA.step hb1
  clear hb1 hcm
  cases z with
  | true =>
    have p4 : ∀ W, Calls Tryz.prog 132 #[.string (bstr (Lib.uvarint n ++ txt (r.drop n) ++ txt k ++ Lib.uvarint v.toNat)), .int .u8 1] W fun e w' => e = .returned (.string (bstr (Lib.uvarint n ++ txt (r.drop n) ++ txt k ++ Lib.uvarint v.toNat ++ [1]))) ∧ RowKit.Below W.heap.size W w' := fun W => putByte _ 1 W (by omega) l4
    have p5 : ∀ W, Calls Tryz.prog 102 #[.string (bstr (Lib.uvarint n ++ txt (r.drop n) ++ txt k ++ Lib.uvarint v.toNat ++ [1])), .string (bstr x)] W fun e w' => e = .returned (.string (bstr (Lib.uvarint n ++ txt (r.drop n) ++ txt k ++ Lib.uvarint v.toNat ++ [1] ++ txt x))) ∧ RowKit.Below W.heap.size W w' := fun W => putText _ x W l5' (by omega)
    have HL : Hid (layB a ⟨r, k, v, true, x⟩ = Lib.uvarint n ++ txt (r.drop n) ++ txt k ++ Lib.uvarint v.toNat ++ [1] ++ txt x) := by
      show _ = _
      unfold layB
      simp [hn]
    clear hn l2 l3 l4 l5'
    generalize Lib.uvarint n ++ txt (r.drop n) ++ txt k ++ Lib.uvarint v.toNat ++ [1] ++ txt x = L6 at *
    generalize Lib.uvarint n ++ txt (r.drop n) ++ txt k ++ Lib.uvarint v.toNat ++ [1] = L5 at *
    generalize Lib.uvarint n ++ txt (r.drop n) ++ txt k ++ Lib.uvarint v.toNat = L4 at *
    generalize Lib.uvarint n ++ txt (r.drop n) ++ txt k = L3 at *
    generalize Lib.uvarint n ++ txt (r.drop n) = L2 at *
    generalize Lib.uvarint n = L1 at *
    generalize r.drop n = rd at *
    obtain ⟨c0, c1, c2, c3, c4⟩ := id hA
    go_wp2_with fail
    have q0 := fun d os => cell_regrown hA.c0 d os
    refine wp_region_quiet_below (by kernel_rfl) (by kernel_rfl) ?_
    repeat (go_big_quiet_step (first
      | (go_at_call 56; with_reducible exact Calls.regrown_of (p1 _))
      | (go_at_call 102; with_reducible exact Calls.regrown_of (p2 _))))
    refine wpQuiet_nil ?_
    intro _ hw'
    obtain ⟨⟨dq, osq⟩, hw''⟩ := hw'
    subst hw''
    have hb2 := below_regrown w1 dq osq
    replace hB := below2 hB hb2
    replace hA := hA.step hb2
    clear q0 hb2 c0 c1 c2 c3 c4
    generalize grow (redrawn w1 dq) osq = w2 at *
    go_wp2_with fail
    have q1 := fun d os => cell_regrown hA.c1 d os
    have q2 := fun d os => cell_regrown hA.c2 d os
    refine wp_region_quiet_below (by kernel_rfl) (by kernel_rfl) ?_
    repeat (go_big_quiet_step (first
      | (go_at_call 102; with_reducible exact Calls.regrown_of (p3 _))
      | (go_at_call 56; with_reducible exact Calls.regrown_of (p3b _))))
    refine wpQuiet_nil ?_
    intro _ hw'
    obtain ⟨⟨dq3, osq3⟩, hw''⟩ := hw'
    subst hw''
    have hb3 := below_regrown w2 dq3 osq3
    replace hB := below2 hB hb3
    replace hA := hA.step hb3
    clear q1 q2 hb3
    generalize grow (redrawn w2 dq3) osq3 = w3 at *
    go_wp2_with fail
    have q4 := fun d os => cell_regrown hA.c4 d os
    refine wp_region_quiet_below (by kernel_rfl) (by kernel_rfl) ?_
    repeat (go_big_quiet_step (first
      | (go_at_call 132; with_reducible exact Calls.regrown_of (p4 _))
      | (go_at_call 102; with_reducible exact Calls.regrown_of (p5 _))))
    refine wpQuiet_nil ?_
    intro _ hw'
    obtain ⟨⟨dq4, osq4⟩, hw''⟩ := hw'
    subst hw''
    have hb4 := below_regrown w3 dq4 osq4
    replace hB := below2 hB hb4
    clear q4 hb4 hA
    generalize grow (redrawn w3 dq4) osq4 = w4 at *
    go_wp2
    go_ret
    exact ⟨by rw [HL.out]; rfl, hB⟩
  | false =>
    have p4 : ∀ W, Calls Tryz.prog 132 #[.string (bstr (Lib.uvarint n ++ txt (r.drop n) ++ txt k ++ Lib.uvarint v.toNat)), .int .u8 0] W fun e w' => e = .returned (.string (bstr (Lib.uvarint n ++ txt (r.drop n) ++ txt k ++ Lib.uvarint v.toNat ++ [0]))) ∧ RowKit.Below W.heap.size W w' := fun W => putByte _ 0 W (by omega) l4
    have p5 : ∀ W, Calls Tryz.prog 102 #[.string (bstr (Lib.uvarint n ++ txt (r.drop n) ++ txt k ++ Lib.uvarint v.toNat ++ [0])), .string (bstr x)] W fun e w' => e = .returned (.string (bstr (Lib.uvarint n ++ txt (r.drop n) ++ txt k ++ Lib.uvarint v.toNat ++ [0] ++ txt x))) ∧ RowKit.Below W.heap.size W w' := fun W => putText _ x W l5' (by omega)
    have HL : Hid (layB a ⟨r, k, v, false, x⟩ = Lib.uvarint n ++ txt (r.drop n) ++ txt k ++ Lib.uvarint v.toNat ++ [0] ++ txt x) := by
      show _ = _
      unfold layB
      simp [hn]
    clear hn l2 l3 l4 l5'
    generalize Lib.uvarint n ++ txt (r.drop n) ++ txt k ++ Lib.uvarint v.toNat ++ [0] ++ txt x = L6 at *
    generalize Lib.uvarint n ++ txt (r.drop n) ++ txt k ++ Lib.uvarint v.toNat ++ [0] = L5 at *
    generalize Lib.uvarint n ++ txt (r.drop n) ++ txt k ++ Lib.uvarint v.toNat = L4 at *
    generalize Lib.uvarint n ++ txt (r.drop n) ++ txt k = L3 at *
    generalize Lib.uvarint n ++ txt (r.drop n) = L2 at *
    generalize Lib.uvarint n = L1 at *
    generalize r.drop n = rd at *
    obtain ⟨c0, c1, c2, c3, c4⟩ := id hA
    go_wp2_with fail
    have q0 := fun d os => cell_regrown hA.c0 d os
    refine wp_region_quiet_below (by kernel_rfl) (by kernel_rfl) ?_
    repeat (go_big_quiet_step (first
      | (go_at_call 56; with_reducible exact Calls.regrown_of (p1 _))
      | (go_at_call 102; with_reducible exact Calls.regrown_of (p2 _))))
    refine wpQuiet_nil ?_
    intro _ hw'
    obtain ⟨⟨dq, osq⟩, hw''⟩ := hw'
    subst hw''
    have hb2 := below_regrown w1 dq osq
    replace hB := below2 hB hb2
    replace hA := hA.step hb2
    clear q0 hb2 c0 c1 c2 c3 c4
    generalize grow (redrawn w1 dq) osq = w2 at *
    go_wp2_with fail
    have q1 := fun d os => cell_regrown hA.c1 d os
    have q2 := fun d os => cell_regrown hA.c2 d os
    refine wp_region_quiet_below (by kernel_rfl) (by kernel_rfl) ?_
    repeat (go_big_quiet_step (first
      | (go_at_call 102; with_reducible exact Calls.regrown_of (p3 _))
      | (go_at_call 56; with_reducible exact Calls.regrown_of (p3b _))))
    refine wpQuiet_nil ?_
    intro _ hw'
    obtain ⟨⟨dq3, osq3⟩, hw''⟩ := hw'
    subst hw''
    have hb3 := below_regrown w2 dq3 osq3
    replace hB := below2 hB hb3
    replace hA := hA.step hb3
    clear q1 q2 hb3
    generalize grow (redrawn w2 dq3) osq3 = w3 at *
    go_wp2_with fail
    have q4 := fun d os => cell_regrown hA.c4 d os
    refine wp_region_quiet_below (by kernel_rfl) (by kernel_rfl) ?_
    repeat (go_big_quiet_step (first
      | (go_at_call 132; with_reducible exact Calls.regrown_of (p4 _))
      | (go_at_call 102; with_reducible exact Calls.regrown_of (p5 _))))
    refine wpQuiet_nil ?_
    intro _ hw'
    obtain ⟨⟨dq4, osq4⟩, hw''⟩ := hw'
    subst hw''
    have hb4 := below_regrown w3 dq4 osq4
    replace hB := below2 hB hb4
    clear q4 hb4 hA
    generalize grow (redrawn w3 dq4) osq4 = w4 at *
    go_wp2
    go_ret
    exact ⟨by rw [HL.out]; rfl, hB⟩

end Go.Proofs.YtmpnofbhbglfpaaGreatDoor
