/-
  Lists of cells read back from their bytes: what is laid is read, and what is read was laid so.
-/
import Derived.Test.YtbllbcbjjocphabCTake
namespace Go.Proofs.Ytbllbcbjjocphab

theorem okT_txt {m : Nat} {s r : List UInt8} (h : s.length ≤ m) (hm : m ≤ 10000000) : okT m (txt s ++ r) = true ∧ tV m (txt s ++ r) = s ∧ tR m (txt s ++ r) = r := by
  have hn := numOf_uvarint s.length (by omega) (s ++ r)
  have hp := Lib.uvarint_pos s.length
  have e : txt s ++ r = Lib.uvarint s.length ++ (s ++ r) := by simp [txt]
  have ho : okT m (txt s ++ r) = true := by
    unfold okT
    rw [e, hn]
    simp only [Bool.and_eq_true, decide_eq_true_eq, List.length_append]
    omega
  refine ⟨ho, ?_, ?_⟩
  · unfold tV
    rw [ho, if_pos rfl, e, hn]
    simp
  · unfold tR
    rw [ho, if_pos rfl, e, hn]
    simp [← List.drop_drop]
theorem okN_num {x : Nat} {r : List UInt8} (h : x < 18446744073709551616) : okN (Lib.uvarint x ++ r) = true ∧ nV (Lib.uvarint x ++ r) = x ∧ nR (Lib.uvarint x ++ r) = r := by
  have hn := numOf_uvarint x h r
  have hp := Lib.uvarint_pos x
  have ho : okN (Lib.uvarint x ++ r) = true := by
    unfold okN
    rw [hn]
    simp only [decide_eq_true_eq]
    omega
  refine ⟨ho, ?_, ?_⟩
  · unfold nV
    rw [ho, if_pos rfl, hn]
  · unfold nR
    rw [ho, if_pos rfl, hn]
    simp
theorem okC_ver {c : Cl} (h : okC c = true) : ((c.ver.toNat : Nat) : Int) = c.ver := by have := okC_len h; omega
/-- A cell that was laid is read. -/
theorem take_lay {c : Cl} (h : okC c = true) (r : List UInt8) : takeOk (layL c ++ r) = true ∧ cellOf (layL c ++ r) = c ∧ l5 (layL c ++ r) = r := by
  obtain ⟨k1, k2, k3, k4, k5⟩ := okC_len h
  have hv := okC_ver h
  obtain ⟨row, col, ver, gone, val⟩ := c
  simp only at k1 k2 k3 k4 k5 hv
  have e : layL ⟨row, col, ver, gone, val⟩ ++ r = txt row ++ (txt col ++ (Lib.uvarint ver.toNat ++ ((if gone then [1] else [0]) ++ (txt val ++ r)))) := by simp [layL]
  rw [e]
  obtain ⟨a1, a2, a3⟩ := okT_txt (m := 65536) (s := row) (r := txt col ++ (Lib.uvarint ver.toNat ++ ((if gone then [1] else [0]) ++ (txt val ++ r)))) (by omega) (by omega)
  obtain ⟨b1, b2, b3⟩ := okT_txt (m := 65536) (s := col) (r := Lib.uvarint ver.toNat ++ ((if gone then [1] else [0]) ++ (txt val ++ r))) (by omega) (by omega)
  obtain ⟨d1, d2, d3⟩ := okN_num (x := ver.toNat) (r := (if gone then [1] else [0]) ++ (txt val ++ r)) (by omega)
  obtain ⟨f1, f2, f3⟩ := okT_txt (m := 65536) (s := val) (r := r) (by omega) (by omega)
  have g1 : okB ((if gone then [1] else [0]) ++ (txt val ++ r)) = true := by cases gone <;> rfl
  have g2 : bR ((if gone then [1] else [0]) ++ (txt val ++ r)) = txt val ++ r := by cases gone <;> rfl
  have g3 : (bV ((if gone then [1] else [0]) ++ (txt val ++ r)) == 1) = gone := by cases gone <;> rfl
  have g4 : (bV ((if gone then [1] else [0]) ++ (txt val ++ r))).toNat ≤ 1 := by
    cases gone
    · show (0 : UInt8).toNat ≤ 1; decide
    · show (1 : UInt8).toNat ≤ 1; decide
  have hc : cellOf (txt row ++ (txt col ++ (Lib.uvarint ver.toNat ++ ((if gone then [1] else [0]) ++ (txt val ++ r))))) = ⟨row, col, ver, gone, val⟩ := by
    unfold cellOf l4 l3 l2 l1
    rw [a3, b3, d3, g2, a2, b2, d2, g3, f2, hv]
  refine ⟨?_, hc, ?_⟩
  · unfold takeOk
    rw [hc, h]
    unfold l4 l3 l2 l1
    rw [a3, b3, d3, g2, a1, b1, d1, g1, f1, decide_eq_true g4]
    rfl
  · unfold l5 l4 l3 l2 l1
    rw [a3, b3, d3, g2, f3]
theorem okT_back {m : Nat} {l : List UInt8} (h : okT m l = true) : l = txt (tV m l) ++ tR m l ∧ (tV m l).length ≤ m := by
  have h' := h
  simp only [okT, Bool.and_eq_true, decide_eq_true_eq] at h'
  obtain ⟨⟨h1, h2⟩, h3⟩ := h'
  obtain ⟨k1, k2, k3, k4, k5⟩ := numOf_back (l := l) (v := (numOf l).1) (n := (numOf l).2) rfl h1
  have hlen : ((l.drop (numOf l).2).take (numOf l).1).length = (numOf l).1 := by rw [List.length_take, List.length_drop]; omega
  unfold tV tR
  rw [h, if_pos rfl, if_pos rfl]
  refine ⟨?_, by rw [hlen]; exact h2⟩
  unfold txt
  rw [hlen, ← k5, List.append_assoc, ← List.drop_drop, List.take_append_drop, List.take_append_drop]
theorem okN_back {l : List UInt8} (h : okN l = true) : l = Lib.uvarint (nV l) ++ nR l ∧ nV l < 18446744073709551616 := by
  have h' := h
  simp only [okN, decide_eq_true_eq] at h'
  obtain ⟨k1, k2, k3, k4, k5⟩ := numOf_back (l := l) (v := (numOf l).1) (n := (numOf l).2) rfl h'
  unfold nV nR
  rw [h, if_pos rfl, if_pos rfl]
  exact ⟨by rw [← k5, List.take_append_drop], k4⟩
theorem okB_back {l : List UInt8} (h : okB l = true) : l = bV l :: bR l := by
  cases l with
  | nil => simp [okB] at h
  | cons x l => rfl
/-- A cell that is read was laid so. -/
theorem take_back {l : List UInt8} (h : takeOk l = true) : l = layL (cellOf l) ++ l5 l ∧ okC (cellOf l) = true := by
  simp only [takeOk, Bool.and_eq_true, decide_eq_true_eq] at h
  obtain ⟨⟨⟨⟨⟨⟨h1, h2⟩, h3⟩, h4⟩, h5⟩, h6⟩, h7⟩ := h
  refine ⟨?_, h7⟩
  have a := (okT_back h1).1
  have b := (okT_back h2).1
  have d := (okN_back h3).1
  have e := okB_back h4
  have f := (okT_back h5).1
  have hg : (if (bV (l3 l) == 1) = true then [1] else [0]) = [bV (l3 l)] := by
    generalize bV (l3 l) = x at h6
    by_cases hx : x = 1
    · subst hx; rfl
    · have h0 : x = 0 := by
        have : x.toNat ≠ 1 := fun e => hx (UInt8.toNat_inj.1 e)
        exact UInt8.toNat_inj.1 (show x.toNat = 0 by omega)
      subst h0
      rfl
  show l = layL ⟨tV 65536 l, tV 65536 (l1 l), (nV (l2 l) : Int), bV (l3 l) == 1, tV 65536 (l4 l)⟩ ++ l5 l
  unfold layL
  simp only [Int.toNat_natCast]
  rw [hg]
  show l = txt (tV 65536 l) ++ (txt (tV 65536 (l1 l)) ++ (Lib.uvarint (nV (l2 l)) ++ ([bV (l3 l)] ++ txt (tV 65536 (l4 l))))) ++ tR 65536 (l4 l)
  have e2 : l3 l = bV (l3 l) :: l4 l := e
  have d2 : l2 l = Lib.uvarint (nV (l2 l)) ++ l3 l := d
  have b2 : l1 l = txt (tV 65536 (l1 l)) ++ l2 l := b
  have a2 : l = txt (tV 65536 l) ++ l1 l := a
  have f2 : txt (tV 65536 (l4 l)) ++ tR 65536 (l4 l) = l4 l := f.symm
  simp only [List.append_assoc]
  rw [f2, List.singleton_append, ← e2, ← d2, ← b2, ← a2]

/-- n cells read, one behind the other. -/
def decN : Nat → List UInt8 → Option (List Cl × List UInt8)
  | 0, l => some ([], l)
  | n + 1, l => if takeOk l then (decN n (l5 l)).map (fun p => (cellOf l :: p.1, p.2)) else none
theorem decN_lay : ∀ (cs : List Cl) (r : List UInt8), cs.all okC = true → decN cs.length (bodyL cs ++ r) = some (cs, r)
  | [], r, _ => rfl
  | c :: cs, r, h => by
    rw [List.all_cons, Bool.and_eq_true] at h
    have e : bodyL (c :: cs) ++ r = layL c ++ (bodyL cs ++ r) := by simp [bodyL]
    obtain ⟨t1, t2, t3⟩ := take_lay h.1 (bodyL cs ++ r)
    rw [List.length_cons, decN, e, t1, if_pos rfl, t2, t3, decN_lay cs r h.2]
    rfl
theorem decN_back : ∀ (n : Nat) (l : List UInt8) (cs : List Cl) (r : List UInt8), decN n l = some (cs, r) → cs.length = n ∧ cs.all okC = true ∧ l = bodyL cs ++ r
  | 0, l, cs, r, h => by
    simp [decN] at h
    obtain ⟨rfl, rfl⟩ := h
    simp [bodyL]
  | n + 1, l, cs, r, h => by
    rw [decN] at h
    split at h
    · rename_i ht
      obtain ⟨p, hp, hq⟩ := Option.map_eq_some_iff.1 h
      obtain ⟨cs', r'⟩ := p
      simp only [Prod.mk.injEq] at hq
      obtain ⟨rfl, rfl⟩ := hq
      obtain ⟨k1, k2, k3⟩ := decN_back n _ _ _ hp
      obtain ⟨t1, t2⟩ := take_back ht
      refine ⟨by simp [k1], by rw [List.all_cons, t2, k2]; rfl, ?_⟩
      have : bodyL (cellOf l :: cs') = layL (cellOf l) ++ bodyL cs' := by simp [bodyL]
      rw [this, List.append_assoc, ← k3]
      exact t1
    · cases h
/-- Nothing may be left. -/
def fin : Option (List Cl × List UInt8) → Option (List Cl)
  | some (cs, []) => some cs
  | _ => none
/-- What Decode answers. -/
def decR (s : List UInt8) : Option (List Cl) :=
  if s.length ≤ 1048576 then (if okN s then fin (decN (nV s) (nR s)) else none) else none
theorem decR_enc {cs : List Cl} (h : cs.all okC = true) (hl : (encL cs).length ≤ 1048576) : decR (encL cs) = some cs := by
  have hb : cs.length < 18446744073709551616 := by
    have : cs.length ≤ (bodyL cs).length := by
      clear hl h
      induction cs with
      | nil => simp
      | cons c cs ih =>
        have e : bodyL (c :: cs) = layL c ++ bodyL cs := by simp [bodyL]
        rw [e, List.length_append, List.length_cons]
        have : 1 ≤ (layL c).length := by
          have := Lib.uvarint_pos c.row.length
          simp [layL, txt]
          omega
        omega
    unfold encL at hl
    rw [List.length_append] at hl
    omega
  obtain ⟨o1, o2, o3⟩ := okN_num (r := bodyL cs) hb
  have hd := decN_lay cs [] h
  rw [List.append_nil] at hd
  unfold decR
  rw [if_pos hl]
  show (if okN (Lib.uvarint cs.length ++ bodyL cs) = true then _ else none) = some cs
  rw [o1, if_pos rfl]
  show fin (decN (nV (Lib.uvarint cs.length ++ bodyL cs)) (nR (Lib.uvarint cs.length ++ bodyL cs))) = some cs
  rw [o2, o3, hd]
  rfl
theorem decR_back {s : List UInt8} {cs : List Cl} (h : decR s = some cs) : s = encL cs ∧ cs.all okC = true ∧ s.length ≤ 1048576 := by
  unfold decR at h
  split at h
  · rename_i hl
    split at h
    · rename_i ho
      obtain ⟨k1, k2⟩ := okN_back ho
      unfold fin at h
      split at h
      · rename_i cs' hd
        cases h
        obtain ⟨d1, d2, d3⟩ := decN_back _ _ _ _ hd
        refine ⟨?_, d2, hl⟩
        rw [List.append_nil] at d3
        unfold encL
        rw [d1, ← d3]
        exact k1
      · cases h
    · cases h
  · cases h
/-- No list's bytes with others behind them are a list's. -/
theorem decR_more {cs : List Cl} {t : List UInt8} (h : cs.all okC = true) (ht : t ≠ []) (hn : cs.length < 18446744073709551616) : decR (encL cs ++ t) = none := by
  unfold decR
  split
  · have e : encL cs ++ t = Lib.uvarint cs.length ++ (bodyL cs ++ t) := by simp [encL]
    obtain ⟨o1, o2, o3⟩ := okN_num (r := bodyL cs ++ t) hn
    rw [e, o1, if_pos rfl, o2, o3, decN_lay cs t h]
    cases t with
    | nil => exact absurd rfl ht
    | cons x t => rfl
  · rfl

end Go.Proofs.Ytbllbcbjjocphab
