/-
  What the document's DecodeResult reads is what the program's reads.
-/
import Derived.Test.YtmgibkglbddlpaaDoorJDt2
namespace Go.Proofs.YtmgibkglbddlpaaDoor
open Go.RowKit Go.BigFrame

theorem dN_num {x m : Nat} {r : List UInt8} (h : x < 18446744073709551616) (hm : x ≤ m) : dN m (Lib.uvarint x ++ r) = true ∧ dX m (Lib.uvarint x ++ r) = x ∧ nR (Lib.uvarint x ++ r) = r := by
  obtain ⟨h1, h2, h3⟩ := okN_num (x := x) (r := r) h
  have ha : dN m (Lib.uvarint x ++ r) = true := by
    unfold dN
    rw [h1, h2]
    simpa using hm
  refine ⟨ha, ?_, h3⟩
  unfold dX
  rw [ha, if_pos rfl, h2]
theorem dB_bol (f : Bool) (r : List UInt8) : dB (bol f ++ r) = true ∧ decide ((bV (bol f ++ r)).toNat = 1) = f ∧ bR (bol f ++ r) = r := by
  cases f
  · exact ⟨rfl, rfl, rfl⟩
  · exact ⟨rfl, rfl, rfl⟩
theorem doc_lay {r : Rz} (h : okR r = true) (x : List UInt8) : docB (layR r ++ x) = false ∧ m5 (layR r ++ x) = x ∧ docR (layR r ++ x) = r := by
  obtain ⟨h1, h2, h3, h4, h5⟩ := okR_iff.1 h
  obtain ⟨e, f, ro, va, ve⟩ := r
  simp only at h1 h2 h3 h4 h5
  have he : layR ⟨e, f, ro, va, ve⟩ ++ x = Lib.uvarint e.toNat ++ (bol f ++ (txt ro ++ (txt va ++ (Lib.uvarint ve ++ x)))) := by
    unfold layR
    simp [List.append_assoc]
  obtain ⟨p1, p2, p3⟩ := dN_num (x := e.toNat) (m := 1073741824) (r := bol f ++ (txt ro ++ (txt va ++ (Lib.uvarint ve ++ x)))) (by omega) (by omega)
  obtain ⟨q1, q2, q3⟩ := dB_bol f (txt ro ++ (txt va ++ (Lib.uvarint ve ++ x)))
  obtain ⟨s1, s2, s3⟩ := okT_txt (m := 65536) (s := ro) (r := txt va ++ (Lib.uvarint ve ++ x)) (by omega) (by omega)
  obtain ⟨t1, t2, t3⟩ := okT_txt (m := 65536) (s := va) (r := Lib.uvarint ve ++ x) (by omega) (by omega)
  obtain ⟨u1, u2, u3⟩ := dN_num (x := ve) (m := 1099511627776) (r := x) (by omega) (by omega)
  rw [he]
  refine ⟨?_, ?_, ?_⟩
  · unfold docB m4 m3 m2
    rw [p1, p3, q1, q3, s1, s3, t1, t3, u1]
    rfl
  · unfold m5 m4 m3 m2
    rw [p3, q3, s3, t3, u3]
  · unfold docR m4 m3 m2
    rw [p2, p3, q2, q3, s2, s3, t2, t3, u2]
    congr 1
    omega
theorem dN_back {m : Nat} {l : List UInt8} (h : dN m l = true) : l = Lib.uvarint (dX m l) ++ nR l := by
  have h9 := h
  simp only [dN, Bool.and_eq_true] at h
  unfold dX
  rw [h9, if_pos rfl]
  exact (okN_back h.1).1
theorem dB_back {l : List UInt8} (h : dB l = true) : l = bol (decide ((bV l).toNat = 1)) ++ bR l := by
  cases l with
  | nil => simp [dB, okB] at h
  | cons x l =>
    simp only [dB, okB, bV, bR, Bool.true_and] at h ⊢
    have hx1 : x.toNat ≤ 1 := of_decide_eq_true h
    have hx : x = 0 ∨ x = 1 := by
      have : x.toNat = 0 ∨ x.toNat = 1 := by omega
      rcases this with h | h
      · exact .inl (UInt8.toNat_inj.1 h)
      · exact .inr (UInt8.toNat_inj.1 h)
    rcases hx with rfl | rfl
    · rfl
    · rfl
theorem doc_back {l : List UInt8} (h : docO l = true) : l = layR (docR l) ∧ okR (docR l) = true := by
  simp only [docO, docB, Bool.false_or, Bool.not_or, Bool.not_not, Bool.and_eq_true, decide_eq_true_eq] at h
  obtain ⟨⟨⟨⟨⟨⟨h1, h2⟩, h3⟩, h4⟩, h5⟩, hl⟩, hk⟩ := h
  have e1 := dN_back h1
  have e2 := dB_back h2
  have e3 := (okT_back h3).1
  have e4 := (okT_back h4).1
  have e5 := dN_back h5
  have hnil : nR (m4 l) = [] := List.eq_nil_of_length_eq_zero hl
  refine ⟨?_, hk⟩
  rw [hnil, List.append_nil] at e5
  unfold layR docR
  simp only [Int.toNat_natCast]
  rw [← e5, List.append_assoc, List.append_assoc, List.append_assoc]
  have e4' : txt (tV 65536 (m3 l)) ++ m4 l = m3 l := e4.symm
  have e3' : txt (tV 65536 (m2 l)) ++ m3 l = m2 l := e3.symm
  have e2' : bol (decide ((bV (nR l)).toNat = 1)) ++ m2 l = nR l := e2.symm
  rw [e4', e3', e2']
  exact e1
/-- The same bytes are one, and it is the same. -/
theorem doc_dec (l : List UInt8) : docO l = decO l ∧ (docO l = true → docR l = decR l) := by
  cases hd : docO l with
  | true =>
    obtain ⟨h1, h2⟩ := doc_back hd
    have h3 := decO_lay h2 []
    obtain ⟨_, _, h4⟩ := dec_lay h2 []
    rw [List.append_nil, ← h1] at h3 h4
    exact ⟨h3.symm, fun _ => h4.symm⟩
  | false =>
    refine ⟨?_, fun h => by cases h⟩
    cases hp : decO l with
    | false => rfl
    | true =>
      obtain ⟨h1, h2⟩ := dec_back hp
      obtain ⟨h3, h4, h5⟩ := doc_lay h2 []
      rw [List.append_nil, ← h1] at h3 h4 h5
      have : docO l = true := by
        unfold docO
        rw [h3, h4, h5, h2]
        rfl
      rw [this] at hd
      exact absurd hd (by decide)

end Go.Proofs.YtmgibkglbddlpaaDoor
