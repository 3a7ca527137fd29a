/-
  How a block's bytes are read, cell by cell: what was read so far is the only beginning that a block of these bytes can have.
-/
import Derived.Test.YtbllbcbjjocphabETke
import Derived.Test.YtbllbcbjjocphabCDecode
namespace Go.Proofs.Ytbllbcbjjocphab
open Go.RowKit

theorem tk_row (a l : List UInt8) : tkOk a l = true → rawB 32768 32768 32768 a l = true ∧ cmn a (tkC a l).row = nV l ∧ okC (tkC a l) = true := by
  intro h
  unfold tkOk at h
  rw [Bool.and_eq_true, Bool.and_eq_true, decide_eq_true_eq] at h
  exact ⟨h.1.1, h.1.2, h.2⟩
/-- What was read, and what is left. -/
structure Rs (b : List UInt8) (L : List Cl) (l : List UInt8) : Prop where
  eq : b = body L ++ l
  ok : L.all okC = true
  asc : Asc L
  goes : Goes b L l
theorem Rs.start (b : List UInt8) : Rs b [] b := ⟨rfl, rfl, List.Pairwise.nil, Goes.start b⟩
theorem Rs.next {b : List UInt8} {L : List Cl} {l : List UInt8} (h : Rs b L l) (hl : l ≠ []) {cs : List Cl} (g : Good cs) (e : body cs = b) :
    tkOk (ahd L) l = true ∧ ∃ ds, cs = L ++ tkC (ahd L) l :: ds := by
  obtain ⟨c, ds, h1, h2, h3, h4, h5, h6⟩ := h.goes.next (m := 32768) (k := 32768) (z := 32768) hl (by omega) (by omega) (by omega) g e
  refine ⟨?_, ds, by rw [h1, ← h4]⟩
  unfold tkOk
  rw [h3, show tkC (ahd L) l = c from h4, h2, h5]
  simp
theorem Rs.no_take {b : List UInt8} {L : List Cl} {l : List UInt8} (h : Rs b L l) (hl : l ≠ []) (hk : tkOk (ahd L) l = false) : ∀ cs, Good cs → body cs ≠ b := by
  intro cs g e
  have := (h.next hl g e).1
  rw [hk] at this
  cases this
theorem Rs.no_ord {b : List UInt8} {L : List Cl} {l : List UInt8} (h : Rs b L l) (hl : l ≠ []) (h0 : 0 < L.length) (hc : ¬ ccl (L[L.length - 1]'(by omega)) (tkC (ahd L) l) < 0) : ∀ cs, Good cs → body cs ≠ b := by
  intro cs g e
  obtain ⟨_, ds, h1⟩ := h.next hl g e
  have ha := g.asc
  rw [h1] at ha
  exact hc ((List.pairwise_append.1 ha).2.2 _ (List.getElem_mem (by omega)) _ (by simp))
theorem Rs.step {b : List UInt8} {L : List Cl} {l : List UInt8} (h : Rs b L l) (hl : l ≠ []) (hk : tkOk (ahd L) l = true) (ho : ∀ (h0 : 0 < L.length), ccl (L[L.length - 1]'(by omega)) (tkC (ahd L) l) < 0) :
    Rs b (L ++ [tkC (ahd L) l]) (q6 32768 32768 32768 l) := by
  obtain ⟨k1, k2, k3⟩ := tk_row _ _ hk
  have hb := cell_back k1 k2
  refine ⟨?_, ?_, ?_, h.goes.step hl (by omega) (by omega) (by omega)⟩
  · rw [body_snoc, List.append_assoc, ← hb]
    exact h.eq
  · rw [List.all_append, h.ok]
    simp [k3]
  · refine h.asc.snoc fun x hx => ?_
    have hne : L ≠ [] := by rintro rfl; simp at hx
    have h0 : 0 < L.length := List.length_pos_iff.2 hne
    rw [List.getLast?_eq_some_getLast hne, Option.mem_def, Option.some.injEq, List.getLast_eq_getElem] at hx
    rw [← hx]
    exact ho h0
theorem Rs.less {b : List UInt8} {L : List Cl} {l : List UInt8} (_h : Rs b L l) (hk : tkOk (ahd L) l = true) : (q6 32768 32768 32768 l).length + 1 ≤ l.length := q6_len (tk_row _ _ hk).1
theorem Rs.many {b : List UInt8} {L : List Cl} {l : List UInt8} (h : Rs b L l) : 6 * L.length + l.length ≤ b.length := by
  have := body_many L h.ok
  rw [h.eq, List.length_append]
  omega
theorem Rs.place {b : List UInt8} {L : List Cl} {l : List UInt8} (h : Rs b L l) : (b.length : Int) - (l.length : Int) = ((body L).length : Int) := by
  rw [h.eq, List.length_append]
  omega
theorem Rs.row {b : List UInt8} {L : List Cl} {l : List UInt8} (h : Rs b L l) : (ahd L).length ≤ 32 := by
  unfold ahd
  split
  · simp
  · rename_i h8
    have h0 : 0 < L.length := by omega
    have := lastR_get [] L (L.length - 1) (by omega)
    rw [show L.length - 1 + 1 = L.length by omega, List.take_length] at this
    rw [this]
    exact (okC_len (all_get h.ok (i := L.length - 1) (by omega))).1
theorem ahd_last {L : List Cl} (h8 : ¬ L.length % 8 = 0) : ahd L = (L[L.length - 1]'(by omega)).row := by
  have := lastR_get [] L (L.length - 1) (by omega)
  rw [show L.length - 1 + 1 = L.length by omega, List.take_length] at this
  rw [ahd_not h8, this]
/-- The bytes of a block, parted where its cells end. -/
theorem Good.body_of {cs : List Cl} {s : List UInt8} {m : Nat} (g : Good cs) (e : blkB cs = s) (hm : m + tl2 s = s.length) : body cs = s.take m ∧ s.drop m = tailB (whl cs) := by
  obtain ⟨p1, p2, p3, p4, p5⟩ := g.parts
  rw [e] at p2 p3
  have : s.length - tl2 s = m := by omega
  rw [this] at p2 p3
  exact ⟨p2.symm, p3⟩
theorem Rs.no_tail {s : List UInt8} {m : Nat} {L : List Cl} (h : Rs (s.take m) L []) (hm : m + tl2 s = s.length) (ht : s.drop m ≠ tailB (whl L)) : ∀ cs, Good cs → blkB cs ≠ s := by
  intro cs g e
  obtain ⟨e1, e2⟩ := g.body_of e hm
  have := h.goes.end_ g e1
  rw [this] at e2
  exact ht e2
theorem Rs.yes {s : List UInt8} {m : Nat} {L : List Cl} (h : Rs (s.take m) L []) (hs : s.length ≤ 32768) (ht : s.drop m = tailB (whl L)) : Good L ∧ blkB L = s := by
  have e : blkB L = s := by
    unfold blkB
    have := h.eq
    rw [List.append_nil] at this
    rw [← this, ← ht, List.take_append_drop]
  exact ⟨⟨h.ok, h.asc, by rw [e]; exact hs⟩, e⟩
theorem no_blk {s : List UInt8} {m : Nat} (hm : m + tl2 s = s.length) (h : ∀ cs, Good cs → body cs ≠ s.take m) : ∀ cs, Good cs → blkB cs ≠ s := fun cs g e => h cs g (g.body_of e hm).1
/-- A row keeps what it has, if another row, of another kind, is written. -/
theorem own_apart {w w' : World} {B B2 e e2 size size2 n n2 : Nat} {v v2 : Value} {xs ys : List Value} (h : w.ownsRow B e size v n xs) (h2 : w.ownsRow B2 e2 size2 v2 n2 ys) (hne : e ≠ e2) (hg : w.grownBy w' v2.ownBlock) : w'.ownsRow B e size v n xs := by
  rcases h.2 with h0 | ⟨g, cap, cur, hv, hbg, hgc, hnc, hcm, hcs, htake⟩
  · exact ⟨h.1, .inl h0⟩
  · have hnot : v2.ownBlock ≠ some g := by
      intro hs
      rcases h2.2 with ⟨hv2, _⟩ | ⟨g2, cap2, cur2, hv2, _, hgc2, _⟩
      · rw [hv2] at hs
        exact absurd hs (by simp [Value.ownBlock])
      · rw [hv2] at hs
        have : g2 = g := by simpa [Value.ownBlock] using hs
        rw [this, hgc] at hgc2
        have := Option.some.inj hgc2
        injection this with _ h5 _
        exact hne h5
    exact h.kept hg (.inr (by rw [hv]; exact fun heq => hnot heq.symm))
theorem Rd.other {w w' : World} {g B e size n : Nat} {s : ByteArray} {v : Value} {xs : List Value} (h : Rd w g s) (h2 : w.ownsRow B e size v n xs) (hB : g < B) (hg : w.grownBy w' v.ownBlock) : Rd w' g s :=
  (hg.block g h.lt (fun hs => by have := (h2.lt g hs.symm).1; omega)).trans h

end Go.Proofs.Ytbllbcbjjocphab
