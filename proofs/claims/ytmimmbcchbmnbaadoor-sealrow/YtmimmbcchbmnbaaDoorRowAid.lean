/-
  What the walk of the law SealRow needs: bodies that may be framed, where their frames end, two rows that grow side by side.
-/
import Derived.Test.YtmimmbcchbmnbaaDoorRowMath
import Derived.Test.YtmimmbcchbmnbaaDoorMade
import Derived.Test.YtmimmbcchbmnbaaDoorPartsWalk
import Derived.Test.YtmimmbcchbmnbaaDoorRScan
namespace Go.Proofs.YtmimmbcchbmnbaaDoor
open Go.RowKit
attribute [local go_sem] size_bstr getElem_bstr toList_bstr append_bstr

/-- The bodies that may be framed. -/
def may (L : List (List UInt8)) : List (List UInt8) := L.filter fun b => decide (b.length ≤ 1048576)
theorem may_le (L : List (List UInt8)) : ∀ b ∈ may L, b.length ≤ 1048576 := by
  intro b hb
  unfold may at hb
  rw [List.mem_filter] at hb
  exact of_decide_eq_true hb.2
theorem may_length (L : List (List UInt8)) : (may L).length ≤ L.length := List.length_filter_le _ _
theorem may_yes (L : List (List UInt8)) (k : Nat) (h : k < L.length) (hb : L[k].length ≤ 1048576) : may (L.take (k + 1)) = may (L.take k) ++ [L[k]] := by
  unfold may
  rw [List.take_succ_eq_append_getElem h, List.filter_append]
  simp [hb]
theorem may_no (L : List (List UInt8)) (k : Nat) (h : k < L.length) (hb : ¬ L[k].length ≤ 1048576) : may (L.take (k + 1)) = may (L.take k) := by
  unfold may
  rw [List.take_succ_eq_append_getElem h, List.filter_append]
  simp [hb]
theorem tot_le (G : List (List UInt8)) (h : ∀ b ∈ G, b.length ≤ 1048576) : tot G ≤ 1048584 * G.length := by
  induction G with
  | nil => simp [tot]
  | cons b G ih =>
    have h1 := h b List.mem_cons_self
    have h2 := ih fun c hc => h c (List.mem_cons_of_mem _ hc)
    rw [show b :: G = [b] ++ G from rfl, tot_append, List.length_append, List.length_singleton]
    have h3 : tot [b] = b.length + 8 := by unfold tot; simp
    omega
theorem tot_ge (G : List (List UInt8)) : 8 * G.length ≤ tot G := by
  induction G with
  | nil => simp
  | cons b G ih =>
    rw [show b :: G = [b] ++ G from rfl, tot_append, List.length_append, List.length_singleton]
    have h3 : tot [b] = b.length + 8 := by unfold tot; simp
    omega
/-- Where the frames of bodies end. -/
def ends (G : List (List UInt8)) : List Nat := (List.range G.length).map fun j => tot (G.take (j + 1))
theorem ends_length (G : List (List UInt8)) : (ends G).length = G.length := by unfold ends; simp
theorem ends_snoc (G : List (List UInt8)) (b : List UInt8) : ends (G ++ [b]) = ends G ++ [tot (G ++ [b])] := by
  unfold ends
  rw [List.length_append, List.length_singleton, List.range_succ, List.map_append, List.map_singleton]
  congr 1
  · apply List.map_congr_left
    intro j hj
    rw [List.mem_range] at hj
    rw [List.take_append_of_le_length (by omega)]
  · rw [List.take_of_length_le (by simp)]
theorem ends_get (G : List (List UInt8)) (j : Nat) (h : j < G.length) : (ends G)[j]? = some (tot (G.take (j + 1))) := by
  unfold ends
  simp [h]
def intCells (es : List Nat) : List Value := es.map fun (n : Nat) => Value.int .i64 (n : Int)
theorem Tryd.infoInt : (Tryd.prog.info? 3).map (fun i => (i.zero, i.size, i.bytes)) = some (some (.int .i64 0), 1, 8) := by kernel_rfl
/-- A row keeps what it has, if another row, of another kind, is written. -/
theorem own_other {w w' : World} {B e e2 size size2 n n2 : Nat} {v v2 : Value} {xs ys : List Value} (h : w.ownsRow B e size v n xs) (h2 : w.ownsRow B e2 size2 v2 n2 ys) (hne : e ≠ e2) (hg : w.grownBy w' v2.ownBlock) : w'.ownsRow B e size v n xs := by
  rcases h.2 with h0 | ⟨g, cap, cur, hv, hbg, hgc, hnc, hcm, hcs, htake⟩
  · exact ⟨h.1, .inl h0⟩
  · have hnot : v2.ownBlock ≠ some g := by
      intro hs
      rcases h2.2 with ⟨hv2, _⟩ | ⟨g2, cap2, cur2, hv2, _, hgc2, _⟩
      · rw [hv2] at hs
        exact absurd hs (by simp [Value.ownBlock])
      · rw [hv2] at hs
        have : g2 = g := by simpa [Value.ownBlock] using hs
        rw [this, hgc] at hgc2
        have := Option.some.inj hgc2
        injection this with _ h5 _
        exact hne h5
    exact h.kept hg (.inr (by rw [hv]; exact fun heq => hnot heq.symm))

theorem ints_of_owns {w : World} {B m : Nat} {v : Value} {es : List Nat} (_hm : es.length = m) (h : w.ownsRow B 3 1 v m (intCells es)) : ∃ (p : Option Addr) (cap : Nat), v = .slice p m cap ∧ (m = 0 ∨ ∃ g, p = some ⟨g, 0, none⟩ ∧ ∀ (j n : Nat), es[j]? = some n → w.cell? ⟨g, j, none⟩ = some (.int .i64 (n : Int))) := by
  rcases h.2 with ⟨hv, h0⟩ | ⟨g, cap, cur, hv, hbg, hg, hnc, hcm, hcs, htake⟩
  · subst h0
    exact ⟨none, 0, hv, .inl rfl⟩
  · refine ⟨some ⟨g, 0, none⟩, cap, hv, .inr ⟨g, rfl, ?_⟩⟩
    intro j n hj
    have := h.cells (g := g) (by rw [hv]; rfl) j (.int .i64 (n : Int)) (by unfold intCells; rw [List.getElem?_map, hj]; rfl)
    by_cases h0 : j = 0
    · subst h0
      simpa [Addr.add] using this
    · simpa [Addr.add, h0] using this

end Go.Proofs.YtmimmbcchbmnbaaDoor
