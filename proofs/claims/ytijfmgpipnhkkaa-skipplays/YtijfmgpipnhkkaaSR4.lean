/-
  Appending a part of a row, or of none, onto a row that is owned.
-/
import Derived.Test.YtijfmgpipnhkkaaSR3
import Derived.Laws.OwnMore
namespace Go.Proofs.Ytijfmgpipnhkkaa
open Go.RowKit Go.BigFrame Go.Sort

/-- Where what is appended lies: nowhere, or from an address on. -/
def Src (w : World) (p : Option Addr) (m c : Nat) (news : List Value) : Prop := (p = none ∧ m = 0 ∧ c = 0 ∧ news = []) ∨ ∃ ad, p = some ad ∧ ∀ j u, news[j]? = some u → w.cell? (ad.add j) = some u
theorem step_app_src {P : Program} {w : World} {ops : Array Oper} {o : Oper} {a : Act} {K : Act → World → Prop} {Q : Exit → Act → World → Prop} {E : Prop} (hgd : o.guard = none) (s x : Operand) (t : TypeId)
    (ho : o.op = .call { callee := .builtin .append, args := #[s, x], argTypes := #[t, t] }) (base : Nat) (e : TypeId) (i : TypeInfo) (z : Value) (size bytes : Nat) (h1 : P.underlying t = some (.slice e)) (h2 : P.info? e = some i) (h3 : i.zero = some z) (h4 : i.size = size) (h5 : i.bytes = bytes) (h6 : z.cells.size = size) (h7 : 0 < size)
    (v : Value) (k : Nat) (xs : List Value) (hs : a.eval s = v) (hown : w.ownsRow base e size v k xs) (p : Option Addr) (m c : Nat) (news : List Value) (hx : a.eval x = .slice p m c) (hn : news.length = m * size)
    (hc : Src w p m c news) (h1c : ∀ u ∈ news, u.oneCell' = true) (b1 : k + m ≤ maxLen) (b2 : (k + m) * bytes ≤ 140737488355328) (b3 : base ≤ w.heap.size)
    (hK : ∀ v' w', w'.ownsRow base e size v' (k + m) (xs ++ news) → w.grownBy w' v.ownBlock → K (a.put o.dst v') w') :
    if Region.wanted o (yielded ops a.tmps) = true then Oper.wp P o a w K Q else E := by
  have hw : Region.wanted o (yielded ops a.tmps) = true := by simp [Region.wanted, hgd]
  rw [if_pos hw]
  rcases hc with ⟨rfl, rfl, rfl, rfl⟩ | ⟨ad, rfl, hc⟩
  · have hrun := run_append_owned_none (P := P) (w := w) base t o.type e i size h1 h2 v k xs hown
    unfold Oper.wp
    simp [execOp, ho, resolve, invoke, builtin, hs, hx, hrun, Result.andThen]
    refine hK v w (by simpa using hown) ⟨rfl, rfl, rfl, Nat.le_refl _, fun _ _ _ => rfl⟩
  · obtain ⟨v', w', hrun, r1, r2, r3⟩ := run_append_own (P := P) w base t o.type e i z size bytes h1 h2 h3 h4 h5 h6 h7 v k xs hown ad m c news hn hc h1c b1 b2 b3
    unfold Oper.wp
    simp [execOp, ho, resolve, invoke, builtin, hs, hx, hrun, Result.andThen]
    exact hK v' w' r1 r2
theorem sliced_head (q : Option Addr) (n m s : Nat) : sliced q 0 n m s = .slice q n m := by
  unfold sliced
  cases q with
  | none => simp
  | some a =>
    have : a.add 0 = a := by cases a; simp [Addr.add]
    simp [this]
theorem head_run {P : Program} {t : TypeId} {q : Option Addr} {len cap n s : Nat} (ht : P.underlying t = some (.slice (P.elem t))) (hz : ∀ w, (Go.sizeOf (P.elem t)).run P w = .ok s w) (hn : n ≤ cap) (w : World) :
    (Instr.slice t (.slice q len cap) none (some (.int .i64 (n : Int))) none).run P w = .ok (.slice q n cap) w := by
  rw [run_slice_h w t q len cap ht .i64 (n : Int) (by omega) (by omega), hz]
  simp only [Result.andThen, Int.toNat_natCast, sliced_head]
theorem tail_run {P : Program} {t : TypeId} {q : Option Addr} {len cap n s : Nat} (ht : P.underlying t = some (.slice (P.elem t))) (hz : ∀ w, (Go.sizeOf (P.elem t)).run P w = .ok s w) (hn : n ≤ len) (w : World) :
    (Instr.slice t (.slice q len cap) (some (.int .i64 (n : Int))) none none).run P w = .ok (.slice (if cap = n then q else q.map (·.add (n * s))) (len - n) (cap - n)) w := by
  rw [run_slice_l w t q len cap ht .i64 (n : Int) (by omega) (by omega), hz]
  simp only [Result.andThen, Int.toNat_natCast, sliced]
/-- The heights as cells. -/
def hCells (hs : List Nat) : List Value := hs.map fun h : Nat => Value.int .i64 (h : Int)
theorem hCells_length (hs : List Nat) : (hCells hs).length = hs.length := by simp [hCells]
theorem hCells_append (a b : List Nat) : hCells (a ++ b) = hCells a ++ hCells b := by simp [hCells]
theorem hCells_one (hs : List Nat) : ∀ u ∈ hCells hs, u.oneCell' = true := fun u hu => by
  obtain ⟨h, _, rfl⟩ := List.mem_map.1 hu
  rfl
theorem DA.src_h {w : World} {L : List (Cl × Nat)} {qc : Option Addr} {gc cc : Nat} {qh : Option Addr} {gh ch : Nat} (h : DA w L qc gc cc qh gh ch) (k : Nat) : Src w qh (min k L.length) ch (hCells ((L.map fun x => x.2).take k)) ∧ (k ≤ L.length → Src w (if ch = k then qh else qh.map (·.add (k * 1))) (L.length - k) (ch - k) (hCells ((L.map fun x => x.2).drop k))) := by
  by_cases h0 : L.length = 0
  · obtain ⟨e1, e2, e3, e4⟩ := h.nl h0
    have hL : L = [] := List.eq_nil_of_length_eq_zero h0
    subst hL e3 e4
    refine ⟨Or.inl ⟨rfl, by simp, rfl, by simp [hCells]⟩, fun hk => Or.inl ⟨?_, by simp, by simp, by simp [hCells]⟩⟩
    split <;> rfl
  · obtain ⟨e1, e2, e3⟩ := h.h (by omega)
    subst e1
    have hcell : ∀ j u, (hCells (L.map fun x => x.2))[j]? = some u → w.cell? ⟨gh, j, none⟩ = some u := fun j u hj => by
      unfold hCells at hj
      rw [List.getElem?_map] at hj
      obtain ⟨n, hn, rfl⟩ := Option.map_eq_some_iff.1 hj
      obtain ⟨hl, rfl⟩ := List.getElem?_eq_some_iff.1 hn
      exact e2 j hl
    refine ⟨Or.inr ⟨_, rfl, fun j u hj => ?_⟩, fun hk => ?_⟩
    · rw [Addr.add_lit, Nat.zero_add]
      refine hcell j u ?_
      unfold hCells at hj ⊢
      rw [List.getElem?_map, List.getElem?_take] at hj
      split at hj
      · rw [List.getElem?_map]; exact hj
      · cases hj
    · by_cases e : ch = k
      · have := h.lh
        have hkl : k = L.length := by omega
        refine Or.inr ⟨⟨gh, 0, none⟩, by rw [if_pos e], fun j u hj => ?_⟩
        rw [hkl, List.drop_of_length_le (by simp)] at hj
        simp [hCells] at hj
      · refine Or.inr ⟨(⟨gh, 0, none⟩ : Addr).add (k * 1), by rw [if_neg e]; rfl, fun j u hj => ?_⟩
        rw [Addr.add_lit, Addr.add_lit, Nat.zero_add, Nat.mul_one]
        refine hcell (k + j) u ?_
        unfold hCells at hj ⊢
        rw [List.getElem?_map, List.getElem?_drop] at hj
        rw [List.getElem?_map]
        exact hj

theorem DA.src_c {w : World} {L : List (Cl × Nat)} {qc : Option Addr} {gc cc : Nat} {qh : Option Addr} {gh ch : Nat} (h : DA w L qc gc cc qh gh ch) (k : Nat) : Src w qc (min k L.length) cc (ccells ((L.map fun x => x.1).take k)) ∧ (k ≤ L.length → Src w (if cc = k then qc else qc.map (·.add (k * 5))) (L.length - k) (cc - k) (ccells ((L.map fun x => x.1).drop k))) := by
  by_cases h0 : L.length = 0
  · obtain ⟨e1, e2, e3, e4⟩ := h.nl h0
    have hL : L = [] := List.eq_nil_of_length_eq_zero h0
    subst hL e1 e2
    refine ⟨Or.inl ⟨rfl, by simp, rfl, by simp [ccells]⟩, fun hk => Or.inl ⟨?_, by simp, by simp, by simp [ccells]⟩⟩
    split <;> rfl
  · obtain ⟨e1, e2, e3⟩ := h.c (by omega)
    subst e1
    refine ⟨Or.inr ⟨_, rfl, (e2.take k).cells⟩, fun hk => ?_⟩
    by_cases e : cc = k
    · have := h.lc
      have hkl : k = L.length := by omega
      refine Or.inr ⟨⟨gc, 0, none⟩, by rw [if_pos e], fun j u hj => ?_⟩
      rw [hkl, List.drop_of_length_le (by simp)] at hj
      simp [ccells] at hj
    · refine Or.inr ⟨(⟨gc, 0, none⟩ : Addr).add (k * 5), by rw [if_neg e]; rfl, ?_⟩
      rw [Addr.add_lit]
      exact (e2.drop k).cells

end Go.Proofs.Ytijfmgpipnhkkaa
