/-
  A list of cells appended to a row that the call owns.
-/
import Derived.Test.YtnpjbdbhjbccbaaCOwn
namespace Go.Proofs.Ytnpjbdbhjbccbaa
open Go.RowKit Go.BigFrame Go.Sort

/-- A list of cells in memory, as an argument. -/
structure Arg (W : World) (q : Option Addr) (b off cap : Nat) (cs : List Cl) : Prop where
  at_ : 0 < cs.length → q = some ⟨b, off, none⟩ ∧ CRow W b off cs ∧ b < W.heap.size
  nil : q = none → cs = [] ∧ cap = 0
theorem Arg.step {W W' : World} {q : Option Addr} {b off cap B : Nat} {cs : List Cl} (h : Arg W q b off cap cs) (hb : RowKit.Below B W W') (hB : 0 < cs.length → b < B) : Arg W' q b off cap cs := ⟨hq_step h.at_ hb hB, h.nil⟩
theorem Arg.next {W W' : World} {q : Option Addr} {b off cap : Nat} {cs : List Cl} (h : Arg W q b off cap cs) (hb : RowKit.Below W.heap.size W W') : Arg W' q b off cap cs := h.step hb fun h0 => (h.at_ h0).2.2
theorem own_arg {w : World} {B e : Nat} {v : Value} {cs : List Cl} (h : w.ownsRow B e 5 v cs.length (ccells cs)) :
    ∃ p cap g, v = .slice p cs.length cap ∧ B ≤ g ∧ Arg w p g 0 cap cs ∧ (0 < cs.length → ∀ o, w.frozen? ⟨g, o, none⟩ = false) := by
  obtain ⟨p, cap, g, hv, _, hB, hr, hf⟩ := own_get h
  refine ⟨p, cap, g, hv, hB, ⟨hr, ?_⟩, hf⟩
  rintro rfl
  rcases h.2 with ⟨hv2, h0⟩ | ⟨g, cap, cur, hv2, _⟩
  · rw [hv] at hv2
    simp at hv2
    exact hv2
  · rw [hv] at hv2
    simp at hv2
theorem wpList_append_list {w : World} {ops : Array Oper} {rest : List Oper} {o : Oper} {a : Act} {Q : Exit → Act → World → Prop} (hgd : o.guard = none) (s x : Operand)
    (ho : o.op = .call { callee := .builtin .append, args := #[s, x], argTypes := #[29, 29] })
    (base : Nat) (v : Value) (xs : List Cl) (hs : a.eval s = v) (hown : w.ownsRow base 39 5 v xs.length (ccells xs))
    (q : Option Addr) (b off cap : Nat) (ds : List Cl) (hx : a.eval x = .slice q ds.length cap) (hA : Arg w q b off cap ds) (hbytes : (xs.length + ds.length) * 64 ≤ 140737488355328) (hbase : base ≤ w.heap.size)
    (h : ∀ v' w', w'.ownsRow base 39 5 v' (xs ++ ds).length (ccells (xs ++ ds)) → RowKit.Below base w w' → wpList Try.prog ops Q rest (a.put o.dst v') w') : wpList Try.prog ops Q (o :: rest) a w := by
  obtain ⟨i0, hi, hz0, hz1, hz2⟩ := info_parts Try.infoCell
  cases q with
  | none =>
    obtain ⟨rfl, rfl⟩ := hA.nil rfl
    refine wpList_append_own_none hgd s x 29 ho base 39 i0 5 Try.underlying29 hi v _ _ hs hown hx (h v w ?_ (RowKit.Below.refl _ _))
    rw [List.append_nil]
    exact hown
  | some ad =>
    have hnews : ∀ j u, (ccells ds)[j]? = some u → w.cell? (ad.add j) = some u := by
      intro j u hj
      have h0 : 0 < ds.length := by
        by_cases h : 0 < ds.length
        · exact h
        · have : ds = [] := List.eq_nil_of_length_eq_zero (by omega)
          subst this
          simp [ccells] at hj
      obtain ⟨e, hR, _⟩ := hA.at_ h0
      cases e
      exact hR.cells j u hj
    refine wpList_append_own w hgd s x 29 ho base 39 i0 (.agg #[.string ⟨#[]⟩, .string ⟨#[]⟩, .int .u64 0, .bool false, .string ⟨#[]⟩]) 5 64 Try.underlying29 hi hz0 hz1 hz2 rfl (by decide) v _ _ hs hown ad ds.length cap (ccells ds) hx (ccells_length ds) hnews (ccells_one ds) (by unfold maxLen; omega) hbytes hbase ?_
    intro v' w' hown' hgrow _
    refine h v' w' ?_ ((RowKit.Below.refl _ _).grown hgrow hbase (fun k hk => (hown.lt k hk).1))
    rw [List.length_append, ccells_append]
    exact hown'

end Go.Proofs.Ytnpjbdbhjbccbaa
