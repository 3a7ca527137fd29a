/-
  The law MergeLazy: rows that count.
-/
import Derived.Test.YtnpjbdbhjbccbaaGMof
import Derived.Test.YtnpjbdbhjbccbaaGMsi
import Derived.Test.YtnpjbdbhjbccbaaCApp
import Derived.Laws.EntriesVeiled
namespace Go.Proofs.Ytnpjbdbhjbccbaa
open Go.RowKit Go.BigFrame Go.Sort
attribute [local go_sem] size_bstr toList_bstr ls_def

/-- A row that counts, n times asked. -/
structure CntJ (nb sb pb va la : Nat) (cs : List Cl) (n : Nat) (w : World) : Prop where
  n_ : w.heap[nb]? = some (.cells #[.pointer (some ⟨pb, 0, none⟩)] 44 (0, 0))
  s : w.heap[sb]? = some (.cells #[.func (.func 43) #[] #[.pointer (some ⟨va, 0, none⟩)]] 25 (0, 0))
  p : w.heap[pb]? = some (.cells #[.int .i64 (IntKind.i64.wrap (n : Int))] 3 (0, 0))
  j : OfJ va la cs n w
def CntF (nb sb pb va la : Nat) (cs : List Cl) (i : Nat) : Prop := i = nb ∨ i = sb ∨ i = pb ∨ OfF va la cs i
structure CntN (nb sb pb va la : Nat) (cs : List Cl) : Prop where
  np : nb ≠ pb
  sp : sb ≠ pb
  v : 0 < cs.length → va ≠ la
  on : ¬ OfF va la cs nb
  os : ¬ OfF va la cs sb
  op : ¬ OfF va la cs pb
theorem CntJ.lt {nb sb pb va la : Nat} {cs : List Cl} {n : Nat} {w : World} (h : CntJ nb sb pb va la cs n w) : ∀ i, CntF nb sb pb va la cs i → i < w.heap.size := fun i hi => by
  rcases hi with rfl | rfl | rfl | hi
  · exact blk_lt h.n_
  · exact blk_lt h.s
  · exact blk_lt h.p
  · exact h.j.lt i hi
theorem CntJ.kept {nb sb pb va la : Nat} {cs : List Cl} {n : Nat} {w w' : World} (h : CntJ nb sb pb va la cs n w) (hk : ∀ i, CntF nb sb pb va la cs i → w'.heap[i]? = w.heap[i]?) : CntJ nb sb pb va la cs n w' :=
  ⟨(hk nb (Or.inl rfl)).trans h.n_, (hk sb (Or.inr (Or.inl rfl))).trans h.s, (hk pb (Or.inr (Or.inr (Or.inl rfl)))).trans h.p, h.j.kept fun i hi => hk i (Or.inr (Or.inr (Or.inr hi)))⟩
theorem wrap_succ (n : Nat) : IntKind.i64.wrap (IntKind.i64.wrap (n : Int) + 1) = IntKind.i64.wrap ((n + 1 : Nat) : Int) := by
  rw [IntKind.wrap_i64, IntKind.wrap_i64, IntKind.wrap_i64]
  omega
set_option maxHeartbeats 1000000 in
theorem counted1_step {nb sb pb va la : Nat} {cs : List Cl} (hN : CntN nb sb pb va la cs) (n : Nat) (w : World) (h : CntJ nb sb pb va la cs n w) :
    Calls Try.prog 52 #[.pointer (some ⟨nb, 0, none⟩), .pointer (some ⟨sb, 0, none⟩)] w fun e w' => e = .returned (ansV cs n) ∧ CntJ nb sb pb va la cs (n + 1) w' ∧ Kp w w' (CntF nb sb pb va la cs) := by
  have hl := h.lt
  have k0 : (w.alloc (.cells #[.string ⟨#[]⟩, .string ⟨#[]⟩, .int .u64 0, .bool false, .string ⟨#[]⟩] 39)).heap[w.heap.size]? = some (cObj zC) := heap_alloc_new _ _
  have kK : Kp w (w.alloc (.cells #[.string ⟨#[]⟩, .string ⟨#[]⟩, .int .u64 0, .bool false, .string ⟨#[]⟩] 39)) (CntF nb sb pb va la cs) := (Kp.refl _ _).alloc _
  have kJ : CntJ nb sb pb va la cs n (w.alloc (.cells #[.string ⟨#[]⟩, .string ⟨#[]⟩, .int .u64 0, .bool false, .string ⟨#[]⟩] 39)) := h.kept fun i hi => heap_alloc_old _ _ (hl i hi)
  have eg : ∀ args w, (callFunc 43 args).run Try.prog w = .ok (.enter 43 args) w := enters_of Try.func43 (by kernel_rfl) rfl
  go_enter Try.func52, Try.ntmps52
  go_wp2
  generalize (w.alloc (.cells #[.string ⟨#[]⟩, .string ⟨#[]⟩, .int .u64 0, .bool false, .string ⟨#[]⟩] 39)) = W at *
  have a1 : W.cell? ⟨nb, 0, none⟩ = some (.pointer (some ⟨pb, 0, none⟩)) := (mcells kJ.n_).1 0
  have a3 : W.cell? ⟨pb, 0, none⟩ = some (.int .i64 (IntKind.i64.wrap (n : Int))) := (mcells kJ.p).1 0
  have f3 := (mcells kJ.p).2 0
  go_region_law (fail)
  all_goals (
    have p1 : ((W.setCell ⟨pb, 0, none⟩ (.int .i64 (IntKind.i64.wrap (IntKind.i64.wrap (n : Int) + 1)))).drew).heap[pb]? = some (.cells #[.int .i64 (IntKind.i64.wrap ((n + 1 : Nat) : Int))] 3 (0, 0)) := by
      rw [← wrap_succ]
      exact heap_set_same kJ.p _
    have pO : ∀ i, i ≠ pb → ((W.setCell ⟨pb, 0, none⟩ (.int .i64 (IntKind.i64.wrap (IntKind.i64.wrap (n : Int) + 1)))).drew).heap[i]? = W.heap[i]? := fun i hi => heap_set_other _ hi
    have hK1 : Kp w ((W.setCell ⟨pb, 0, none⟩ (.int .i64 (IntKind.i64.wrap (IntKind.i64.wrap (n : Int) + 1)))).drew) (CntF nb sb pb va la cs) := (kK.setCell _ (Or.inl (Or.inr (Or.inr (Or.inl rfl))))).drew
    generalize (W.setCell ⟨pb, 0, none⟩ (.int .i64 (IntKind.i64.wrap (IntKind.i64.wrap (n : Int) + 1)))).drew = W1 at *
    have hJ1 : OfJ va la cs n W1 := kJ.j.kept fun i hi => pO i (fun e => hN.op (e ▸ hi))
    have s1 : W1.heap[sb]? = _ := (pO sb hN.sp).trans kJ.s
    have a2 : W1.cell? ⟨sb, 0, none⟩ = some (.func (.func 43) #[] #[.pointer (some ⟨va, 0, none⟩)]) := (mcells s1).1 0
    have n1 : W1.heap[nb]? = _ := (pO nb hN.np).trans kJ.n_
    have r1 : W1.heap[w.heap.size]? = some (cObj zC) := (pO _ (fun e => by have := hl pb (Or.inr (Or.inr (Or.inl rfl))); omega)).trans k0
    have hcall := Of1_step va la cs n W1 hJ1 hN.v
    have HA : Hid (ansV cs n = .tuple #[clV ((cs[n]?).getD zC), .bool (decide (n < cs.length))]) := rfl
    rw [HA.out] at hcall
    generalize (cs[n]?).getD zC = c at hcall HA
    generalize decide (n < cs.length) = d at hcall HA
    obtain ⟨r, k, v, g, x⟩ := c
    have HJ : Hid _ := hJ1
    have HJJ : Hid _ := kJ
    clear hJ1 a1 a3 f3 k0 kJ
    go_wp2_with fail
    refine hcall.mono ?_
    rintro e w2 ⟨rfl, hJ2, hK2⟩
    have hO1 : ∀ i, OfF va la cs i → i < w.heap.size := fun i hi => hl i (Or.inr (Or.inr (Or.inr hi)))
    have b2 : ∀ i, i < W1.heap.size → ¬ OfF va la cs i → w2.heap[i]? = W1.heap[i]? := fun i hi hn => hK2.block i hi hn
    have r2 : w2.heap[w.heap.size]? = some (cObj zC) := (b2 _ (blk_lt r1) (fun h => by have := hO1 _ h; omega)).trans r1
    have hn2 : w2.heap[nb]? = _ := (b2 nb (blk_lt n1) hN.on).trans n1
    have hs2 : w2.heap[sb]? = _ := (b2 sb (blk_lt s1) hN.os).trans s1
    have hp2 : w2.heap[pb]? = _ := (b2 pb (blk_lt p1) hN.op).trans p1
    have hK3 := hK1.trans hK2 (fun i hi => Or.inl (Or.inr (Or.inr (Or.inr hi))))
    obtain ⟨c0, c1, c2, c3, c4, f0, f1, f2, f3, f4⟩ := cObj_facts r2
    have hrl := blk_lt r2
    clear hcall
    go_wp2
    generalize hW : ((((w2.setCell ⟨w.heap.size, 0, none⟩ _).setCell ⟨w.heap.size, 1, none⟩ _).setCell ⟨w.heap.size, 2, none⟩ _).setCell ⟨w.heap.size, 3, none⟩ _).setCell ⟨w.heap.size, 4, none⟩ _ = W'
    obtain ⟨g1, g2⟩ := cObj_set (d := ⟨r, k, v, g, x⟩) r2 hW
    obtain ⟨e0, e1, e2, e3, e4, _⟩ := cObj_facts g1
    have hnl := hl nb (Or.inl rfl)
    have hsl := hl sb (Or.inr (Or.inl rfl))
    have hpl := hl pb (Or.inr (Or.inr (Or.inl rfl)))
    refine ret_cell Try.results52 (c := ⟨r, k, v, g, x⟩) (v := .bool d) rfl rfl ⟨e0, e1, e2, e3, e4⟩ rfl ?_
    refine ⟨by rw [HA.out], ⟨(g2 nb (by omega)).trans hn2, (g2 sb (by omega)).trans hs2, (g2 pb (by omega)).trans hp2, hJ2.kept fun i hi => g2 i (by have := hO1 i hi; omega)⟩, ?_⟩
    rw [← hW]
    exact kp_set5 (o := 0) _ _ _ _ _ hK3 (Or.inr (Nat.le_refl _)))

set_option maxHeartbeats 1000000 in
theorem counted_any (q : Option Addr) (b off cap : Nat) (cs : List Cl) (w : World) (hA : Arg w q b off cap cs) (hf : ∀ c ∈ cs, Fits c) (hn : cs.length * 64 ≤ 140737488351232) (pb : Nat) (hp : w.heap[pb]? = some (.cells #[.int .i64 0] 3 (0, 0))) :
    Calls Try.prog 27 #[.slice q cs.length cap, .pointer (some ⟨pb, 0, none⟩)] w fun e w' => ∃ nb sb va la, e = .returned (.func (.func 52) #[] #[.pointer (some ⟨nb, 0, none⟩), .pointer (some ⟨sb, 0, none⟩)]) ∧ CntN nb sb pb va la cs ∧ CntJ nb sb pb va la cs 0 w' ∧ (∀ i, CntF nb sb pb va la cs i → i = pb ∨ w.heap.size ≤ i) ∧ Below w.heap.size w w' := by
  have hmf : ∀ (fn : Fn) (first cap : Array Value) (w : World), (Instr.makeFunc fn first cap).run Try.prog w = .ok (.func fn first cap) w := fun _ _ _ _ => rfl
  have hB1 : Below w.heap.size w (w.alloc (.cells #[.pointer (some ⟨pb, 0, none⟩)] 44)) := (Below.refl _ _).alloc (Nat.le_refl _) _
  have k1 : (w.alloc (.cells #[.pointer (some ⟨pb, 0, none⟩)] 44)).heap[w.heap.size]? = some (.cells #[.pointer (some ⟨pb, 0, none⟩)] 44 (0, 0)) := heap_alloc_new _ _
  have kz : (w.alloc (.cells #[.pointer (some ⟨pb, 0, none⟩)] 44)).heap.size = w.heap.size + 1 := by simp
  have hof := Of_any q b off cap cs _ (hA.next hB1).at_ hf (by omega)
  have hpl := blk_lt hp
  go_enter Try.func27, Try.ntmps27
  go_wp2_with fail
  generalize (w.alloc (.cells #[.pointer (some ⟨pb, 0, none⟩)] 44)) = W at *
  refine hof.mono ?_
  rintro e w1 ⟨va, la, rfl, hJ1, hn1, hv1, hl1, hb1⟩
  have hb2 := below2 hB1 hb1
  have hs1 := hb1.size
  have hJl := hJ1.lt
  have k2 := (hb1.block _ (by omega)).trans k1
  have k3 := (hb2.block _ hpl).trans hp
  have hOF : ∀ i, OfF va la cs i → w.heap.size + 1 ≤ i ∧ i < w1.heap.size := fun i hi => ⟨by rcases hi with rfl | ⟨_, rfl⟩ <;> omega, hJl i hi⟩
  have hnew := heap_alloc_new w1 (.cells #[.func (.func 43) #[] #[.pointer (some ⟨va, 0, none⟩)]] 25)
  have hold : ∀ i, i < w1.heap.size → (w1.alloc (.cells #[.func (.func 43) #[] #[.pointer (some ⟨va, 0, none⟩)]] 25)).heap[i]? = w1.heap[i]? := fun i hi => heap_alloc_old _ _ hi
  clear hof
  go_wp2
  go_ret
  refine ⟨_, _, va, la, rfl, ⟨by omega, by omega, fun _ => hn1, fun h => by have := hOF _ h; omega, fun h => by have := hOF _ h; omega, fun h => by have := hOF _ h; omega⟩, ⟨?_, ?_, ?_, ?_⟩, fun i hi => ?_, ?_⟩
  · rw [hold _ (by omega)]; exact k2
  · exact hnew
  · rw [hold _ (by omega)]; exact k3
  · exact hJ1.kept fun i hi => hold _ (hOF i hi).2
  · rcases hi with rfl | rfl | rfl | hi
    · exact Or.inr (Nat.le_refl _)
    · exact Or.inr (by omega)
    · exact Or.inl rfl
    · have := hOF i hi; exact Or.inr (by omega)
  · exact below2 hb2 ((Below.refl _ _).alloc (Nat.le_refl _) _)
end Go.Proofs.Ytnpjbdbhjbccbaa
