/-
  The law MergeSorts: what its legs come to.
-/
import Derived.Test.YtnpjbdbhjbccbaaMSo1
namespace Go.Proofs.Ytnpjbdbhjbccbaa
open Go.RowKit Go.BigFrame Go.Sort
attribute [local go_sem] size_bstr toList_bstr ls_def

theorem flat_len : ∀ (ss : List IS), (∀ s ∈ ss, s.cs.length ≤ 100) → (ss.map IS.cs).flatten.length ≤ ss.length * 100
  | [], _ => by simp
  | s :: ss, h => by
    have h1 := flat_len ss (fun t ht => h t (List.mem_cons_of_mem _ ht))
    have h2 := h s (by simp)
    rw [List.map_cons, List.flatten_cons, List.length_append, List.length_cons]
    omega
theorem SB.mem {w0 w : World} {ys ss : List IS} {va vs : Value} (h : SB w0 w ys ss va vs) {s : IS} (hs : s ∈ ss) : ∃ y ∈ ys, s.cs = sortL y.cs := by
  have h1 : s.cs ∈ ss.map IS.cs := List.mem_map.2 ⟨s, hs, rfl⟩
  rw [h.cs] at h1
  obtain ⟨y, hy, e⟩ := List.mem_map.1 h1
  exact ⟨y, List.mem_of_mem_take hy, e.symm⟩
theorem SB.len {w0 w : World} {ys ss : List IS} {va vs : Value} (h : SB w0 w ys ss va vs) (hl : ∀ y ∈ ys, y.cs.length ≤ 100) : ∀ s ∈ ss, s.cs.length ≤ 100 := fun s hs => by
  obtain ⟨y, hy, e⟩ := h.mem hs
  rw [e]
  exact Nat.le_trans (sort_len _) (hl y hy)
theorem SB.fit {w0 w : World} {ys ss : List IS} {va vs : Value} (h : SB w0 w ys ss va vs) (hf : ∀ y ∈ ys, ∀ c ∈ y.cs, Fits c) : ∀ s ∈ ss, ∀ c ∈ s.cs, Fits c := fun s hs c hc => by
  obtain ⟨y, hy, e⟩ := h.mem hs
  rw [e] at hc
  exact hf y hy c ((sortL_spec _).sub c hc)
theorem SB.so2 {w0 w w1 w2 : World} {ys ss : List IS} {va vs : Value} (h : SB w0 w ys ss va vs) (hb : Below w.heap.size w w1) (ga : w1.grownBy w2 va.ownBlock) : w2.ownsRow w0.heap.size 29 1 vs ss.length (ss.map IS.v) :=
  own_gr (own_cbelow h.so hb) ga (fun g hg e => own_ty h.al h.so (by decide) e hg)
theorem own_is {w : World} {B e : Nat} {v : Value} {cs : List Cl} (h : w.ownsRow B e 5 v cs.length (ccells cs)) : ∃ p g cap, v = .slice p cs.length cap ∧ B ≤ g ∧ Arg w p g 0 cap cs ∧ cs.length ≤ cap := by
  obtain ⟨p, cap, g, hv, hB, hA, _⟩ := own_arg h
  obtain ⟨p', cap', hv', _, hc, _⟩ := own_cslice h
  rw [hv] at hv'
  cases hv'
  exact ⟨p, g, cap, hv, hB, hA, hc⟩
/-- What All of the law's rows answers. -/
def AQ (fl : List Cl) (wr : World) (e : Ending) (w' : World) : Prop :=
  ∃ vb F J, e = .returned (.func (.func 31) #[] #[.pointer (some ⟨vb, 0, none⟩)]) ∧ Tlr 31 #[.pointer (some ⟨vb, 0, none⟩)] F (sortL fl) J ∧ J 0 w' ∧ (∀ i, F i → wr.heap.size ≤ i) ∧ Below wr.heap.size wr w'
theorem all_up {ins : List InR} {ss : List IS} (hc : ins.map InR.cs = ss.map IS.cs) (ha : ∀ s ∈ ss, Asc s.cs) : allL ins = sortL (ss.map IS.cs).flatten := by
  unfold allL
  congr 2
  have e1 : ins.map (fun x => siftL upF none x.cs) = (ins.map InR.cs).map (siftL upF none) := by rw [List.map_map]; rfl
  rw [e1, hc, List.map_map]
  exact List.map_congr_left fun s hs => up_asc s.cs none (ha s hs) (fun y hy => (by cases hy))
theorem rows_q {ss : List IS} {wr w' : World} {e : Ending} {fl : List Cl} (h : RowsQ ss wr e w') (hn : ss.length ≤ 8) (ha : ∀ s ∈ ss, Asc s.cs) (hf : ∀ s ∈ ss, ∀ c ∈ s.cs, Fits c) (hfl : Hid (fl = (ss.map IS.cs).flatten)) :
    ∃ q c, e = .returned (.slice q ss.length c) ∧ Hid (Calls Try.prog 11 #[.slice q ss.length c] w' (AQ fl wr)) := by
  obtain ⟨ins, q2, r2, c2, rfl, hl2, hcs2, hq2, hR2, hd2, hF2, hb2⟩ := h
  refine ⟨q2, c2, rfl, ?_⟩
  have hall := All_any q2 r2 0 c2 ins w' hq2 hR2 hd2 (by omega) (fun x hx c hc => by
    have : x.cs ∈ ins.map InR.cs := List.mem_map.2 ⟨x, hx, rfl⟩
    rw [hcs2] at this
    obtain ⟨y, hy, e⟩ := List.mem_map.1 this
    exact hf y hy c (e ▸ hc))
  rw [hl2] at hall
  show Calls _ _ _ _ _
  refine hall.mono ?_
  rintro e w3 ⟨v3, F3, J3, rfl, hT3, hJ3, hF3, hb3, _⟩
  rw [all_up hcs2 ha, ← hfl.out] at hT3
  refine ⟨v3, F3, J3, rfl, hT3, hJ3, fun i hi => ?_, below2 hb2 hb3⟩
  rcases hF3 i hi with ⟨x, hx, k⟩ | k
  · exact hF2 x hx i k
  · have := hb2.size; omega
theorem list_all {g : Nat} {caps : Array Value} {F : Nat → Prop} {cs : List Cl} {J : Nat → World → Prop} (hT : Tlr g caps F cs J) (w : World) (hJ : J 0 w) (l : List Cl) (hl : cs = l) (m : Nat) (hm : l.length ≤ m) (hm2 : m ≤ 100000) :
    Calls Try.prog 21 #[.func (.func g) #[] caps, .int .i64 ((m : Int) + 1)] w fun e w' => ∃ v, e = .returned v ∧ w'.ownsRow w.heap.size 39 5 v l.length (ccells l) ∧ Kp w w' F := by
  subst hl
  refine (List_row hT 0 ((m : Int) + 1) w hJ (by omega) (by omega)).mono ?_
  rintro e w' ⟨v, rfl, hown, _, hk⟩
  have e1 : (cs.drop 0).take ((m : Int) + 1).toNat = cs := by
    rw [List.drop_zero]
    exact List.take_of_length_le (by omega)
  rw [e1] at hown
  exact ⟨v, rfl, hown, hk⟩
theorem same_own {w : World} {B B' : Nat} {v v' : Value} {l : List Cl} (h : w.ownsRow B 39 5 v l.length (ccells l)) (h' : w.ownsRow B' 39 5 v' l.length (ccells l)) (hn : l.length ≤ 100000) :
    Calls Try.prog 24 #[v, v'] w fun e w' => e = .returned (.bool true) ∧ Below w.heap.size w w' := by
  obtain ⟨q, b, c, rfl, _, hr⟩ := own_tells h
  obtain ⟨q', b', c', rfl, _, hr'⟩ := own_tells h'
  exact same_yes q q' b 0 c b' 0 c' l w (fun h0 => ⟨(hr h0).1, (hr h0).2.1⟩) (fun h0 => ⟨(hr' h0).1, (hr' h0).2.1⟩) (by omega)
theorem same_own2 {w : World} {B : Nat} {v : Value} {l : List Cl} (h : w.ownsRow B 39 5 v l.length (ccells l)) (q' : Option Addr) (b' c' : Nat) (h' : 0 < l.length → q' = some ⟨b', 0, none⟩ ∧ CRow w b' 0 l ∧ b' < w.heap.size) (hn : l.length ≤ 100000) :
    Calls Try.prog 24 #[v, .slice q' l.length c'] w fun e w' => e = .returned (.bool true) ∧ Below w.heap.size w w' := by
  obtain ⟨q, b, c, rfl, _, hr⟩ := own_tells h
  exact same_yes q q' b 0 c b' 0 c' l w (fun h0 => ⟨(hr h0).1, (hr h0).2.1⟩) (fun h0 => ⟨(h' h0).1, (h' h0).2.1⟩) (by omega)
theorem new_of (fl : List Cl) : siftL newF none (sortL fl) = newL fl := (ddl_sift _).symm
theorem alv_of (fl : List Cl) : alvL (siftL newF none (sortL fl)) = aliveL fl := by rw [new_of]; rfl
theorem new_len (fl : List Cl) : (newL fl).length ≤ fl.length := Nat.le_trans (ddl_length _ _) (sort_len _)
theorem alv_len (fl : List Cl) : (aliveL fl).length ≤ fl.length := Nat.le_trans (List.length_filter_le _ _) (new_len fl)

end Go.Proofs.Ytnpjbdbhjbccbaa
