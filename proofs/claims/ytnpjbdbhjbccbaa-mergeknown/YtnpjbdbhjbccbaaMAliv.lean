/-
  merge.Alive: of the newest those that are not gone.
-/
import Derived.Test.YtnpjbdbhjbccbaaMRow
import Derived.Laws.EntriesVeiled
namespace Go.Proofs.Ytnpjbdbhjbccbaa
open Go.RowKit Go.BigFrame Go.Sort
attribute [local go_sem] size_bstr toList_bstr ls_def

def ngB (c : Cl) : Bool := !c.gone
def alvL (cs : List Cl) : List Cl := cs.filter ngB
/-- Where Alive stands: n asked of it, m of its row; o: what that answered last. -/
def AS (cs : List Cl) (n m : Nat) (o : Option Cl) : Prop := (alvL cs).drop n = alvL (o.toList ++ cs.drop m) ∧ (o = none → cs.length ≤ m) ∧ (o ≠ none → m ≤ cs.length)
theorem AS.ask {cs : List Cl} {n m : Nat} (h : (alvL cs).drop n = alvL (cs.drop m)) : AS cs n (m + 1) cs[m]? := by
  by_cases hm : m < cs.length
  · obtain ⟨c, hc⟩ : ∃ c, cs[m]? = some c := ⟨_, List.getElem?_eq_getElem hm⟩
    rw [hc]
    rw [drop_get hc] at h
    exact ⟨h, fun e => (by cases e), fun _ => by omega⟩
  · rw [List.getElem?_eq_none (by omega)]
    refine ⟨?_, fun _ => by omega, fun e => absurd rfl e⟩
    rw [h, List.drop_eq_nil_of_le (show cs.length ≤ m by omega), List.drop_eq_nil_of_le (show cs.length ≤ m + 1 by omega)]
    rfl
theorem AS.gone {cs : List Cl} {n m : Nat} {c : Cl} (h : AS cs n m (some c)) (hg : c.gone = true) : (alvL cs).drop n = alvL (cs.drop m) := by
  have := h.1
  simp only [Option.toList_some, List.singleton_append] at this
  rw [this]
  unfold alvL
  rw [List.filter_cons_of_neg (by simp [ngB, hg])]
theorem AS.told {cs : List Cl} {n m : Nat} {c : Cl} (h : AS cs n m (some c)) (hg : c.gone = false) : (alvL cs)[n]? = some c ∧ (alvL cs).drop (n + 1) = alvL (cs.drop m) := by
  have := h.1
  simp only [Option.toList_some, List.singleton_append] at this
  have e : alvL (c :: cs.drop m) = c :: alvL (cs.drop m) := by unfold alvL; rw [List.filter_cons_of_pos (by simp [ngB, hg])]
  rw [e] at this
  constructor
  · have h2 : ((alvL cs).drop n)[0]? = some c := by rw [this]; rfl
    rw [List.getElem?_drop] at h2
    exact h2
  · rw [← List.drop_drop, this]
    rfl
theorem AS.over {cs : List Cl} {n m : Nat} (h : AS cs n m none) : (alvL cs).length ≤ n ∧ (alvL cs).drop (n + 1) = alvL (cs.drop m) := by
  have h1 := h.1
  have h2 := h.2.1 rfl
  simp only [Option.toList_none, List.nil_append] at h1
  rw [List.drop_eq_nil_of_le h2] at h1 ⊢
  have hl : (alvL cs).length ≤ n := by
    have := congrArg List.length h1
    simp [alvL] at this ⊢
    omega
  exact ⟨hl, by rw [List.drop_eq_nil_of_le (by omega)]; rfl⟩

def AlvF (F : Nat → Prop) (vb i : Nat) : Prop := F i ∨ i = vb
structure AlvJ (g : Nat) (caps : Array Value) (cs : List Cl) (J : Nat → World → Prop) (vb n : Nat) (w : World) : Prop where
  out : ∃ m, J m w ∧ (alvL cs).drop n = alvL (cs.drop m)
  v : w.heap[vb]? = some (.cells #[.func (.func g) #[] caps] 25 (0, 0))
/-- Alive under way: what its row told last lies in block cb. -/
structure AlvG (w0 w : World) (g : Nat) (caps : Array Value) (F : Nat → Prop) (J : Nat → World → Prop) (vb cb m : Nat) (o : Option Cl) : Prop where
  j : J m w
  v : w.heap[vb]? = some (.cells #[.func (.func g) #[] caps] 25 (0, 0))
  z : w.heap[w0.heap.size]? = some (cObj zC)
  c : w.heap[cb]? = some (cObj (o.getD zC))
  k : Kp w0 w (AlvF F vb)

theorem ansV_opt (cs : List Cl) (n : Nat) : ansV cs n = .tuple #[clV ((cs[n]?).getD zC), .bool (cs[n]?).isSome] := by
  by_cases h : n < cs.length
  · rw [ansV_yes (List.getElem?_eq_getElem h), List.getElem?_eq_getElem h]; rfl
  · rw [ansV_no (by omega), List.getElem?_eq_none (by omega)]; rfl
theorem AlvG.new {w0 w w1 : World} {g : Nat} {caps : Array Value} {F : Nat → Prop} {J : Nat → World → Prop} {cs : List Cl} {vb m : Nat} (hT : Tlr g caps F cs J) (hd : ¬ F vb) (hFl : ∀ i, F i → i < w0.heap.size) (hv : w0.heap[vb]? = some (.cells #[.func (.func g) #[] caps] 25 (0, 0))) (hw : w = w0.alloc (cObj zC)) (hj : J m w1) (hk : Kp w w1 F) (o : Option Cl) :
    AlvG w0 (w1.alloc (cObj (o.getD zC))) g caps F J vb w1.heap.size m o := by
  subst hw
  have hs := hk.size
  have hvl := blk_lt hv
  have hsz : (w0.alloc (cObj zC)).heap.size = w0.heap.size + 1 := by simp
  refine ⟨hT.below hj ((Below.refl _ _).alloc (Nat.le_refl _) _), ?_, ?_, heap_alloc_new w1 _, ?_⟩
  · exact (heap_alloc_old _ _ (by omega)).trans ((hk.block vb (by omega) hd).trans ((heap_alloc_old _ _ hvl).trans hv))
  · exact (heap_alloc_old _ _ (by omega)).trans ((hk.block _ (by omega) (fun hf => by have := hFl _ hf; omega)).trans (heap_alloc_new w0 _))
  · exact ((((Kp.refl w0 (AlvF F vb)).alloc _)).trans hk (fun i hi => Or.inl (Or.inl hi))).alloc _
/-- The row is asked once more, and what it tells laid over what it told. -/
theorem AlvG.more {w0 w w1 w2 : World} {g : Nat} {caps : Array Value} {F : Nat → Prop} {J : Nat → World → Prop} {cs : List Cl} {vb cb m : Nat} {o o' : Option Cl} (hT : Tlr g caps F cs J) (hd : ¬ F vb) (hFl : ∀ i, F i → i < w0.heap.size) (hcb : w0.heap.size < cb) (hvl : vb < w0.heap.size) (h : AlvG w0 w g caps F J vb cb m o) (hj : J (m + 1) w1) (hk : Kp w w1 F)
    (hw : ((((w1.setCell ⟨cb, 0, none⟩ (.string (bstr (o'.getD zC).row))).setCell ⟨cb, 1, none⟩ (.string (bstr (o'.getD zC).col))).setCell ⟨cb, 2, none⟩ (.int .u64 (o'.getD zC).ver)).setCell ⟨cb, 3, none⟩ (.bool (o'.getD zC).gone)).setCell ⟨cb, 4, none⟩ (.string (bstr (o'.getD zC).val)) = w2) :
    AlvG w0 w2 g caps F J vb cb (m + 1) o' := by
  have hc1 : w1.heap[cb]? = some (cObj (o.getD zC)) := (hk.block cb (blk_lt h.c) (fun hf => by have := hFl _ hf; omega)).trans h.c
  obtain ⟨hs, ho⟩ := cObj_set hc1 hw
  refine ⟨hT.kept _ _ _ hj fun i hi => ho i (by have := hFl i hi; omega), (ho vb (by omega)).trans ((hk.block vb (blk_lt h.v) hd).trans h.v), (ho _ (by omega)).trans ((hk.block _ (blk_lt h.z) (fun hf => by have := hFl _ hf; omega)).trans h.z), hs, ?_⟩
  have hn : AlvF F vb cb ∨ w0.heap.size ≤ cb := Or.inr (by omega)
  rw [← hw]
  exact (((((h.k.trans hk (fun i hi => Or.inl (Or.inl hi))).setCell _ hn).setCell _ hn).setCell _ hn).setCell _ hn).setCell _ hn
theorem AlvG.call {w0 w w1 : World} {g : Nat} {caps : Array Value} {F : Nat → Prop} {J : Nat → World → Prop} {vb cb m : Nat} {o : Option Cl} (hFl : ∀ i, F i → i < w0.heap.size) (hcb : w0.heap.size < cb) (h : AlvG w0 w g caps F J vb cb m o) (hk : Kp w w1 F) : w1.heap[cb]? = some (cObj (o.getD zC)) := (hk.block cb (blk_lt h.c) (fun hf => by have := hFl _ hf; omega)).trans h.c
theorem AlvG.ends {w0 w w' : World} {g : Nat} {caps : Array Value} {F : Nat → Prop} {J : Nat → World → Prop} {cs : List Cl} {vb cb m : Nat} {o : Option Cl} {d : Cl} (hT : Tlr g caps F cs J) (hFl : ∀ i, F i → i < w0.heap.size) (hvl : vb < w0.heap.size) (h : AlvG w0 w g caps F J vb cb m o)
    (hw : ((((w.setCell ⟨w0.heap.size, 0, none⟩ (.string (bstr d.row))).setCell ⟨w0.heap.size, 1, none⟩ (.string (bstr d.col))).setCell ⟨w0.heap.size, 2, none⟩ (.int .u64 d.ver)).setCell ⟨w0.heap.size, 3, none⟩ (.bool d.gone)).setCell ⟨w0.heap.size, 4, none⟩ (.string (bstr d.val)) = w') :
    w'.heap[w0.heap.size]? = some (cObj d) ∧ J m w' ∧ w'.heap[vb]? = some (.cells #[.func (.func g) #[] caps] 25 (0, 0)) ∧ Kp w0 w' (AlvF F vb) := by
  obtain ⟨hs, ho⟩ := cObj_set h.z hw
  refine ⟨hs, hT.kept _ _ _ h.j fun i hi => ho i (by have := hFl i hi; omega), (ho vb (by omega)).trans h.v, ?_⟩
  have hn : AlvF F vb w0.heap.size ∨ w0.heap.size ≤ w0.heap.size := Or.inr (Nat.le_refl _)
  rw [← hw]
  exact ((((h.k.setCell _ hn).setCell _ hn).setCell _ hn).setCell _ hn).setCell _ hn

set_option maxHeartbeats 8000000 in
set_option maxRecDepth 100000 in
theorem Alive1_step {g : Nat} {caps : Array Value} {F : Nat → Prop} {cs : List Cl} {J : Nat → World → Prop} (hT : Tlr g caps F cs J) {vb : Nat} (hd : ¬ F vb) (n : Nat) (w : World) (h : AlvJ g caps cs J vb n w) :
    Calls Try.prog 45 #[.pointer (some ⟨vb, 0, none⟩)] w fun e w' => e = .returned (ansV (alvL cs) n) ∧ AlvJ g caps cs J vb (n + 1) w' ∧ Kp w w' (AlvF F vb) := by
  obtain ⟨m0, hJ0, hR0⟩ := h.out
  have eg := hT.eg
  have hvl := blk_lt h.v
  have hFl := hT.lt m0 w hJ0
  have v0 := (mcells h.v).1 0
  have hJa := hT.below hJ0 ((Below.refl _ w).alloc (Nat.le_refl _) (cObj zC))
  have hcall := hT.step m0 _ hJa
  have HR0 : Hid _ := hR0
  have HV : Hid _ := h.v
  clear hR0 h
  rw [ansV_opt] at hcall
  have hcall' : Calls Try.prog g caps (w.alloc (.cells #[.string ⟨#[]⟩, .string ⟨#[]⟩, .int .u64 0, .bool false, .string ⟨#[]⟩] 39)) _ := hcall
  clear hcall
  go_enter Try.func45, Try.ntmps45
  go_wp2_with fail
  refine hcall'.mono ?_
  clear hcall'
  rintro e w1 ⟨rfl, hJ1, hK1⟩
  have HS0 : Hid _ := AS.ask HR0.out
  have hG0 := fun o => AlvG.new hT hd hFl HV.out rfl hJ1 hK1 o
  have hk1 := hK1.size
  generalize cs[m0]? = o0 at *
  have hG : AlvG w (w1.alloc (.cells #[.string (bstr (o0.getD zC).row), .string (bstr (o0.getD zC).col), .int .u64 (o0.getD zC).ver, .bool (o0.getD zC).gone, .string (bstr (o0.getD zC).val)] 39)) g caps F J vb w1.heap.size (m0 + 1) o0 := hG0 o0
  have hcb : w.heap.size < w1.heap.size := Nat.lt_of_lt_of_le (by simp) hk1
  clear hG0 hK1 hJ1 hJa v0 hk1
  generalize hc0 : o0.getD zC = c0 at *
  have HC0 : Hid _ := hc0
  clear hc0
  go_wp2
  generalize w1.alloc (.cells #[.string (bstr c0.row), .string (bstr c0.col), .int .u64 c0.ver, .bool c0.gone, .string (bstr c0.val)] 39) = wa at *
  go_loopg [4] (cs.length + 2) (fun kx s4 wr => ∃ m o, s4 = .bool (Option.isSome o) ∧ Aside (AS cs n m o) ∧ cs.length + 1 - m ≤ kx ∧ AlvG w wr g caps F J vb w1.heap.size m o)
  case atStart => exact ⟨m0 + 1, o0, rfl, HS0.out, by omega, hG⟩
  case round =>
    clear hG HS0 HR0 HC0
    obtain ⟨m, o, rfl, HA, hk, hG⟩ := hrel
    obtain ⟨z0, z1, z2, z3, z4, y0, y1, y2, y3, y4⟩ := cObj_facts hG.z
    obtain ⟨d0, d1, d2, d3, d4, _⟩ := cObj_facts hG.c
    have HG : Hid _ := hG
    have hne1 : w.heap.size ≠ w1.heap.size := by omega
    have hne2 : w1.heap.size ≠ w.heap.size := by omega
    cases o with
    | none =>
      obtain ⟨hl, hd2⟩ := HA.out.over
      simp only [Option.getD_none] at d0 d1 d2 d3 d4
      have n0 := setCell_noop z0
      have n1 := setCell_noop z1
      have n2 := setCell_noop z2
      have n3 := setCell_noop z3
      have n4 := setCell_noop z4
      have HL : Hid _ := hl
      have HD : Hid _ := hd2
      clear hG hl hd2
      simp only [Option.isSome_none]
      go_wp2
      refine ret_cell Try.results45 (c := zC) (v := .bool false) rfl rfl (cObj_at HG.out.z) rfl ?_
      exact ⟨by rw [ansV_no HL.out], ⟨⟨_, HG.out.j, HD.out⟩, HG.out.v⟩, HG.out.k⟩
    | some c =>
      simp only [Option.getD_some] at d0 d1 d2 d3 d4
      simp only [Option.isSome_some]
      cases hg : c.gone with
      | false =>
        rw [hg] at d3
        obtain ⟨ht, hd2⟩ := HA.out.told hg
        have HT : Hid _ := ht
        have HD : Hid _ := hd2
        have HGN : Hid _ := hg
        clear hG ht hd2 hg
        go_wp2
        generalize hW : ((((wr.setCell ⟨w.heap.size, 0, none⟩ (.string (bstr c.row))).setCell ⟨w.heap.size, 1, none⟩ (.string (bstr c.col))).setCell ⟨w.heap.size, 2, none⟩ (.int .u64 c.ver)).setCell ⟨w.heap.size, 3, none⟩ (.bool false)).setCell ⟨w.heap.size, 4, none⟩ (.string (bstr c.val)) = W
        have hW' : ((((wr.setCell ⟨w.heap.size, 0, none⟩ (.string (bstr c.row))).setCell ⟨w.heap.size, 1, none⟩ (.string (bstr c.col))).setCell ⟨w.heap.size, 2, none⟩ (.int .u64 c.ver)).setCell ⟨w.heap.size, 3, none⟩ (.bool c.gone)).setCell ⟨w.heap.size, 4, none⟩ (.string (bstr c.val)) = W := by rw [HGN.out]; exact hW
        obtain ⟨hz, hjj, hvv, hkk⟩ := AlvG.ends (w' := W) (d := c) hT hFl hvl HG.out hW'
        clear hW hW'
        refine ret_cell Try.results45 (c := c) (v := .bool true) rfl rfl (cObj_at hz) rfl ?_
        exact ⟨by rw [ansV_yes HT.out], ⟨⟨_, hjj, HD.out⟩, hvv⟩, hkk⟩
      | true =>
        rw [hg] at d3
        have hcall := hT.step m wr hG.j
        have v0 := (mcells hG.v).1 0
        have hvr := blk_lt hG.v
        rw [ansV_opt] at hcall
        have HS : Hid _ := AS.ask (HA.out.gone hg)
        have hml := HA.out.2.2 (by simp)
        clear hg hG
        go_wp2_with fail
        refine hcall.mono ?_
        clear hcall
        rintro e w2 ⟨rfl, hJ2, hK2⟩
        have hG3 := fun o' W hw => HG.out.more (o' := o') (w2 := W) hT hd hFl hcb hvl hJ2 hK2 hw
        generalize cs[m]? = o' at *
        obtain ⟨q0, q1, q2, q3, q4, r0, r1, r2, r3, r4⟩ := cObj_facts (HG.out.call hFl hcb hK2)
        have hG4 := hG3 o'
        have HG4 : Hid _ := hG4
        clear d0 d1 d2 d3 d4 z0 z1 z2 z3 z4 y0 y1 y2 y3 y4 v0 hG3 hG4
        generalize hc1 : o'.getD zC = c1 at *
        clear hc1
        go_wp2
        go_roundg (cs.length + 1 - (m + 1))
        case measure => omega
        case rel => exact ⟨m + 1, o', rfl, HS.out, Nat.le_refl _, HG4.out _ rfl⟩

theorem Alive_tlr {g : Nat} {caps : Array Value} {F : Nat → Prop} {cs : List Cl} {J : Nat → World → Prop} (hT : Tlr g caps F cs J) {vb : Nat} (hd : ¬ F vb) :
    Tlr 45 #[.pointer (some ⟨vb, 0, none⟩)] (AlvF F vb) (alvL cs) (AlvJ g caps cs J vb) where
  eg := enters_of Try.func45 (by kernel_rfl) rfl
  fits c hc := hT.fits c (List.mem_filter.1 hc).1
  lt n w h i hi := by
    obtain ⟨m, hJ, _⟩ := h.out
    rcases hi with hi | rfl
    · exact hT.lt m w hJ i hi
    · exact blk_lt h.v
  kept n w w' h hk := by
    obtain ⟨m, hJ, hR⟩ := h.out
    exact ⟨⟨m, hT.kept m w w' hJ (fun i hi => hk i (Or.inl hi)), hR⟩, (hk vb (Or.inr rfl)).trans h.v⟩
  step n w h := Alive1_step hT hd n w h

/-- What Alive of a row is. -/
def AlvQ (F : Nat → Prop) (cs : List Cl) (w : World) (e : Ending) (w' : World) : Prop :=
  ∃ caps' F' J', e = .returned (.func (.func 45) #[] caps') ∧ Tlr 45 caps' F' (alvL (siftL newF none cs)) J' ∧ J' 0 w' ∧ (∀ i, F' i → F i ∨ w.heap.size ≤ i) ∧ Below w.heap.size w w'
set_option maxHeartbeats 1000000 in
theorem alive_rv {v : Value} {F : Nat → Prop} {cs : List Cl} {J : Nat → World → Prop} (h : RowV v F cs J) (w : World) (hJ : J 0 w) :
    Calls Try.prog 18 #[v] w (AlvQ F cs w) := by
  have hmf : ∀ (fn : Fn) (first cap : Array Value) (w : World), (Instr.makeFunc fn first cap).run Try.prog w = .ok (.func fn first cap) w := fun _ _ _ _ => rfl
  go_enter Try.func18, Try.ntmps18
  go_wp2_with fail
  refine (newest_rv h _ hJ).mono ?_
  rintro e w1 ⟨caps', F', J', rfl, hT, hJ1, hF', hb, _⟩
  have hlt := hT.lt 0 w1 hJ1
  go_wp2
  go_ret
  refine ⟨_, _, _, rfl, Alive_tlr hT (vb := w1.heap.size) (fun hf => absurd (hlt _ hf) (by omega)), ⟨⟨0, hT.below hJ1 ((Below.refl _ _).alloc (Nat.le_refl _) _), rfl⟩, heap_alloc_new w1 _⟩, ?_, below2 hb ((Below.refl _ _).alloc (Nat.le_refl _) _)⟩
  intro i hi
  rcases hi with hi | rfl
  · exact hF' i hi
  · exact Or.inr hb.size

end Go.Proofs.Ytnpjbdbhjbccbaa
