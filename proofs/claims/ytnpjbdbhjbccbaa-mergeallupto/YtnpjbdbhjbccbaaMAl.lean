/-
  The document's All; the law MergeAll, walked.
-/
import Derived.Test.YtnpjbdbhjbccbaaMRws
import Derived.Test.YtnpjbdbhjbccbaaMRis
namespace Go.Proofs.Ytnpjbdbhjbccbaa
open Go.RowKit Go.BigFrame Go.Sort
attribute [local go_sem] size_bstr toList_bstr ls_def

def upAll (xs : List IS) : List Cl := (xs.map fun x => ddl nup x.cs).flatten
theorem upAll_snoc {xs : List IS} {i : Nat} {x : IS} (h : xs[i]? = some x) : upAll (xs.take (i + 1)) = upAll (xs.take i) ++ ddl nup x.cs := by
  unfold upAll
  rw [List.take_add_one, h]
  simp
theorem upAll_len : ∀ (xs : List IS), (∀ x ∈ xs, x.cs.length ≤ 100) → (upAll xs).length ≤ xs.length * 100
  | [], _ => by simp [upAll]
  | x :: xs, h => by
    have h1 := upAll_len xs (fun y hy => h y (List.mem_cons_of_mem _ hy))
    have h2 := h x (by simp)
    have h3 := ddl_length nup x.cs
    have e : upAll (x :: xs) = ddl nup x.cs ++ upAll xs := by simp [upAll]
    rw [e, List.length_append, List.length_cons]
    omega

set_option maxHeartbeats 4000000 in
set_option maxRecDepth 100000 in
theorem R12All_any (q : Option Addr) (ob off cap : Nat) (xs : List IS) (w : World) (hA : OArg w q ob off xs) (hn : xs.length ≤ 8) (hs : ∀ x ∈ xs, x.cs.length ≤ 100) :
    Calls Try.prog 13 #[.slice q xs.length cap] w fun e w' => ∃ v, e = .returned v ∧ w'.ownsRow w.heap.size 39 5 v (sortL (upAll xs)).length (ccells (sortL (upAll xs))) ∧ Below w.heap.size w w' := by
  go_enter Try.func13, Try.ntmps13
  go_wp2
  go_loopw [3, 4] (fun s3 s4 wr => ∃ i : Nat, s4 = .int .i64 (i : Int) ∧ i ≤ xs.length ∧ wr.ownsRow w.heap.size 39 5 s3 (upAll (xs.take i)).length (ccells (upAll (xs.take i))) ∧ Below w.heap.size w wr) (fun _ s4 _ => xs.length - (intOf s4).toNat)
  case atStart => exact ⟨0, rfl, by omega, ⟨rfl, .inl ⟨rfl, rfl⟩⟩, Below.refl _ _⟩
  case round =>
    obtain ⟨i, rfl, hil, hown, hbel⟩ := hrel
    by_cases hlt : i < xs.length
    · obtain ⟨rfl, hob, hcell⟩ := hA.at_ (by omega)
      obtain ⟨x, hx⟩ : ∃ x, xs[i]? = some x := ⟨_, List.getElem?_eq_getElem hlt⟩
      have hxm := List.mem_of_getElem? hx
      have c0 : wr.cell? ⟨ob, off + i, none⟩ = some (.slice x.q x.cs.length x.cap) := by rw [hbel.cell (p := ⟨ob, off + i, none⟩) hob]; exact hcell _ x hx
      have hAx := (hA.arg x hxm).next hbel
      have hsx := hs x hxm
      have hobr : ob < wr.heap.size := Nat.lt_of_lt_of_le hob hbel.size
      have hiz : (i : Int) < (xs.length : Int) := by omega
      have HU : Hid _ := upAll_snoc hx
      have hul := upAll_len (xs.take i) (fun y hy => hs y (List.mem_of_mem_take hy))
      have htl : (xs.take i).length ≤ 8 := by rw [List.length_take]; omega
      have hris := R12rising_any x.q x.b x.off x.cap x.cs wr hAx (by omega)
      have hdl := ddl_length nup x.cs
      generalize upAll (xs.take i) = out at *
      generalize ddl nup x.cs = ds at *
      clear hcell hx
      go_wp2_with fail
      refine hris.mono ?_
      rintro e w1 ⟨v1, rfl, hown1, hb1⟩
      obtain ⟨p1, cap1, g1, rfl, hB1, hA1, _⟩ := own_arg hown1
      have hown2 := own_cbelow hown hb1
      have hbel1 := below2 hbel hb1
      clear hris hown hown1
      go_wp2_with (at_builtin; refine wpList_append_list rfl _ _ rfl w.heap.size _ out rfl hown2 p1 g1 0 cap1 ds rfl hA1 (by omega) hbel1.size ?_)
      intro v' w3 hown3 hgrow
      have hbw3 : Below w.heap.size w w3 := hbel1.trans hgrow
      have hown4 : w3.ownsRow w.heap.size 39 5 v' (upAll (xs.take (i + 1))).length (ccells (upAll (xs.take (i + 1)))) := by
        rw [HU.out, List.length_append]
        exact hown3
      clear hown2 hown3 hgrow c0
      go_wp2
      go_roundw
      case rel => exact ⟨i + 1, by go_num, by omega, hown4, hbw3⟩
      case measure => simp [intOf]; omega
    · have hie : i = xs.length := by omega
      subst hie
      rw [List.take_length] at hown
      have hul := upAll_len xs hs
      obtain ⟨out, hout⟩ : ∃ out, out = upAll xs := ⟨_, rfl⟩
      rw [← hout] at hown hul
      have HO : Hid _ := hout
      clear hout
      obtain ⟨p1, cap1, g1, rfl, hB1, hA1, _⟩ := own_arg hown
      have hso := RSort_any p1 g1 0 cap1 out wr hA1 (by omega)
      have hsz := hbel.size
      clear hown
      go_wp2_with fail
      refine hso.mono ?_
      rintro e w2 ⟨v2, rfl, hown2, hb2⟩
      have hfin := own_mono hown2 hsz
      have hb3 := below2 hbel hb2
      clear hso hown2
      go_wp2
      go_ret
      rw [← HO.out]
      exact ⟨_, rfl, hfin, hb3⟩

set_option maxHeartbeats 4000000 in
set_option maxRecDepth 100000 in
theorem MAll_any (q : Option Addr) (ob off cap : Nat) (xs : List IS) (w : World) (hA : OArg w q ob off xs) (hf : ∀ x ∈ xs, ∀ c ∈ x.cs, Fits c) :
    Calls Try.prog 3 #[.slice q xs.length cap] w fun e w' => e = .returned (.bool true) ∧ Below w.heap.size w w' := by
  have hsh := short_any q ob off cap xs w hA
  obtain ⟨ys, hys⟩ : ∃ ys, ys = (xs.take 8).map IS.cut := ⟨_, rfl⟩
  rw [← hys] at hsh
  have hyn : ys.length ≤ 8 := by rw [hys, List.length_map, List.length_take]; omega
  have hyl : ∀ x ∈ ys, x.cs.length ≤ 100 := fun x hx => by
    rw [hys] at hx
    obtain ⟨y, _, rfl⟩ := List.mem_map.1 hx
    show (y.cs.take 100).length ≤ 100
    rw [List.length_take]
    omega
  have hyf : ∀ x ∈ ys, ∀ c ∈ x.cs, Fits c := fun x hx c hc => by
    rw [hys] at hx
    obtain ⟨y, hy, rfl⟩ := List.mem_map.1 hx
    exact hf y (List.mem_of_mem_take hy) c (List.mem_of_mem_take hc)
  clear hys
  go_enter Try.func3, Try.ntmps3
  go_wp2_with fail
  refine hsh.mono ?_
  rintro e w1 ⟨q1, o1, c1, rfl, hA1, hb1⟩
  have hrows := rows_any q1 o1 0 c1 ys w1 hA1 (by omega) hyf (fun x hx => by have := hyl x hx; omega)
  clear hsh
  go_wp2_with fail
  refine hrows.mono ?_
  rintro e w2 ⟨ins, q2, r2, c2, rfl, hl2, hcs2, hq2, hR2, hd2, hF2, hb2⟩
  have hall := All_any q2 r2 0 c2 ins w2 hq2 hR2 hd2 (by omega) (fun x hx c hc => by
    have : x.cs ∈ ins.map InR.cs := List.mem_map.2 ⟨x, hx, rfl⟩
    rw [hcs2] at this
    obtain ⟨y, hy, e⟩ := List.mem_map.1 this
    exact hyf y hy c (e ▸ hc))
  rw [hl2] at hall
  have HL2 : Hid _ := hl2
  have HC2 : Hid _ := hcs2
  clear hrows hl2 hcs2
  go_wp2_with fail
  refine hall.mono ?_
  rintro e w3 ⟨v3, F3, J3, rfl, hT3, hJ3, hF3, hb3, _⟩
  have hA3 := (hA1.next hb2).next hb3
  have href := R12All_any q1 o1 0 c1 ys w3 hA3 hyn hyl
  have htot : sortL (upAll ys) = allL ins := by
    unfold upAll allL
    congr 1
    have e1 : ins.map (fun x => siftL upF none x.cs) = (ins.map InR.cs).map (siftL upF none) := by rw [List.map_map]; rfl
    have e2 : ys.map (fun x => ddl nup x.cs) = (ys.map IS.cs).map (siftL upF none) := by
      rw [List.map_map]
      exact List.map_congr_left fun x _ => rise_sift x.cs
    rw [e1, e2, HC2.out]
  have hlen : (sortL (upAll ys)).length ≤ 100000 := Nat.le_trans (sort_len _) (Nat.le_trans (upAll_len ys hyl) (by omega))
  have HT : Hid _ := htot
  clear hall htot
  go_wp2_with fail
  refine href.mono ?_
  rintro e w4 ⟨v4, rfl, hown4, hb4⟩
  obtain ⟨q4, b4, cap4, rfl, hB4, hr4⟩ := own_tells hown4
  have hlt3 := hT3.lt 0 w3 hJ3
  have ht := tells_yes hT3 0 q4 b4 0 cap4 (sortL (upAll ys)) w4 (hT3.below hJ3 hb4) (by rw [List.drop_zero]; exact HT.out) (fun h => ⟨(hr4 h).1, (hr4 h).2.1, (hr4 h).2.2, fun hf => by have := hlt3 _ hf; omega⟩) (by omega)
  have hF3' : ∀ i, F3 i → w1.heap.size ≤ i := fun i hi => by
    rcases hF3 i hi with ⟨x, hx, k⟩ | k
    · exact hF2 x hx i k
    · have := hb2.size; omega
  have hB4' := below2 (below2 hb2 hb3) hb4
  clear href hown4
  go_wp2_with fail
  refine ht.mono ?_
  rintro e w5 ⟨rfl, hk5⟩
  have hB5 : Below w1.heap.size w1 w5 := below2' hB4' hk5 hF3'
  clear ht
  go_wp2_with fail
  refine (works12_any _).mono ?_
  rintro e w6 ⟨rfl, hb6⟩
  have hfin := below2 (below2 hb1 hB5) hb6
  go_wp2
  go_ret
  exact ⟨rfl, hfin⟩

end Go.Proofs.Ytnpjbdbhjbccbaa
