/-
  BlockBack, walked.
-/
import Derived.Test.YtbllbcbjjocphaaEAgn
import Derived.Test.YtbllbcbjjocphaaCNew
import Derived.Deep.RegionHeld3
import Derived.Deep.Cut
import Derived.Deep.CutBlock
import Derived.Deep.CutRange
namespace Go.Proofs.Ytbllbcbjjocphaa
open Go.RowKit Go.BigFrame Go.Sort
attribute [local go_sem] size_bstr toList_bstr ls_def

theorem bldE_z {L : List Cl} (h : bldE L = 0) : Good L := by
  unfold bldE at h
  split at h
  · rename_i hk
    split at h
    · rename_i hl
      exact ⟨(okL_iff.1 hk).1, (okL_iff.1 hk).2, hl⟩
    · cases h
  · cases h
theorem fnd_some {row col : List UInt8} : ∀ {S : List Cl} {x : Cl}, Asc S → x ∈ S → x.row = row ∧ x.col = col → ∃ d, fnd row col S = some d ∧ d ∈ S ∧ (d.row = row ∧ d.col = col) ∧ ccl d x ≤ 0
  | c :: l, x, ha, hx, hp => by
    obtain ⟨h1, h2⟩ := List.pairwise_cons.1 ha
    by_cases hc : c.row = row ∧ c.col = col
    · refine ⟨c, by rw [fnd, if_pos hc], by simp, hc, ?_⟩
      rcases List.mem_cons.1 hx with rfl | hx
      · rw [ccl_self]; omega
      · have := h1 x hx; omega
    · have hxl : x ∈ l := by
        rcases List.mem_cons.1 hx with rfl | hx
        · exact absurd hp hc
        · exact hx
      obtain ⟨d, e1, e2, e3, e4⟩ := fnd_some h2 hxl hp
      exact ⟨d, by rw [fnd, if_neg hc]; exact e1, by simp [e2], e3, e4⟩
theorem fnd_mem {row col : List UInt8} : ∀ {S : List Cl} {d : Cl}, fnd row col S = some d → d ∈ S ∧ d.row = row ∧ d.col = col
  | c :: l, d, h => by
    rw [fnd] at h
    split at h
    · rename_i hc
      cases h
      exact ⟨by simp, hc⟩
    · obtain ⟨h1, h2⟩ := fnd_mem h
      exact ⟨by simp [h1], h2⟩
theorem asc_one {S : List Cl} (h : Asc S) {a b : Cl} (ha : a ∈ S) (hb : b ∈ S) (e : ccl a b = 0) : a = b := by
  obtain ⟨i, hi, rfl⟩ := List.getElem_of_mem ha
  obtain ⟨j, hj, rfl⟩ := List.getElem_of_mem hb
  rcases Nat.lt_trichotomy i j with k | k | k
  · have := List.pairwise_iff_getElem.1 h i j hi hj k
    omega
  · subst k
    rfl
  · have := List.pairwise_iff_getElem.1 h j i hj hi k
    have := ccl_sym e
    omega
/-- The newest of a place is what is found. -/
theorem fnd_new {S N : List Cl} (h : Asc S) (k : NewSpec S N) {n : Cl} (hn : n ∈ N) : fnd n.row n.col S = some n := by
  obtain ⟨d, e1, e2, e3, e4⟩ := fnd_some h (k.sub n hn) ⟨rfl, rfl⟩
  obtain ⟨n', h1, h2, h3⟩ := k.best d e2
  have hpl : plc n' n = true := plc_trans h2 (plc_iff.2 e3)
  obtain rfl := apart_one k.apart h1 hn hpl
  have hz : ccl d n' = 0 := by
    have := ccl_neg (a := n') (b := d)
    have := ccl_neg (a := d) (b := n')
    omega
  rw [e1, asc_one h e2 (k.sub n' hn) hz]
/-- Is one of these cells of a place? -/
def hasP (row col : List UInt8) (N : List Cl) : Bool := N.any fun n => n.row == row && n.col == col
theorem hasP_fnd {S N : List Cl} (row col : List UInt8) (h : Asc S) (k : NewSpec S N) : (fnd row col S).isSome = hasP row col N := by
  cases hf : fnd row col S with
  | some d =>
    obtain ⟨h1, h2⟩ := fnd_mem hf
    obtain ⟨n, hn, hp, _⟩ := k.best d h1
    have hp' := plc_iff.1 hp
    symm
    show hasP row col N = true
    unfold hasP
    rw [List.any_eq_true]
    exact ⟨n, hn, by rw [hp'.1, hp'.2, h2.1, h2.2]; simp⟩
  | none =>
    symm
    show hasP row col N = false
    cases ha : hasP row col N with
    | false => rfl
    | true =>
      unfold hasP at ha
      rw [List.any_eq_true] at ha
      obtain ⟨n, hn, hp⟩ := ha
      rw [Bool.and_eq_true, beq_iff_eq, beq_iff_eq] at hp
      obtain ⟨d, e1, _⟩ := fnd_some h (k.sub n hn) hp
      rw [hf] at e1
      cases e1
theorem hasP_take {row col : List UInt8} {N : List Cl} {i : Nat} (hi : i < N.length) : hasP row col (N.take (i + 1)) = (hasP row col (N.take i) || (N[i].row == row && N[i].col == col)) := by
  unfold hasP
  rw [List.take_succ_eq_append_getElem hi, List.any_append]
  simp
theorem ins_len : ∀ (l : List Cl) (c : Cl), (ins l c).length ≤ l.length + 1
  | [], c => by simp [ins]
  | x :: xs, c => by
    have := ins_len xs c
    rw [ins]
    split
    · simp only [List.length_cons]; omega
    · split <;> simp
theorem sortL_len (l : List Cl) : (sortL l).length ≤ l.length := by
  have : ∀ (l acc : List Cl), (l.foldl ins acc).length ≤ acc.length + l.length := by
    intro l
    induction l with
    | nil => intro acc; simp
    | cons c l ih =>
      intro acc
      have h1 := ih (ins acc c)
      have h2 := ins_len acc c
      rw [List.foldl_cons, List.length_cons]
      omega
  have := this l []
  unfold sortL
  simpa using this
theorem mem_sortL {l : List Cl} {c : Cl} (h : c ∈ sortL l) : c ∈ l := List.mem_of_find?_eq_some ((sortL_spec l).fst c h)
/-- No more of them than there are cells. -/
theorem nodup_le : ∀ {a b : List Cl}, a.Pairwise (fun x y => x ≠ y) → (∀ x ∈ a, x ∈ b) → a.length ≤ b.length
  | [], _, _, _ => by simp
  | x :: a, b, h, k => by
    obtain ⟨h1, h2⟩ := List.pairwise_cons.1 h
    obtain ⟨s, t, e⟩ := List.append_of_mem (k x (by simp))
    have : a.length ≤ (s ++ t).length := nodup_le h2 fun y hy => by
      have := k y (by simp [hy])
      rw [e] at this
      rcases List.mem_append.1 this with q | q
      · exact List.mem_append.2 (.inl q)
      · rcases List.mem_cons.1 q with q | q
        · exact absurd q.symm (h1 y hy)
        · exact List.mem_append.2 (.inr q)
    rw [e, List.length_cons]
    simp at this ⊢
    omega
theorem NewSpec.few {l ns : List Cl} (h : NewSpec l ns) : ns.length ≤ l.length := by
  refine nodup_le (h.asc.imp fun {a b} hab => ?_) h.sub
  rintro rfl
  rw [ccl_self] at hab
  omega
theorem kcE {X wf wr : World} {a : Addr} {v : Value} (hX : RowKit.Below wr.heap.size wr X) (hbf : RowKit.Below X.heap.size X wf) (h : wr.cell? a = some v) : wf.cell? a = some v := by
  have hl := World.block_lt_of_cell? wr a h
  rw [World.cell?_of_block (hbf.block a.block (Nat.lt_of_lt_of_le hl hX.size)), World.cell?_of_block (hX.block a.block hl)]
  exact h
theorem atE1 {X wf wr : World} {z : Obj} (hbf : RowKit.Below X.heap.size X wf) (hX : X.heap = wr.heap.push z) : wf.heap[wr.heap.size]? = some z := by
  refine (hbf.block _ (by rw [hX]; simp)).trans ?_
  rw [hX]
  simp
theorem cell_set5 {W : World} {n : Nat} {u0 u1 u2 u3 u4 : Value} {r k : List UInt8} {v : Int} {z : Bool} {x : List UInt8} (z0 : W.cell? ⟨n, 0, none⟩ = some u0) (z1 : W.cell? ⟨n, 1, none⟩ = some u1) (z2 : W.cell? ⟨n, 2, none⟩ = some u2) (z3 : W.cell? ⟨n, 3, none⟩ = some u3) (z4 : W.cell? ⟨n, 4, none⟩ = some u4) :
    CellAt (((((W.setCell ⟨n, 0, none⟩ (.string (bstr r))).setCell ⟨n, 1, none⟩ (.string (bstr k))).setCell ⟨n, 2, none⟩ (.int .u64 v)).setCell ⟨n, 3, none⟩ (.bool z)).setCell ⟨n, 4, none⟩ (.string (bstr x))) n r k v z x := by
  obtain ⟨q0, q1, q2, q3, q4⟩ := set5_reads z0 z1 z2 z3 z4 rfl
  exact ⟨q0, q1, q2, q3, q4⟩
theorem newL_len (l : List Cl) : ∀ c ∈ newL l, c ∈ l := (newL_spec l).sub
/-- 'l[:n]'. -/
theorem ehead_run {P : Program} {t : TypeId} {q : Option Addr} {len cap n s : Nat} (ht : P.underlying t = some (.slice (P.elem t))) (hz : ∀ w, (Go.sizeOf (P.elem t)).run P w = .ok s w) (hn : n ≤ cap) (w : World) :
    (Instr.slice t (.slice q len cap) none (some (.int .i64 (n : Int))) none).run P w = .ok (.slice q n cap) w := by
  rw [run_slice_h w t q len cap ht .i64 (n : Int) (by omega) (by omega), hz]
  have e : sliced q 0 n cap s = .slice q n cap := by
    unfold sliced
    cases q with
    | none => simp
    | some a =>
      have : a.add 0 = a := by cases a; simp [Addr.add]
      simp [this]
  simp only [Result.andThen, Int.toNat_natCast, e]

set_option maxHeartbeats 4000000 in
set_option maxRecDepth 100000 in
theorem Back_any (q : Option Addr) (b off cap : Nat) (cs : List Cl) (row col : List UInt8) (w : World) (hq : 0 < cs.length → q = some ⟨b, off, none⟩ ∧ CRow w b off cs ∧ b < w.heap.size) (hf : ∀ c ∈ cs, Fits c) (hcap : cs.length ≤ cap) (hn : cs.length * 64 ≤ 140737488351232) :
    Calls Try.prog 6 #[.slice q cs.length cap, .string (bstr row), .string (bstr col)] w fun e w' => e = .returned (.bool true) ∧ RowKit.Below w.heap.size w w' := by
  obtain ⟨m, hm⟩ : ∃ m : Nat, min cs.length 200 = m := ⟨_, rfl⟩
  have hmi : (min (cs.length : Int) 200) = (m : Int) := by omega
  have hsl := fun W => ehead_run (P := Try.prog) (t := 22) (q := q) (len := cs.length) (cap := cap) (n := m) (s := 5) Try.underlying22 (fun W => Try.sizeOf35 W) (by omega) W
  have htl : (cs.take m).length = m := by rw [List.length_take]; omega
  have hq1 : 0 < (cs.take m).length → q = some ⟨b, off, none⟩ ∧ CRow w b off (cs.take m) ∧ b < w.heap.size := fun h => by
    rw [htl] at h
    obtain ⟨e1, e2, e3⟩ := hq (by omega)
    exact ⟨e1, e2.take m, e3⟩
  have hSo := fun W (hb : RowKit.Below w.heap.size w W) => Sort_any q b off cap (cs.take m) W (fun h => ⟨(hq1 h).1, (hq1 h).2.1.step hb (hq1 h).2.2, Nat.lt_of_lt_of_le (hq1 h).2.2 hb.size⟩) (fun c hc => hf c (List.mem_of_mem_take hc)) (by rw [htl]; omega)
  rw [htl] at hSo
  have hSf : ∀ c ∈ sortL (cs.take m), Fits c := fun c hc => hf c (List.mem_of_mem_take (mem_sortL hc))
  have hSl := sortL_len (cs.take m)
  have hSa := (sortL_spec (cs.take m)).asc
  rw [htl] at hSl
  have hm200 : m ≤ 200 := by omega
  generalize sortL (cs.take m) = S at *
  clear hq1 htl hf hn hm
  go_enter Try.func6, Try.ntmps6
  go_wp2_with fail
  refine (works10_any w).mono ?_
  rintro e w1 ⟨rfl, hb1⟩
  go_wp2_with fail
  refine (hSo _ hb1).mono ?_
  rintro e w2 ⟨v, rfl, hown, hb2⟩
  obtain ⟨p, c, rfl⟩ := own_shape hown
  obtain ⟨g, hg⟩ := own_hq hown
  have hB2 := below2 hb1 hb2
  clear hSo hsl hmi hq hcap hb1 hb2
  go_wp2_with fail
  refine (Build_any p g 0 c S w2 hg (by omega)).mono ?_
  rintro e w3 ⟨rfl, hb3⟩
  have hB3 := below2 hB2 hb3
  have hg3 : 0 < S.length → p = some ⟨g, 0, none⟩ ∧ CRow w3 g 0 S ∧ g < w3.heap.size := fun h => ⟨(hg h).1, (hg h).2.1.step hb3 (hg h).2.2, Nat.lt_of_lt_of_le (hg h).2.2 hb3.size⟩
  clear hB2 hb3 hg hown
  by_cases he : bldE S = 0
  · have hG := bldE_z he
    rw [he, (bld_good hG).1]
    obtain ⟨bb, hbb⟩ : ∃ bb, blkB S = bb := ⟨_, rfl⟩
    rw [hbb]
    have hbl : bb.length ≤ 32768 := by rw [← hbb]; exact hG.len
    have hFd : ∀ (r k : List UInt8) W, Calls Try.prog 16 #[.string (bstr bb), .string (bstr r), .string (bstr k)] W fun e w' => e = .returned (.tuple #[clV (optC (fnd r k S)), .bool (fnd r k S).isSome, .int .i64 0]) ∧ RowKit.Below W.heap.size W w' := fun r k W => (Find_any bb r k W (by omega)).mono (by
      rintro e w' ⟨hq, hb⟩
      obtain ⟨L', hG', hL', rfl⟩ | ⟨_, hno⟩ := hq
      · obtain rfl := hG.inj hG' (hbb.trans hL'.symm)
        exact ⟨rfl, hb⟩
      · exact absurd hbb (hno S hG))
    go_wp2_with fail
    refine (Read_any bb w3 (by omega)).mono ?_
    rintro e w4 ⟨hQ, hb4⟩
    obtain ⟨L', q', c', rfl, hG', hL', hown'⟩ | ⟨_, hno⟩ := hQ
    case inr => exact absurd hbb (hno S hG)
    obtain rfl := hG.inj hG' (hbb.trans hL'.symm)
    obtain ⟨g', hg'⟩ := own_hq hown'
    have hg4 : 0 < S.length → p = some ⟨g, 0, none⟩ ∧ CRow w4 g 0 S ∧ g < w4.heap.size := fun h => ⟨(hg3 h).1, (hg3 h).2.1.step hb4 (hg3 h).2.2, Nat.lt_of_lt_of_le (hg3 h).2.2 hb4.size⟩
    have hB4 := below2 hB3 hb4
    clear hG' hL' hown' hg3 hB3 hb4 he
    go_wp2_with fail
    refine (same10_any q' p g' 0 c' g 0 c S w4 (fun h => ⟨(hg' h).1, (hg' h).2.1⟩) (fun h => ⟨(hg4 h).1, (hg4 h).2.1⟩) (by omega)).mono ?_
    rintro e w5 ⟨rfl, hb5⟩
    have hg5 : 0 < S.length → p = some ⟨g, 0, none⟩ ∧ CRow w5 g 0 S ∧ g < w5.heap.size := fun h => ⟨(hg4 h).1, (hg4 h).2.1.step hb5 (hg4 h).2.2, Nat.lt_of_lt_of_le (hg4 h).2.2 hb5.size⟩
    have hB5 := below2 hB4 hb5
    clear hg4 hg' hB4 hb5
    go_wp2_with fail
    refine (Newest_any p g 0 c S w5 hg5 hSf (by omega)).mono ?_
    rintro e w6 ⟨v, rfl, hown6, hb6⟩
    have hB6 := below2 hB5 hb6
    have hNS := newL_spec S
    obtain ⟨pn, cn, rfl⟩ := own_shape hown6
    obtain ⟨gn, hgn⟩ := own_hq hown6
    have hfn := fun n hn => fnd_new hSa hNS (n := n) hn
    have hfh := hasP_fnd row col hSa hNS
    have hNl : (newL S).length ≤ 1000000 := by
      have := (newL_spec S).few
      omega
    clear hown6 hNS hSa hSf hg5 hB5 hb6
    generalize newL S = N at *
    have HTb : Hid _ := hfh
    clear hfh
    go_wp2
    go_loopw [13, 14] (fun s13 s14 wr => ∃ i : Nat, s14 = .int .i64 (i : Int) ∧ s13 = .bool (hasP row col (N.take i)) ∧ i ≤ N.length ∧ RowKit.Below w6.heap.size w6 wr) (fun _ s14 _ => N.length - (intOf s14).toNat)
    case atStart => exact ⟨0, rfl, rfl, by omega, RowKit.Below.refl _ _⟩
    case round =>
      obtain ⟨i, rfl, rfl, hil, hbel⟩ := hrel
      by_cases hlt : i < N.length
      · obtain ⟨rfl, hR, hgl⟩ := hgn (by omega)
        have hAt := (hR.step hbel hgl) i hlt
        rw [Nat.zero_add] at hAt
        have hgw : gn < wr.heap.size := Nat.lt_of_lt_of_le hgl hbel.size
        have hF1 := hFd N[i].row N[i].col
        rw [hfn N[i] (List.getElem_mem hlt)] at hF1
        have HT : Hid _ := hasP_take (row := row) (col := col) hlt
        clear hR hfn
        generalize N[i] = n at *
        obtain ⟨r, k, v, z, x⟩ := n
        have heq := eqC_self ⟨r, k, v, z, x⟩
        have hF2 : ∀ W, Calls Try.prog 16 #[.string (bstr bb), .string (bstr r), .string (bstr k)] W fun e w' => e = .returned (.tuple #[clV ⟨r, k, v, z, x⟩, .bool true, .int .i64 0]) ∧ RowKit.Below W.heap.size W w' := hF1
        clear hF1
        obtain ⟨c0, c1, c2, c3, c4⟩ := hAt
        simp only at c0 c1 c2 c3 c4
        have hlz : (i : Int) < (N.length : Int) := by omega
        go_wp2_with fail
        go_cut [15, 16, 17] from 59 to 107 (fun s15 s16 s17 wx => ∃ P : Nat, s15 = .pointer (some ⟨P, 0, none⟩) ∧ s16 = .bool true ∧ s17 = .int .i64 0 ∧ CellAt wx P r k v z x ∧ RowKit.Below wr.heap.size wr wx)
        case rest =>
          obtain ⟨P, rfl, rfl, rfl, hP, hBW⟩ := hcut
          have hbe := below2 hbel hBW
          obtain ⟨k0, k1, k2, k3, k4⟩ := (At5.mk (c := ⟨r, k, v, z, x⟩) c0 c1 c2 c3 c4).step hBW hgw
          obtain ⟨d0, d1, d2, d3, d4⟩ := hP
          simp only at k0 k1 k2 k3 k4
          clear c0 c1 c2 c3 c4 hF2 hbel hBW
          go_wp2_with fail
          go_quiet (fail)
          replace hbe := below_drewN hbe nq
          replace k0 : (wc.drewN nq).cell? ⟨gn, i * 5, none⟩ = _ := k0
          replace k1 : (wc.drewN nq).cell? ⟨gn, i * 5 + 1, none⟩ = _ := k1
          generalize wc.drewN nq = wd at *
          clear d0 d1 d2 d3 d4 k2 k3 k4
          cases hh : hasP row col (N.take i) with
          | true =>
            have HT2 : Hid (hasP row col (N.take (i + 1)) = true) := by show _ = _; rw [HT.out, hh]; rfl
            clear HT
            go_wp2
            go_roundw
            case rel => exact ⟨i + 1, by go_num, by rw [HT2.out], by omega, hbe⟩
            case measure => simp [intOf]; omega
          | false =>
            by_cases hp1 : r = row
            · have hpr : (r == row) = true := by rw [hp1]; simp
              by_cases hp2 : k = col
              · have hpc : (k == col) = true := by rw [hp2]; simp
                have HT2 : Hid (hasP row col (N.take (i + 1)) = true) := by show _ = _; rw [HT.out, hh]; simp [hp1, hp2]
                clear HT hp1 hp2
                go_wp2
                go_roundw
                case rel => exact ⟨i + 1, by go_num, by rw [HT2.out], by omega, hbe⟩
                case measure => simp [intOf]; omega
              · have hpc : (k == col) = false := by rw [beq_eq_false_iff_ne]; exact hp2
                have HT2 : Hid (hasP row col (N.take (i + 1)) = false) := by show _ = _; rw [HT.out, hh]; simp [hp2]
                clear HT hp1 hp2
                go_wp2
                go_roundw
                case rel => exact ⟨i + 1, by go_num, by rw [HT2.out], by omega, hbe⟩
                case measure => simp [intOf]; omega
            · have hpr : (r == row) = false := by rw [beq_eq_false_iff_ne]; exact hp1
              have HT2 : Hid (hasP row col (N.take (i + 1)) = false) := by show _ = _; rw [HT.out, hh]; simp [hp1]
              clear HT hp1
              go_wp2
              go_roundw
              case rel => exact ⟨i + 1, by go_num, by rw [HT2.out], by omega, hbe⟩
              case measure => simp [intOf]; omega
        have e0 := World.new_ne wr _ c0
        go_region_held3 (fun w' => w'.cell? ⟨gn, i * 5, none⟩ = some (.string (bstr r)) ∧ w'.cell? ⟨gn, i * 5 + 1, none⟩ = some (.string (bstr k))) (first | with_reducible exact ⟨c0, c1⟩ | go_keep)
          ((go_at_call 16; refine (hF2 _).mono ?_; rintro e wf ⟨rfl, hbf⟩; obtain ⟨X, hX⟩ : ∃ X, RowKit.Below wr.heap.size wr X ∧ RowKit.Below X.heap.size X wf := ⟨_, (by repeat (first | exact RowKit.Below.refl _ _ | refine RowKit.Below.drew ?_ | refine RowKit.Below.alloc ?_ (by simp) _)), hbf⟩; have d0 := kcE hX.1 hX.2 c0; have d1 := kcE hX.1 hX.2 c1; have e1 := World.new_ne wf _ d0; have hbz := below2 hX.1 hX.2; (first | (have b0 : Rz wf wr.heap.size := atE1 (wr := wr) (z := (Obj.cells #[.string ⟨#[]⟩, .string ⟨#[]⟩, .int .u64 0, .bool false, .string ⟨#[]⟩] 35 (0, 0))) hbf rfl; obtain ⟨z0, z1, z2, z3, z4, f0, f1, f2, f3, f4⟩ := b0.facts; have e5 : wr.heap.size < wf.heap.size := b0.lt; clear b0) | skip); clear hX))
        all_goals (
          go_wp2
          go_meet
          case rel => exact ⟨_, rfl, rfl, rfl, by first | exact CellAt.new _ _ _ _ _ _ _ | exact cell_set5 z0 z1 z2 z3 z4, by first | exact hbz.alloc hbz.size _ | exact below_set5 _ _ _ _ _ hbz (Nat.le_refl _)⟩)
      · have hie : i = N.length := by omega
        subst hie
        rw [List.take_length, ← HTb.out]
        have hF3 := hFd row col
        have hbe := below2 hB6 hbel
        generalize (fnd row col S).isSome = zz at *
        generalize optC (fnd row col S) = cc' at *
        have hzz : (zz == zz) = true := by simp
        go_wp2_with fail
        refine (hF3 _).mono ?_
        rintro e w7 ⟨rfl, hb7⟩
        have hbe7 := below2 hbe hb7
        go_wp2
        go_ret
        exact ⟨rfl, hbe7.alloc hbe7.size _⟩
  · have hb0 : bldB S = [] := by
      unfold bldB
      unfold bldE at he
      split
      · split
        · rename_i h1 h2
          rw [if_pos h1, if_pos h2] at he
          exact absurd rfl he
        · rfl
      · rfl
    rw [hb0]
    generalize bldE S = ee at *
    go_wp2
    go_ret
    exact ⟨rfl, hB3⟩

end Go.Proofs.Ytbllbcbjjocphaa
