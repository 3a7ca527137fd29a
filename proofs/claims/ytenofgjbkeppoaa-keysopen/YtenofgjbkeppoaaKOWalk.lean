/-
  The walk of the law KeysOpen over this seat's translation: it returns true, and of what was there nothing has turned.
-/
import Derived.Test.YtenofgjbkeppoaaKGap
import Derived.Test.YtenofgjbkeppoaaKOpenMath
import Derived.Laws.OwnMore
import Derived.Deep.RegionHeld3
import Derived.Deep.Cut
namespace Go.Proofs.Ytenofgjbkeppoaa
open Go.RowKit Go.BigFrame Go.Sort
attribute [local go_sem] size_bstr toList_bstr ls_def
attribute [local go_sem high] rng_eql rng_neq rng_guard

theorem kc {X wf wr : World} {a : Addr} {v : Value} (hX : Below wr.heap.size wr X) (hbf : Below X.heap.size X wf) (h : wr.cell? a = some v) : wf.cell? a = some v := by
  have hl := block_lt_of_cell h
  rw [hbf.cell (Nat.lt_of_lt_of_le hl hX.size), hX.cell hl]
  exact h
theorem blk2 {W : World} {n : Nat} {T : TypeId} (h : W.heap[n]? = some (.cells #[.string ⟨#[]⟩, .string ⟨#[]⟩] T (0, 0))) : W.cell? ⟨n, 0, none⟩ = some (.string ⟨#[]⟩) ∧ W.cell? ⟨n, 1, none⟩ = some (.string ⟨#[]⟩) ∧ W.frozen? ⟨n, 0, none⟩ = false ∧ W.frozen? ⟨n, 1, none⟩ = false := by
  refine ⟨?_, ?_, ?_, ?_⟩ <;> simp [World.cell?, World.frozen?, h]
theorem at1 {X wf wr : World} {z : Obj} (hbf : Below X.heap.size X wf) (hX : X.heap = wr.heap.push z) : wf.heap[wr.heap.size]? = some z := by
  refine (hbf.block _ (by rw [hX]; simp)).trans ?_
  rw [hX]
  simp
theorem at2 {X wf wr : World} {z y : Obj} (hbf : Below X.heap.size X wf) (hX : X.heap = (wr.heap.push z).push y) : wf.heap[wr.heap.size]? = some z ∧ wf.heap[wr.heap.size + 1]? = some y := by
  refine ⟨(hbf.block _ (by rw [hX]; simp; omega)).trans ?_, (hbf.block _ (by rw [hX]; simp)).trans ?_⟩
  · rw [hX, Array.getElem?_push, if_neg (by simp)]
    simp
  · rw [hX, Array.getElem?_push, if_pos (by simp)]
theorem rng_news (W : World) (a b : List UInt8) (t : TypeId) : ∀ j u, (encR (a, b))[j]? = some u → (W.alloc (.cells #[.string (bstr a), .string (bstr b)] t)).cell? ((⟨W.heap.size, 0, none⟩ : Addr).add j) = some u := by
  intro j u hj
  have := World.cell?_alloc_at (w := W) #[.string (bstr a), .string (bstr b)] t W.heap.size j rfl
  rw [Addr.add_lit, Nat.zero_add, this]
  simpa [encR] using hj
theorem encR_one (r : Rg) : ∀ u ∈ encR r, u.oneCell' = true := by
  intro u hu
  simp [encR] at hu
  rcases hu with rfl | rfl <;> rfl
theorem RngAt.far {W : World} {n g o : Nat} {x y : List UInt8} (h : RngAt W n x y) (v : Value) (hne : g ≠ n) : RngAt (W.setCell ⟨g, o, none⟩ v) n x y :=
  ⟨(World.cell?_setCell_far _ ⟨g, o, none⟩ ⟨n, 0, none⟩ v hne).trans h.c0, (World.cell?_setCell_far _ ⟨g, o, none⟩ ⟨n, 1, none⟩ v hne).trans h.c1⟩
/-- Texts, one behind the other. -/
def TxtAt (W : World) (b off : Nat) (ts : List (List UInt8)) : Prop := ∀ i (hi : i < ts.length), W.cell? ⟨b, off + i, none⟩ = some (.string (bstr ts[i]))
theorem TxtAt.step {W W' : World} {b off : Nat} {ts : List (List UInt8)} {B : Nat} (h : TxtAt W b off ts) (hb : Below B W W') (hB : b < B) : TxtAt W' b off ts := by
  intro i hi
  rw [hb.cell (p := ⟨b, _, none⟩) hB]
  exact h i hi
theorem TxtAt.take {W : World} {b off : Nat} {ts : List (List UInt8)} (h : TxtAt W b off ts) (n : Nat) : TxtAt W b off (ts.take n) := by
  intro i hi
  have hi' : i < ts.length := by rw [List.length_take] at hi; omega
  rw [List.getElem_take]
  exact h i hi'
theorem RowAt.takeK {W : World} {b off : Nat} {rs : List Rg} (h : RowAt W b off rs) (n : Nat) : RowAt W b off (rs.take n) := by
  intro i hi
  have hi' : i < rs.length := by rw [List.length_take] at hi; omega
  rw [List.getElem_take]
  exact h i hi'
theorem gapV_exK (o : Option Rg) : ∃ a b is, gapV o = .tuple #[rngV a b, .bool is] ∧ (is = true → o = some (a, b)) ∧ (is = false → o = none ∧ a = [] ∧ b = []) := by
  cases o with
  | none => exact ⟨_, _, _, rfl, (fun h => by cases h), fun _ => ⟨rfl, rfl, rfl⟩⟩
  | some r => exact ⟨_, _, _, rfl, fun _ => rfl, (fun h => by cases h)⟩
def covB (rs : List Rg) (t : List UInt8) : Bool := rs.any fun r => mayB r.1 r.2 && hasB r.1 r.2 t
theorem covB_iff (rs : List Rg) (t : List UInt8) : covB rs t = true ↔ cov rs t := by
  unfold covB cov
  rw [List.any_eq_true]
  constructor
  · rintro ⟨r, h1, h2⟩
    rw [Bool.and_eq_true] at h2
    exact ⟨r, h1, h2.1, h2.2⟩
  · rintro ⟨r, h1, h2, h3⟩
    exact ⟨r, h1, by rw [h2, h3]; rfl⟩
theorem covB_take {rs : List Rg} {t : List UInt8} {k : Nat} (h : k < rs.length) : covB (rs.take (k + 1)) t = (covB (rs.take k) t || (mayB (rs[k]).1 (rs[k]).2 && hasB (rs[k]).1 (rs[k]).2 t)) := by
  unfold covB
  rw [List.take_succ_eq_append_getElem h, List.any_append]
  simp
theorem rcells_set (rs : List Rg) (k : Nat) (hk : k < rs.length) (a b : List UInt8) : ((rcells rs).set (k * 2) (.string (bstr a))).set (k * 2 + 1) (.string (bstr b)) = rcells (rs.set k (a, b)) := by
  induction rs generalizing k with
  | nil => simp at hk
  | cons r rs ih =>
    cases k with
    | zero => simp [rcells, encR]
    | succ k =>
      have e : rcells (r :: rs) = .string (bstr r.1) :: .string (bstr r.2) :: rcells rs := by simp [rcells, encR]
      have e2 : rcells ((r :: rs).set (k + 1) (a, b)) = .string (bstr r.1) :: .string (bstr r.2) :: rcells (rs.set k (a, b)) := by simp [rcells, encR]
      rw [e, e2, ← ih k (by simpa using hk)]
      rw [show (k + 1) * 2 = k * 2 + 1 + 1 by omega, show k * 2 + 1 + 1 + 1 = k * 2 + 1 + 1 + 1 from rfl]
      rfl

set_option maxHeartbeats 8000000 in
set_option maxRecDepth 100000 in
theorem open_walk (q : Option Addr) (b off cap : Nat) (rs : List Rg) (p : Option Addr) (b' off' cap' : Nat) (ts : List (List UInt8)) (w : World) (hq : 0 < rs.length → q = some ⟨b, off, none⟩ ∧ RowAt w b off rs ∧ b < w.heap.size) (hp : 0 < ts.length → p = some ⟨b', off', none⟩ ∧ TxtAt w b' off' ts ∧ b' < w.heap.size) (hcap : rs.length ≤ cap) (hcap' : ts.length ≤ cap') (hlen : rs.length ≤ 9223372036854775807) (hlen' : ts.length ≤ 9223372036854775807) :
    Calls Try.prog 3 #[.slice q rs.length cap, .slice p ts.length cap'] w fun e w' => e = .returned (.bool true) ∧ Below w.heap.size w w' := by
  obtain ⟨i0, hi0, hz0, hz1, hz2⟩ := info_parts Try.infoRng
  have hmin : (min (rs.length : Int) 20).toNat = (rs.take 20).length := by rw [List.length_take]; omega
  have hmin' : (min (ts.length : Int) 20).toNat = (ts.take 20).length := by rw [List.length_take]; omega
  have hr20 : (rs.take 20).length ≤ 20 := by rw [List.length_take]; omega
  have ht20 : (ts.take 20).length ≤ 20 := by rw [List.length_take]; omega
  have hqd : 0 < (rs.take 20).length → q = some ⟨b, off, none⟩ ∧ RowAt w b off (rs.take 20) ∧ b < w.heap.size := fun h => by
    rw [List.length_take] at h
    exact ⟨(hq (by omega)).1, (hq (by omega)).2.1.takeK 20, (hq (by omega)).2.2⟩
  have hpd : 0 < (ts.take 20).length → p = some ⟨b', off', none⟩ ∧ TxtAt w b' off' (ts.take 20) ∧ b' < w.heap.size := fun h => by
    rw [List.length_take] at h
    exact ⟨(hp (by omega)).1, (hp (by omega)).2.1.take 20, (hp (by omega)).2.2⟩
  have HM : Hid _ := hmin
  have HM' : Hid _ := hmin'
  clear hmin hmin' hq hp
  go_enter Try.func3, Try.ntmps3
  go_wp2_with fail
  rw [HM.out, HM'.out]
  generalize rs.take 20 = ls' at *
  generalize ts.take 20 = xs at *
  refine (Gap_any q b off _ ls' w hqd (by omega)).mono ?_
  rintro e w1 ⟨o, rfl, ho, hb1⟩
  obtain ⟨x, y, is, hv, hv1, hv2⟩ := gapV_exK o
  rw [hv]
  have HO : Hid _ := ho
  have HV : Hid _ := And.intro hv1 hv2
  clear ho hv hv1 hv2 HM HM'
  have hba : Below w.heap.size w (w1.alloc (.cells #[.string (bstr x), .string (bstr y)] 25)) := hb1.alloc hb1.size _
  have ra := RngAt.new w1 25 x y
  have hqs : ∀ W, Below w.heap.size w W → (0 < ls'.length → q = some ⟨b, off, none⟩ ∧ RowAt W b off ls' ∧ b < W.heap.size) := fun W hb h => ⟨(hqd h).1, (hqd h).2.1.step hb (hqd h).2.2, Nat.lt_of_lt_of_le (hqd h).2.2 hb.size⟩
  have hps : ∀ W, Below w.heap.size w W → (0 < xs.length → p = some ⟨b', off', none⟩ ∧ TxtAt W b' off' xs ∧ b' < W.heap.size) := fun W hb h => ⟨(hpd h).1, (hpd h).2.1.step hb (hpd h).2.2, Nat.lt_of_lt_of_le (hpd h).2.2 hb.size⟩
  have hn1 : w.heap.size ≤ w1.heap.size := hb1.size
  clear hqd hpd hb1
  cases is with
  | false =>
    have HN : Hid (GapSpec ls' none) := by
      have hO := HO.out
      rw [(HV.out.2 rfl).1] at hO
      exact hO
    clear HV HO
    go_wp2
    generalize w1.alloc (.cells #[.string (bstr x), .string (bstr y)] 25) = W at *
    go_loopw [7] (fun s6 wr => ∃ i : Nat, s6 = .int .i64 (i : Int) ∧ i ≤ xs.length ∧ Below W.heap.size W wr) (fun s6 _ => xs.length - (intOf s6).toNat)
    case atStart => exact ⟨0, rfl, by omega, Below.refl _ _⟩
    case round =>
      obtain ⟨i, rfl, hil, hbr⟩ := hrel
      obtain ⟨wy, hwy⟩ : ∃ wy, wy = wr := ⟨_, rfl⟩
      subst hwy
      have hbw := below2 hba hbr
      by_cases hlt : i < xs.length
      · obtain ⟨rfl, hT, hb'l⟩ := hps wy hbw (by omega)
        have hi0' : (0 : Int) ≤ (i : Int) := by omega
        have hiz : (i : Int) < (xs.length : Int) := by omega
        have hti := hT i hlt
        have hTI : ∀ W2, Below wy.heap.size wy W2 → W2.cell? ⟨b', off' + i, none⟩ = some (.string (bstr xs[i])) := fun W2 h2 => by rw [h2.cell (p := ⟨b', _, none⟩) hb'l]; exact hti
        clear hT
        generalize xs[i] = t at *
        go_wp2
        go_loopw [8, 9] (fun s7 s8 wx => ∃ k : Nat, s8 = .int .i64 (k : Int) ∧ k ≤ ls'.length ∧ s7 = .bool (covB (ls'.take k) t) ∧ Below wy.heap.size wy wx) (fun _ s8 _ => ls'.length - (intOf s8).toNat)
        case atStart => exact ⟨0, rfl, by omega, rfl, Below.refl _ _⟩
        case round =>
          obtain ⟨k, rfl, hkl, rfl, hbx⟩ := hrel
          by_cases hlk : k < ls'.length
          · have hk0 : (0 : Int) ≤ (k : Int) := by omega
            have hkz : (k : Int) < (ls'.length : Int) := by omega
            obtain ⟨rfl, hR, hbl⟩ := hqs wr (below2 hbw hbx) (by omega)
            obtain ⟨c0, c1⟩ := hR k hlk
            have hct := covB_take (t := t) hlk
            have htx := hTI wr hbx
            generalize ls'[k] = r at *
            obtain ⟨lo, hi⟩ := r
            simp only at c0 c1 hct
            generalize covB (ls'.take k) t = sm at *
            have HC : Hid _ := hct
            clear hct hR
            have q0 := fun d os => cell_regrown c0 d os
            have q1 := fun d os => cell_regrown c1 d os
            have q2 := fun d os => cell_regrown htx d os
            cases sm with
            | true =>
              go_wp2_with fail
              refine wp_region_quiet_below (by kernel_rfl) (by kernel_rfl) ?_
              repeat (go_big_quiet_step (fail))
              refine wpQuiet_nil ?_
              intro _ hw'
              obtain ⟨⟨dq, osq⟩, hw''⟩ := hw'
              subst hw''
              have hb2 := below2 hbx (below_regrown wr dq osq)
              clear hbx c0 c1 htx q0 q1 q2
              generalize grow (redrawn wr dq) osq = W1 at *
              go_wp2
              go_roundw
              case rel => exact ⟨k + 1, by go_num, by omega, by rw [HC.out]; rfl, hb2⟩
              case measure => simp [intOf]; omega
            | false =>
              have hchk := fun W => Check_any lo hi W
              have hhas := fun W => Has_any lo hi t W
              cases hm : mayB lo hi with
              | false =>
                rw [hm, if_neg (by simp)] at hchk
                have HM2 : Hid _ := hm
                clear hm
                go_wp2_with fail
                refine wp_region_quiet_below (by kernel_rfl) (by kernel_rfl) ?_
                repeat (go_big_quiet_step ((go_at_call 6; with_reducible exact Calls.regrown_of (hchk _))))
                refine wpQuiet_nil ?_
                intro _ hw'
                obtain ⟨⟨dq, osq⟩, hw''⟩ := hw'
                subst hw''
                have hb2 := below2 hbx (below_regrown wr dq osq)
                clear hbx c0 c1 htx q0 q1 q2
                generalize grow (redrawn wr dq) osq = W1 at *
                go_wp2
                go_roundw
                case rel => exact ⟨k + 1, by go_num, by omega, by rw [HC.out, HM2.out]; rfl, hb2⟩
                case measure => simp [intOf]; omega
              | true =>
                rw [hm, if_pos rfl] at hchk
                have HM2 : Hid _ := hm
                clear hm
                generalize hasB lo hi t = hh at *
                go_wp2_with fail
                refine wp_region_quiet_below (by kernel_rfl) (by kernel_rfl) ?_
                repeat (go_big_quiet_step (first | (go_at_call 6; with_reducible exact Calls.regrown_of (hchk _)) | (go_at_call 7; with_reducible exact Calls.regrown_of (hhas _))))
                refine wpQuiet_nil ?_
                intro _ hw'
                obtain ⟨⟨dq, osq⟩, hw''⟩ := hw'
                subst hw''
                have hb2 := below2 hbx (below_regrown wr dq osq)
                clear hbx c0 c1 htx q0 q1 q2
                generalize grow (redrawn wr dq) osq = W1 at *
                go_wp2
                go_roundw
                case rel => exact ⟨k + 1, by go_num, by omega, by rw [HC.out, HM2.out]; simp, hb2⟩
                case measure => simp [intOf]; omega
          · have hke : k = ls'.length := by omega
            subst hke
            rw [List.take_length]
            have htx := hTI wr hbx
            have hbW := below2 hbr hbx
            have ra2 := ra.step hbW
            have q0 := fun d os => cell_regrown ra2.c0 d os
            have q1 := fun d os => cell_regrown ra2.c1 d os
            have q2 := fun d os => cell_regrown htx d os
            have hcb : covB ls' t = true := by
              rw [covB_iff]
              exact HN.out t
            rw [hcb]
            clear hcb HN
            go_wp2_with fail
            refine wp_region_quiet_below (by kernel_rfl) (by kernel_rfl) ?_
            repeat (go_big_quiet_step (fail))
            refine wpQuiet_nil ?_
            intro _ hw'
            obtain ⟨⟨dq, osq⟩, hw''⟩ := hw'
            subst hw''
            have hb2 := below2 hbW (below_regrown wr dq osq)
            clear hbW htx q0 q1 q2 ra2
            generalize grow (redrawn wr dq) osq = W1 at *
            go_wp2
            exact ⟨⟨i + 1, by go_num, by omega, hb2⟩, by simp [intOf]; omega⟩
      · have hie : ¬ (i : Int) < (xs.length : Int) := by omega
        clear HN
        obtain ⟨i0', hi0', hz0', hz1', hz2'⟩ := info_parts Try.infoRng
        have hown0 : (wy.alloc (.cells #[.string ⟨#[]⟩, .string ⟨#[]⟩] 25)).ownsRow wy.heap.size 25 2 (.slice (some ⟨wy.heap.size, 0, none⟩) 1 1) 1 (rcells [([], [])]) := World.ownsRow_lit wy #[.string ⟨#[]⟩, .string ⟨#[]⟩] 1 (Nat.le_refl _) (by decide) rfl
        have hbA : Below wy.heap.size wy (wy.alloc (.cells #[.string ⟨#[]⟩, .string ⟨#[]⟩] 25)) := (Below.refl _ _).alloc (Nat.le_refl _) _
        go_wp2
        generalize wy.alloc (.cells #[.string ⟨#[]⟩, .string ⟨#[]⟩] 25) = wz at *
        go_loopw [10, 11] (fun s10 s11 wr => ∃ (i : Nat) (al : List Rg), s11 = .int .i64 (i : Int) ∧ i ≤ xs.length ∧ wr.ownsRow wy.heap.size 25 2 s10 al.length (rcells al) ∧ Hid (Full al) ∧ 0 < al.length ∧ al.length ≤ i + 1 ∧ Below wy.heap.size wy wr) (fun _ s11 _ => xs.length - (intOf s11).toNat)
        case atStart => exact ⟨0, [([], [])], rfl, by omega, hown0, Full.start, by simp, by simp, hbA⟩
        case round =>
          obtain ⟨i, al, rfl, hil, hown, hF, has0, hasl, hbr2⟩ := hrel
          obtain ⟨wv, hwv⟩ : ∃ wv, wv = wr := ⟨_, rfl⟩
          subst hwv
          have hbw2 := below2 hbw hbr2
          by_cases hlt2 : i < xs.length
          · obtain ⟨rfl, hT, hb'l⟩ := hps wv hbw2 (by omega)
            have hiq0 : (0 : Int) ≤ (i : Int) := by omega
            have hiz : (i : Int) < (xs.length : Int) := by omega
            have hti := hT i hlt2
            have hTI : ∀ W2, Below wv.heap.size wv W2 → W2.cell? ⟨b', off' + i, none⟩ = some (.string (bstr xs[i])) := fun W2 h2 => by rw [h2.cell (p := ⟨b', _, none⟩) hb'l]; exact hti
            clear hT
            generalize xs[i] = t at *
            obtain ⟨ga, ca, rfl, hga, hgv, hca, hcm, hrow, hfz⟩ := own_row hown (by intro e; rw [e] at has0; simp at has0)
            go_wp2
            go_loopw [10, 12] (fun s10 s12 wx => ∃ k : Nat, s12 = .int .i64 (k : Int) ∧ k ≤ al.length ∧ s10 = .slice (some ⟨ga, 0, none⟩) al.length ca ∧ Below wv.heap.size wv wx) (fun _ s12 _ => al.length - (intOf s12).toNat)
            case atStart => exact ⟨0, rfl, by omega, rfl, Below.refl _ _⟩
            case round =>
              obtain ⟨k, rfl, hkl, rfl, hbx⟩ := hrel
              by_cases hlk : k < al.length
              · have hk0 : (0 : Int) ≤ (k : Int) := by omega
                have hkz : (k : Int) < (al.length : Int) := by omega
                obtain ⟨c0, c1⟩ := (hrow.step hbx hgv) k hlk
                rw [Nat.zero_add] at c0 c1
                have htx := hTI wr hbx
                have hownx := own_below hown hbx
                have hsp := fun W => Split_any (al[k]).1 (al[k]).2 t W
                cases hs : splitB (al[k]).1 (al[k]).2 t with
                | true =>
                  have HS : Hid (Full (al.set k ((al[k]).1, t) ++ [(t, (al[k]).2)])) := hF.out.split hlk hs
                  unfold splitV at hsp
                  rw [hs, if_pos rfl] at hsp
                  have hset := rcells_set al k hlk (al[k]).1 t
                  generalize al[k] = r at *
                  obtain ⟨lo, hi⟩ := r
                  simp only at c0 c1 hsp HS hset
                  have q0 := fun d os => cell_regrown c0 d os
                  have q1 := fun d os => cell_regrown c1 d os
                  have q2 := fun d os => cell_regrown htx d os
                  go_wp2_with fail
                  go_cut [13, 14, 15] from 1000 (fun s13 s14 s15 wx => ∃ P R : Nat, s13 = .pointer (some ⟨P, 0, none⟩) ∧ s14 = .pointer (some ⟨R, 0, none⟩) ∧ s15 = .int .i64 0 ∧ RngAt wx P lo t ∧ RngAt wx R t hi ∧ wr.heap.size ≤ P ∧ wr.heap.size ≤ R ∧ Below wr.heap.size wr wx)
                  case rest =>
                    obtain ⟨P, R, rfl, rfl, rfl, hP, hR, hPl, hRl, hBW⟩ := hcut
                    have hgl : ga < wr.heap.size := block_lt_of_cell c0
                    have hownc := own_below hownx hBW
                    have k0 : wc.cell? ⟨ga, k * 2, none⟩ = some (.string (bstr lo)) := by rw [hBW.cell (p := ⟨ga, _, none⟩) hgl]; exact c0
                    have k1 : wc.cell? ⟨ga, k * 2 + 1, none⟩ = some (.string (bstr hi)) := by rw [hBW.cell (p := ⟨ga, _, none⟩) hgl]; exact c1
                    have f0 := hownc.frozenAt (k * 2)
                    have f1 := hownc.frozenAt (k * 2 + 1)
                    obtain ⟨x0, x1⟩ := id hP
                    have hwyr : wy.heap.size ≤ wr.heap.size := Nat.le_trans hbr2.size hbx.size
                    have hB3 : Below wy.heap.size wy ((wc.setCell ⟨ga, k * 2, none⟩ (.string (bstr lo))).setCell ⟨ga, k * 2 + 1, none⟩ (.string (bstr t))) := ((below2 (below2 hbr2 hbx) hBW).setCell (p := ⟨ga, k * 2, none⟩) hga _).setCell (p := ⟨ga, k * 2 + 1, none⟩) hga _
                    have hown3 := ((hownc.stored (k * 2) (.string (bstr lo))).1.stored (k * 2 + 1) (.string (bstr t))).1
                    rw [hset] at hown3
                    have hR3 := (hR.far (o := k * 2) (.string (bstr lo)) (show ga ≠ R by omega)).far (o := k * 2 + 1) (.string (bstr t)) (show ga ≠ R by omega)
                    have hnews := rng_news ((wc.setCell ⟨ga, k * 2, none⟩ (.string (bstr lo))).setCell ⟨ga, k * 2 + 1, none⟩ (.string (bstr t))) t hi 25
                    have hs2 : ((wc.setCell ⟨ga, k * 2, none⟩ (.string (bstr lo))).setCell ⟨ga, k * 2 + 1, none⟩ (.string (bstr t))).heap.size = wc.heap.size := by simp
                    rw [hs2] at hnews
                    have hwyc : wy.heap.size ≤ wc.heap.size := Nat.le_trans hwyr hBW.size
                    obtain ⟨r0, r1⟩ := id hR
                    have hne1 : ga ≠ R := by omega
                    have hne2 : R ≠ ga := by omega
                    have H3 : Hid _ := hB3
                    clear hB3 hR3 q0 q1 q2 c0 c1 htx hsp hs2
                    go_wp2_with (at_builtin; refine wpList_append_own _ rfl _ _ 22 rfl wy.heap.size 25 i0 (.agg #[.string ⟨#[]⟩, .string ⟨#[]⟩]) 2 32 Try.underlying22 hi0 hz0 hz1 hz2 rfl (by decide) _ _ _ rfl (hown3.alloc _) ⟨wc.heap.size, 0, none⟩ 1 1 (encR (t, hi)) rfl rfl hnews (encR_one _) ?c3 ?c4 ?c5 ?_)
                    case c3 => unfold maxLen; omega
                    case c4 => omega
                    case c5 => simp; omega
                    intro v' w4 hown4 hgrow _
                    have hB4 : Below wy.heap.size wy w4 := (H3.out.alloc (by have := H3.out.size; simpa using this) _).grown hgrow (by simp; omega) (fun k hk => by cases hk; exact hga)
                    have hown5 : w4.ownsRow wy.heap.size 25 2 v' (al.set k (lo, t) ++ [(t, hi)]).length (rcells (al.set k (lo, t) ++ [(t, hi)])) := by
                      rw [List.length_append, List.length_set, rcells_append]
                      exact hown4
                    clear hown3 hown4 hgrow H3 hnews k0 k1 x0 x1 r0 r1 hownc
                    go_wp2
                    exact ⟨⟨i + 1, al.set k (lo, t) ++ [(t, hi)], by go_num, by omega, hown5, HS, by simp, by simp; omega, hB4⟩, by simp [intOf]; omega⟩
                  have hgl : ga < wr.heap.size := block_lt_of_cell c0
                  have hbl2 : b' < wr.heap.size := block_lt_of_cell htx
                  have n0 : wr.heap.size + 1 ≠ ga := by omega
                  have n1 : wr.heap.size + 1 ≠ b' := by omega
                  have e0 := World.new_ne wr _ c0
                  have e2 := World.new_ne wr _ htx
                  go_region_held3 (fun w' => w'.cell? ⟨ga, k * 2, none⟩ = some (.string (bstr lo)) ∧ w'.cell? ⟨ga, k * 2 + 1, none⟩ = some (.string (bstr hi)) ∧ w'.cell? ⟨b', off' + i, none⟩ = some (.string (bstr t))) (first | with_reducible exact ⟨c0, c1, htx⟩ | go_keep)
                    ((go_at_call 8; refine (hsp _).mono ?_; rintro e wf ⟨rfl, hbf⟩; obtain ⟨X, hX⟩ : ∃ X, Below wr.heap.size wr X ∧ Below X.heap.size X wf := ⟨_, (by repeat (first | exact Below.refl _ _ | refine Below.drew ?_ | refine Below.alloc ?_ (by simp) _)), hbf⟩; have d0 := kc hX.1 hX.2 c0; have d1 := kc hX.1 hX.2 c1; have d2 := kc hX.1 hX.2 htx; have e0 := World.new_ne wf _ d0; have e2 := World.new_ne wf _ d2; have hbz := below2 hX.1 hX.2; (first | (have b0 := at1 (wr := wr) (z := (Obj.cells #[.string ⟨#[]⟩, .string ⟨#[]⟩] 25 (0, 0))) hbf rfl; obtain ⟨b01, b02, b03, b04⟩ := blk2 b0; have e3 : wf.heap.size ≠ wr.heap.size := World.new_ne wf _ b01; have e4 : wr.heap.size ≠ wf.heap.size := Ne.symm e3; have e5 : wr.heap.size < wf.heap.size := block_lt_of_cell b01; clear b0) | (obtain ⟨b0, b1⟩ := at2 (wr := wr) (z := (Obj.cells #[.string ⟨#[]⟩, .string ⟨#[]⟩] 25 (0, 0))) (y := (Obj.cells #[.string ⟨#[]⟩, .string ⟨#[]⟩] 25 (0, 0))) hbf rfl; obtain ⟨b01, b02, b03, b04⟩ := blk2 b0; obtain ⟨b11, b12, b13, b14⟩ := blk2 b1; have e5 : wr.heap.size + 1 < wf.heap.size := block_lt_of_cell b11; clear b0 b1) | skip); have hsz := hbz.size; clear hX))
                  all_goals (go_wp2; go_meet; case rel => exact ⟨_, _, rfl, rfl, rfl, ⟨by go_simp, by go_simp⟩, ⟨by go_simp, by go_simp⟩, by first | omega | (simp; omega) | simp, by first | omega | (simp; omega) | simp, by repeat (first | exact hbz | exact Below.refl _ _ | refine Below.setCell ?_ (by first | omega | (simp; omega) | simp) _ | refine Below.alloc ?_ (by first | omega | (simp; omega) | simp) _ | refine Below.drew ?_)⟩)
                | false =>
                  unfold splitV at hsp
                  rw [hs, if_neg (by simp)] at hsp
                  generalize al[k] = r at *
                  obtain ⟨lo, hi⟩ := r
                  simp only at c0 c1 hsp
                  go_wp2_with fail
                  go_cut [15] from 1000 (fun s15 wx => s15 = .int .i64 2 ∧ Below wr.heap.size wr wx)
                  case rest =>
                    obtain ⟨rfl, hBW⟩ := hcut
                    have hbx2 := below2 hbx hBW
                    clear c0 c1 htx hsp
                    go_wp2
                    go_roundw
                    case rel => exact ⟨k + 1, by go_num, by omega, rfl, hbx2⟩
                    case measure => simp [intOf]; omega
                  have hgl : ga < wr.heap.size := block_lt_of_cell c0
                  have hbl2 : b' < wr.heap.size := block_lt_of_cell htx
                  have n0 : wr.heap.size + 1 ≠ ga := by omega
                  have n1 : wr.heap.size + 1 ≠ b' := by omega
                  have e0 := World.new_ne wr _ c0
                  have e2 := World.new_ne wr _ htx
                  go_region_held3 (fun w' => w'.cell? ⟨ga, k * 2, none⟩ = some (.string (bstr lo)) ∧ w'.cell? ⟨ga, k * 2 + 1, none⟩ = some (.string (bstr hi)) ∧ w'.cell? ⟨b', off' + i, none⟩ = some (.string (bstr t))) (first | with_reducible exact ⟨c0, c1, htx⟩ | go_keep)
                    ((go_at_call 8; refine (hsp _).mono ?_; rintro e wf ⟨rfl, hbf⟩; obtain ⟨X, hX⟩ : ∃ X, Below wr.heap.size wr X ∧ Below X.heap.size X wf := ⟨_, (by repeat (first | exact Below.refl _ _ | refine Below.drew ?_ | refine Below.alloc ?_ (by simp) _)), hbf⟩; have d0 := kc hX.1 hX.2 c0; have d1 := kc hX.1 hX.2 c1; have d2 := kc hX.1 hX.2 htx; have e0 := World.new_ne wf _ d0; have e2 := World.new_ne wf _ d2; have hbz := below2 hX.1 hX.2; (first | (have b0 := at1 (wr := wr) (z := (Obj.cells #[.string ⟨#[]⟩, .string ⟨#[]⟩] 25 (0, 0))) hbf rfl; obtain ⟨b01, b02, b03, b04⟩ := blk2 b0; have e3 : wf.heap.size ≠ wr.heap.size := World.new_ne wf _ b01; have e4 : wr.heap.size ≠ wf.heap.size := Ne.symm e3; have e5 : wr.heap.size < wf.heap.size := block_lt_of_cell b01; clear b0) | (obtain ⟨b0, b1⟩ := at2 (wr := wr) (z := (Obj.cells #[.string ⟨#[]⟩, .string ⟨#[]⟩] 25 (0, 0))) (y := (Obj.cells #[.string ⟨#[]⟩, .string ⟨#[]⟩] 25 (0, 0))) hbf rfl; obtain ⟨b01, b02, b03, b04⟩ := blk2 b0; obtain ⟨b11, b12, b13, b14⟩ := blk2 b1; have e5 : wr.heap.size + 1 < wf.heap.size := block_lt_of_cell b11; clear b0 b1) | skip); have hsz := hbz.size; clear hX))
                  all_goals (go_wp2; go_meet; case rel => exact ⟨rfl, by repeat (first | exact hbz | exact Below.refl _ _ | refine Below.setCell ?_ (by first | omega | (simp; omega) | simp) _ | refine Below.alloc ?_ (by first | omega | (simp; omega) | simp) _ | refine Below.drew ?_)⟩)
              · have hke : k = al.length := by omega
                subst hke
                have hownx := own_below hown hbx
                have hbf := below2 hbr2 hbx
                go_wp2
                exact ⟨⟨i + 1, al, by go_num, by omega, hownx, hF, has0, by omega, hbf⟩, by simp [intOf]; omega⟩
          · have hie2 : ¬ (i : Int) < (xs.length : Int) := by omega
            obtain ⟨ga, ca, rfl, hga, hgv, hca, hcm, hrow, hfz⟩ := own_row hown (by intro e; rw [e] at has0; simp at has0)
            have hE : ∀ W, (binOp .eql 25 (.agg #[.string ⟨#[]⟩, .string ⟨#[]⟩]) (.agg #[.string ⟨#[]⟩, .string ⟨#[]⟩])).run Try.prog W = .ok (.bool true) W := fun W => rng_eql [] [] [] [] W
            have hgap : ∀ W, Below wv.heap.size wv W → Calls Try.prog 5 #[.slice (some ⟨ga, 0, none⟩) al.length ca] W fun e w' => e = .returned (.tuple #[.agg #[.string ⟨#[]⟩, .string ⟨#[]⟩], .bool false]) ∧ Below W.heap.size W w' := by
              intro W hW
              refine (Gap_any (some ⟨ga, 0, none⟩) ga 0 ca al W (fun _ => ⟨rfl, hrow.step hW hgv, Nat.lt_of_lt_of_le hgv hW.size⟩) (by omega)).mono ?_
              rintro e w' ⟨o2, rfl, ho2, hb⟩
              have : o2 = none := gapSpec_one ho2 (show GapSpec al none from hF.out)
              subst this
              exact ⟨rfl, hb⟩
            go_wp2_with fail
            refine (hgap wv (Below.refl _ _)).mono ?_
            rintro e w5 ⟨rfl, hb5⟩
            have hbw5 := below2 hbw2 hb5
            have hba5 : Below w.heap.size w (w5.alloc (.cells #[.string ⟨#[]⟩, .string ⟨#[]⟩] 25)) := hbw5.alloc hbw5.size _
            clear hb5 hgap hown hrow
            go_wp2_with fail
            refine (works_any _).mono ?_
            rintro e w6 ⟨rfl, hb6⟩
            have hbw6 := below2 hba5 hb6
            go_wp2
            go_ret
            exact ⟨rfl, hbw6⟩
  | true =>
    have HN : Hid (GapSpec ls' (some (x, y))) := by
      have hO := HO.out
      rw [HV.out.1 rfl] at hO
      exact hO
    clear HV HO
    go_wp2
    generalize w1.alloc (.cells #[.string (bstr x), .string (bstr y)] 25) = W at *
    go_loopw [7] (fun s6 wr => ∃ i : Nat, s6 = .int .i64 (i : Int) ∧ i ≤ xs.length ∧ Below W.heap.size W wr) (fun s6 _ => xs.length - (intOf s6).toNat)
    case atStart => exact ⟨0, rfl, by omega, Below.refl _ _⟩
    case round =>
      obtain ⟨i, rfl, hil, hbr⟩ := hrel
      obtain ⟨wy, hwy⟩ : ∃ wy, wy = wr := ⟨_, rfl⟩
      subst hwy
      have hbw := below2 hba hbr
      by_cases hlt : i < xs.length
      · obtain ⟨rfl, hT, hb'l⟩ := hps wy hbw (by omega)
        have hi0' : (0 : Int) ≤ (i : Int) := by omega
        have hiz : (i : Int) < (xs.length : Int) := by omega
        have hti := hT i hlt
        have hTI : ∀ W2, Below wy.heap.size wy W2 → W2.cell? ⟨b', off' + i, none⟩ = some (.string (bstr xs[i])) := fun W2 h2 => by rw [h2.cell (p := ⟨b', _, none⟩) hb'l]; exact hti
        clear hT
        generalize xs[i] = t at *
        go_wp2
        go_loopw [8, 9] (fun s7 s8 wx => ∃ k : Nat, s8 = .int .i64 (k : Int) ∧ k ≤ ls'.length ∧ s7 = .bool (covB (ls'.take k) t) ∧ Below wy.heap.size wy wx) (fun _ s8 _ => ls'.length - (intOf s8).toNat)
        case atStart => exact ⟨0, rfl, by omega, rfl, Below.refl _ _⟩
        case round =>
          obtain ⟨k, rfl, hkl, rfl, hbx⟩ := hrel
          by_cases hlk : k < ls'.length
          · have hk0 : (0 : Int) ≤ (k : Int) := by omega
            have hkz : (k : Int) < (ls'.length : Int) := by omega
            obtain ⟨rfl, hR, hbl⟩ := hqs wr (below2 hbw hbx) (by omega)
            obtain ⟨c0, c1⟩ := hR k hlk
            have hct := covB_take (t := t) hlk
            have htx := hTI wr hbx
            generalize ls'[k] = r at *
            obtain ⟨lo, hi⟩ := r
            simp only at c0 c1 hct
            generalize covB (ls'.take k) t = sm at *
            have HC : Hid _ := hct
            clear hct hR
            have q0 := fun d os => cell_regrown c0 d os
            have q1 := fun d os => cell_regrown c1 d os
            have q2 := fun d os => cell_regrown htx d os
            cases sm with
            | true =>
              go_wp2_with fail
              refine wp_region_quiet_below (by kernel_rfl) (by kernel_rfl) ?_
              repeat (go_big_quiet_step (fail))
              refine wpQuiet_nil ?_
              intro _ hw'
              obtain ⟨⟨dq, osq⟩, hw''⟩ := hw'
              subst hw''
              have hb2 := below2 hbx (below_regrown wr dq osq)
              clear hbx c0 c1 htx q0 q1 q2
              generalize grow (redrawn wr dq) osq = W1 at *
              go_wp2
              go_roundw
              case rel => exact ⟨k + 1, by go_num, by omega, by rw [HC.out]; rfl, hb2⟩
              case measure => simp [intOf]; omega
            | false =>
              have hchk := fun W => Check_any lo hi W
              have hhas := fun W => Has_any lo hi t W
              cases hm : mayB lo hi with
              | false =>
                rw [hm, if_neg (by simp)] at hchk
                have HM2 : Hid _ := hm
                clear hm
                go_wp2_with fail
                refine wp_region_quiet_below (by kernel_rfl) (by kernel_rfl) ?_
                repeat (go_big_quiet_step ((go_at_call 6; with_reducible exact Calls.regrown_of (hchk _))))
                refine wpQuiet_nil ?_
                intro _ hw'
                obtain ⟨⟨dq, osq⟩, hw''⟩ := hw'
                subst hw''
                have hb2 := below2 hbx (below_regrown wr dq osq)
                clear hbx c0 c1 htx q0 q1 q2
                generalize grow (redrawn wr dq) osq = W1 at *
                go_wp2
                go_roundw
                case rel => exact ⟨k + 1, by go_num, by omega, by rw [HC.out, HM2.out]; rfl, hb2⟩
                case measure => simp [intOf]; omega
              | true =>
                rw [hm, if_pos rfl] at hchk
                have HM2 : Hid _ := hm
                clear hm
                generalize hasB lo hi t = hh at *
                go_wp2_with fail
                refine wp_region_quiet_below (by kernel_rfl) (by kernel_rfl) ?_
                repeat (go_big_quiet_step (first | (go_at_call 6; with_reducible exact Calls.regrown_of (hchk _)) | (go_at_call 7; with_reducible exact Calls.regrown_of (hhas _))))
                refine wpQuiet_nil ?_
                intro _ hw'
                obtain ⟨⟨dq, osq⟩, hw''⟩ := hw'
                subst hw''
                have hb2 := below2 hbx (below_regrown wr dq osq)
                clear hbx c0 c1 htx q0 q1 q2
                generalize grow (redrawn wr dq) osq = W1 at *
                go_wp2
                go_roundw
                case rel => exact ⟨k + 1, by go_num, by omega, by rw [HC.out, HM2.out]; simp, hb2⟩
                case measure => simp [intOf]; omega
          · have hke : k = ls'.length := by omega
            subst hke
            rw [List.take_length]
            have htx := hTI wr hbx
            have hbW := below2 hbr hbx
            have ra2 := ra.step hbW
            have q0 := fun d os => cell_regrown ra2.c0 d os
            have q1 := fun d os => cell_regrown ra2.c1 d os
            have q2 := fun d os => cell_regrown htx d os
            have hO := HN.out
            cases hcb : covB ls' t with
            | true =>
              have hh : hasB x y t = false := gap_has hO ((covB_iff _ _).1 hcb)
              have hhas := fun W => Has_any x y t W
              rw [hh] at hhas
              clear hcb HN hO hh
              go_wp2_with fail
              refine wp_region_quiet_below (by kernel_rfl) (by kernel_rfl) ?_
              repeat (go_big_quiet_step ((go_at_call 7; with_reducible exact Calls.regrown_of (hhas _))))
              refine wpQuiet_nil ?_
              intro _ hw'
              obtain ⟨⟨dq, osq⟩, hw''⟩ := hw'
              subst hw''
              have hb2 := below2 hbW (below_regrown wr dq osq)
              clear hbW htx q0 q1 q2 ra2
              generalize grow (redrawn wr dq) osq = W1 at *
              go_wp2
              exact ⟨⟨i + 1, by go_num, by omega, hb2⟩, by simp [intOf]; omega⟩
            | false =>
              have hh : ls t x = false := gap_ahead hO (fun h => by rw [← covB_iff, hcb] at h; cases h)
              clear hcb HN hO
              go_wp2_with fail
              refine wp_region_quiet_below (by kernel_rfl) (by kernel_rfl) ?_
              repeat (go_big_quiet_step (fail))
              refine wpQuiet_nil ?_
              intro _ hw'
              obtain ⟨⟨dq, osq⟩, hw''⟩ := hw'
              subst hw''
              have hb2 := below2 hbW (below_regrown wr dq osq)
              clear hbW htx q0 q1 q2 ra2
              generalize grow (redrawn wr dq) osq = W1 at *
              go_wp2
              exact ⟨⟨i + 1, by go_num, by omega, hb2⟩, by simp [intOf]; omega⟩
      · have hie : ¬ (i : Int) < (xs.length : Int) := by omega
        clear HN
        obtain ⟨i0', hi0', hz0', hz1', hz2'⟩ := info_parts Try.infoRng
        have hown0 : (wy.alloc (.cells #[.string ⟨#[]⟩, .string ⟨#[]⟩] 25)).ownsRow wy.heap.size 25 2 (.slice (some ⟨wy.heap.size, 0, none⟩) 1 1) 1 (rcells [([], [])]) := World.ownsRow_lit wy #[.string ⟨#[]⟩, .string ⟨#[]⟩] 1 (Nat.le_refl _) (by decide) rfl
        have hbA : Below wy.heap.size wy (wy.alloc (.cells #[.string ⟨#[]⟩, .string ⟨#[]⟩] 25)) := (Below.refl _ _).alloc (Nat.le_refl _) _
        go_wp2
        generalize wy.alloc (.cells #[.string ⟨#[]⟩, .string ⟨#[]⟩] 25) = wz at *
        go_loopw [10, 11] (fun s10 s11 wr => ∃ (i : Nat) (al : List Rg), s11 = .int .i64 (i : Int) ∧ i ≤ xs.length ∧ wr.ownsRow wy.heap.size 25 2 s10 al.length (rcells al) ∧ Hid (Full al) ∧ 0 < al.length ∧ al.length ≤ i + 1 ∧ Below wy.heap.size wy wr) (fun _ s11 _ => xs.length - (intOf s11).toNat)
        case atStart => exact ⟨0, [([], [])], rfl, by omega, hown0, Full.start, by simp, by simp, hbA⟩
        case round =>
          obtain ⟨i, al, rfl, hil, hown, hF, has0, hasl, hbr2⟩ := hrel
          obtain ⟨wv, hwv⟩ : ∃ wv, wv = wr := ⟨_, rfl⟩
          subst hwv
          have hbw2 := below2 hbw hbr2
          by_cases hlt2 : i < xs.length
          · obtain ⟨rfl, hT, hb'l⟩ := hps wv hbw2 (by omega)
            have hiq0 : (0 : Int) ≤ (i : Int) := by omega
            have hiz : (i : Int) < (xs.length : Int) := by omega
            have hti := hT i hlt2
            have hTI : ∀ W2, Below wv.heap.size wv W2 → W2.cell? ⟨b', off' + i, none⟩ = some (.string (bstr xs[i])) := fun W2 h2 => by rw [h2.cell (p := ⟨b', _, none⟩) hb'l]; exact hti
            clear hT
            generalize xs[i] = t at *
            obtain ⟨ga, ca, rfl, hga, hgv, hca, hcm, hrow, hfz⟩ := own_row hown (by intro e; rw [e] at has0; simp at has0)
            go_wp2
            go_loopw [10, 12] (fun s10 s12 wx => ∃ k : Nat, s12 = .int .i64 (k : Int) ∧ k ≤ al.length ∧ s10 = .slice (some ⟨ga, 0, none⟩) al.length ca ∧ Below wv.heap.size wv wx) (fun _ s12 _ => al.length - (intOf s12).toNat)
            case atStart => exact ⟨0, rfl, by omega, rfl, Below.refl _ _⟩
            case round =>
              obtain ⟨k, rfl, hkl, rfl, hbx⟩ := hrel
              by_cases hlk : k < al.length
              · have hk0 : (0 : Int) ≤ (k : Int) := by omega
                have hkz : (k : Int) < (al.length : Int) := by omega
                obtain ⟨c0, c1⟩ := (hrow.step hbx hgv) k hlk
                rw [Nat.zero_add] at c0 c1
                have htx := hTI wr hbx
                have hownx := own_below hown hbx
                have hsp := fun W => Split_any (al[k]).1 (al[k]).2 t W
                cases hs : splitB (al[k]).1 (al[k]).2 t with
                | true =>
                  have HS : Hid (Full (al.set k ((al[k]).1, t) ++ [(t, (al[k]).2)])) := hF.out.split hlk hs
                  unfold splitV at hsp
                  rw [hs, if_pos rfl] at hsp
                  have hset := rcells_set al k hlk (al[k]).1 t
                  generalize al[k] = r at *
                  obtain ⟨lo, hi⟩ := r
                  simp only at c0 c1 hsp HS hset
                  have q0 := fun d os => cell_regrown c0 d os
                  have q1 := fun d os => cell_regrown c1 d os
                  have q2 := fun d os => cell_regrown htx d os
                  go_wp2_with fail
                  go_cut [13, 14, 15] from 1000 (fun s13 s14 s15 wx => ∃ P R : Nat, s13 = .pointer (some ⟨P, 0, none⟩) ∧ s14 = .pointer (some ⟨R, 0, none⟩) ∧ s15 = .int .i64 0 ∧ RngAt wx P lo t ∧ RngAt wx R t hi ∧ wr.heap.size ≤ P ∧ wr.heap.size ≤ R ∧ Below wr.heap.size wr wx)
                  case rest =>
                    obtain ⟨P, R, rfl, rfl, rfl, hP, hR, hPl, hRl, hBW⟩ := hcut
                    have hgl : ga < wr.heap.size := block_lt_of_cell c0
                    have hownc := own_below hownx hBW
                    have k0 : wc.cell? ⟨ga, k * 2, none⟩ = some (.string (bstr lo)) := by rw [hBW.cell (p := ⟨ga, _, none⟩) hgl]; exact c0
                    have k1 : wc.cell? ⟨ga, k * 2 + 1, none⟩ = some (.string (bstr hi)) := by rw [hBW.cell (p := ⟨ga, _, none⟩) hgl]; exact c1
                    have f0 := hownc.frozenAt (k * 2)
                    have f1 := hownc.frozenAt (k * 2 + 1)
                    obtain ⟨x0, x1⟩ := id hP
                    have hwyr : wy.heap.size ≤ wr.heap.size := Nat.le_trans hbr2.size hbx.size
                    have hB3 : Below wy.heap.size wy ((wc.setCell ⟨ga, k * 2, none⟩ (.string (bstr lo))).setCell ⟨ga, k * 2 + 1, none⟩ (.string (bstr t))) := ((below2 (below2 hbr2 hbx) hBW).setCell (p := ⟨ga, k * 2, none⟩) hga _).setCell (p := ⟨ga, k * 2 + 1, none⟩) hga _
                    have hown3 := ((hownc.stored (k * 2) (.string (bstr lo))).1.stored (k * 2 + 1) (.string (bstr t))).1
                    rw [hset] at hown3
                    have hR3 := (hR.far (o := k * 2) (.string (bstr lo)) (show ga ≠ R by omega)).far (o := k * 2 + 1) (.string (bstr t)) (show ga ≠ R by omega)
                    have hnews := rng_news ((wc.setCell ⟨ga, k * 2, none⟩ (.string (bstr lo))).setCell ⟨ga, k * 2 + 1, none⟩ (.string (bstr t))) t hi 25
                    have hs2 : ((wc.setCell ⟨ga, k * 2, none⟩ (.string (bstr lo))).setCell ⟨ga, k * 2 + 1, none⟩ (.string (bstr t))).heap.size = wc.heap.size := by simp
                    rw [hs2] at hnews
                    have hwyc : wy.heap.size ≤ wc.heap.size := Nat.le_trans hwyr hBW.size
                    obtain ⟨r0, r1⟩ := id hR
                    have hne1 : ga ≠ R := by omega
                    have hne2 : R ≠ ga := by omega
                    have H3 : Hid _ := hB3
                    clear hB3 hR3 q0 q1 q2 c0 c1 htx hsp hs2
                    go_wp2_with (at_builtin; refine wpList_append_own _ rfl _ _ 22 rfl wy.heap.size 25 i0 (.agg #[.string ⟨#[]⟩, .string ⟨#[]⟩]) 2 32 Try.underlying22 hi0 hz0 hz1 hz2 rfl (by decide) _ _ _ rfl (hown3.alloc _) ⟨wc.heap.size, 0, none⟩ 1 1 (encR (t, hi)) rfl rfl hnews (encR_one _) ?c3 ?c4 ?c5 ?_)
                    case c3 => unfold maxLen; omega
                    case c4 => omega
                    case c5 => simp; omega
                    intro v' w4 hown4 hgrow _
                    have hB4 : Below wy.heap.size wy w4 := (H3.out.alloc (by have := H3.out.size; simpa using this) _).grown hgrow (by simp; omega) (fun k hk => by cases hk; exact hga)
                    have hown5 : w4.ownsRow wy.heap.size 25 2 v' (al.set k (lo, t) ++ [(t, hi)]).length (rcells (al.set k (lo, t) ++ [(t, hi)])) := by
                      rw [List.length_append, List.length_set, rcells_append]
                      exact hown4
                    clear hown3 hown4 hgrow H3 hnews k0 k1 x0 x1 r0 r1 hownc
                    go_wp2
                    exact ⟨⟨i + 1, al.set k (lo, t) ++ [(t, hi)], by go_num, by omega, hown5, HS, by simp, by simp; omega, hB4⟩, by simp [intOf]; omega⟩
                  have hgl : ga < wr.heap.size := block_lt_of_cell c0
                  have hbl2 : b' < wr.heap.size := block_lt_of_cell htx
                  have n0 : wr.heap.size + 1 ≠ ga := by omega
                  have n1 : wr.heap.size + 1 ≠ b' := by omega
                  have e0 := World.new_ne wr _ c0
                  have e2 := World.new_ne wr _ htx
                  go_region_held3 (fun w' => w'.cell? ⟨ga, k * 2, none⟩ = some (.string (bstr lo)) ∧ w'.cell? ⟨ga, k * 2 + 1, none⟩ = some (.string (bstr hi)) ∧ w'.cell? ⟨b', off' + i, none⟩ = some (.string (bstr t))) (first | with_reducible exact ⟨c0, c1, htx⟩ | go_keep)
                    ((go_at_call 8; refine (hsp _).mono ?_; rintro e wf ⟨rfl, hbf⟩; obtain ⟨X, hX⟩ : ∃ X, Below wr.heap.size wr X ∧ Below X.heap.size X wf := ⟨_, (by repeat (first | exact Below.refl _ _ | refine Below.drew ?_ | refine Below.alloc ?_ (by simp) _)), hbf⟩; have d0 := kc hX.1 hX.2 c0; have d1 := kc hX.1 hX.2 c1; have d2 := kc hX.1 hX.2 htx; have e0 := World.new_ne wf _ d0; have e2 := World.new_ne wf _ d2; have hbz := below2 hX.1 hX.2; (first | (have b0 := at1 (wr := wr) (z := (Obj.cells #[.string ⟨#[]⟩, .string ⟨#[]⟩] 25 (0, 0))) hbf rfl; obtain ⟨b01, b02, b03, b04⟩ := blk2 b0; have e3 : wf.heap.size ≠ wr.heap.size := World.new_ne wf _ b01; have e4 : wr.heap.size ≠ wf.heap.size := Ne.symm e3; have e5 : wr.heap.size < wf.heap.size := block_lt_of_cell b01; clear b0) | (obtain ⟨b0, b1⟩ := at2 (wr := wr) (z := (Obj.cells #[.string ⟨#[]⟩, .string ⟨#[]⟩] 25 (0, 0))) (y := (Obj.cells #[.string ⟨#[]⟩, .string ⟨#[]⟩] 25 (0, 0))) hbf rfl; obtain ⟨b01, b02, b03, b04⟩ := blk2 b0; obtain ⟨b11, b12, b13, b14⟩ := blk2 b1; have e5 : wr.heap.size + 1 < wf.heap.size := block_lt_of_cell b11; clear b0 b1) | skip); have hsz := hbz.size; clear hX))
                  all_goals (go_wp2; go_meet; case rel => exact ⟨_, _, rfl, rfl, rfl, ⟨by go_simp, by go_simp⟩, ⟨by go_simp, by go_simp⟩, by first | omega | (simp; omega) | simp, by first | omega | (simp; omega) | simp, by repeat (first | exact hbz | exact Below.refl _ _ | refine Below.setCell ?_ (by first | omega | (simp; omega) | simp) _ | refine Below.alloc ?_ (by first | omega | (simp; omega) | simp) _ | refine Below.drew ?_)⟩)
                | false =>
                  unfold splitV at hsp
                  rw [hs, if_neg (by simp)] at hsp
                  generalize al[k] = r at *
                  obtain ⟨lo, hi⟩ := r
                  simp only at c0 c1 hsp
                  go_wp2_with fail
                  go_cut [15] from 1000 (fun s15 wx => s15 = .int .i64 2 ∧ Below wr.heap.size wr wx)
                  case rest =>
                    obtain ⟨rfl, hBW⟩ := hcut
                    have hbx2 := below2 hbx hBW
                    clear c0 c1 htx hsp
                    go_wp2
                    go_roundw
                    case rel => exact ⟨k + 1, by go_num, by omega, rfl, hbx2⟩
                    case measure => simp [intOf]; omega
                  have hgl : ga < wr.heap.size := block_lt_of_cell c0
                  have hbl2 : b' < wr.heap.size := block_lt_of_cell htx
                  have n0 : wr.heap.size + 1 ≠ ga := by omega
                  have n1 : wr.heap.size + 1 ≠ b' := by omega
                  have e0 := World.new_ne wr _ c0
                  have e2 := World.new_ne wr _ htx
                  go_region_held3 (fun w' => w'.cell? ⟨ga, k * 2, none⟩ = some (.string (bstr lo)) ∧ w'.cell? ⟨ga, k * 2 + 1, none⟩ = some (.string (bstr hi)) ∧ w'.cell? ⟨b', off' + i, none⟩ = some (.string (bstr t))) (first | with_reducible exact ⟨c0, c1, htx⟩ | go_keep)
                    ((go_at_call 8; refine (hsp _).mono ?_; rintro e wf ⟨rfl, hbf⟩; obtain ⟨X, hX⟩ : ∃ X, Below wr.heap.size wr X ∧ Below X.heap.size X wf := ⟨_, (by repeat (first | exact Below.refl _ _ | refine Below.drew ?_ | refine Below.alloc ?_ (by simp) _)), hbf⟩; have d0 := kc hX.1 hX.2 c0; have d1 := kc hX.1 hX.2 c1; have d2 := kc hX.1 hX.2 htx; have e0 := World.new_ne wf _ d0; have e2 := World.new_ne wf _ d2; have hbz := below2 hX.1 hX.2; (first | (have b0 := at1 (wr := wr) (z := (Obj.cells #[.string ⟨#[]⟩, .string ⟨#[]⟩] 25 (0, 0))) hbf rfl; obtain ⟨b01, b02, b03, b04⟩ := blk2 b0; have e3 : wf.heap.size ≠ wr.heap.size := World.new_ne wf _ b01; have e4 : wr.heap.size ≠ wf.heap.size := Ne.symm e3; have e5 : wr.heap.size < wf.heap.size := block_lt_of_cell b01; clear b0) | (obtain ⟨b0, b1⟩ := at2 (wr := wr) (z := (Obj.cells #[.string ⟨#[]⟩, .string ⟨#[]⟩] 25 (0, 0))) (y := (Obj.cells #[.string ⟨#[]⟩, .string ⟨#[]⟩] 25 (0, 0))) hbf rfl; obtain ⟨b01, b02, b03, b04⟩ := blk2 b0; obtain ⟨b11, b12, b13, b14⟩ := blk2 b1; have e5 : wr.heap.size + 1 < wf.heap.size := block_lt_of_cell b11; clear b0 b1) | skip); have hsz := hbz.size; clear hX))
                  all_goals (go_wp2; go_meet; case rel => exact ⟨rfl, by repeat (first | exact hbz | exact Below.refl _ _ | refine Below.setCell ?_ (by first | omega | (simp; omega) | simp) _ | refine Below.alloc ?_ (by first | omega | (simp; omega) | simp) _ | refine Below.drew ?_)⟩)
              · have hke : k = al.length := by omega
                subst hke
                have hownx := own_below hown hbx
                have hbf := below2 hbr2 hbx
                go_wp2
                exact ⟨⟨i + 1, al, by go_num, by omega, hownx, hF, has0, by omega, hbf⟩, by simp [intOf]; omega⟩
          · have hie2 : ¬ (i : Int) < (xs.length : Int) := by omega
            obtain ⟨ga, ca, rfl, hga, hgv, hca, hcm, hrow, hfz⟩ := own_row hown (by intro e; rw [e] at has0; simp at has0)
            have hE : ∀ W, (binOp .eql 25 (.agg #[.string ⟨#[]⟩, .string ⟨#[]⟩]) (.agg #[.string ⟨#[]⟩, .string ⟨#[]⟩])).run Try.prog W = .ok (.bool true) W := fun W => rng_eql [] [] [] [] W
            have hgap : ∀ W, Below wv.heap.size wv W → Calls Try.prog 5 #[.slice (some ⟨ga, 0, none⟩) al.length ca] W fun e w' => e = .returned (.tuple #[.agg #[.string ⟨#[]⟩, .string ⟨#[]⟩], .bool false]) ∧ Below W.heap.size W w' := by
              intro W hW
              refine (Gap_any (some ⟨ga, 0, none⟩) ga 0 ca al W (fun _ => ⟨rfl, hrow.step hW hgv, Nat.lt_of_lt_of_le hgv hW.size⟩) (by omega)).mono ?_
              rintro e w' ⟨o2, rfl, ho2, hb⟩
              have : o2 = none := gapSpec_one ho2 (show GapSpec al none from hF.out)
              subst this
              exact ⟨rfl, hb⟩
            go_wp2_with fail
            refine (hgap wv (Below.refl _ _)).mono ?_
            rintro e w5 ⟨rfl, hb5⟩
            have hbw5 := below2 hbw2 hb5
            have hba5 : Below w.heap.size w (w5.alloc (.cells #[.string ⟨#[]⟩, .string ⟨#[]⟩] 25)) := hbw5.alloc hbw5.size _
            clear hb5 hgap hown hrow
            go_wp2_with fail
            refine (works_any _).mono ?_
            rintro e w6 ⟨rfl, hb6⟩
            have hbw6 := below2 hba5 hb6
            go_wp2
            go_ret
            exact ⟨rfl, hbw6⟩

end Go.Proofs.Ytenofgjbkeppoaa
