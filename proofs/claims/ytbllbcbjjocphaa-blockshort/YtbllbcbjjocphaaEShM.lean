/-
  BlockShort, walked.
-/
import Derived.Test.YtbllbcbjjocphaaEBck
namespace Go.Proofs.Ytbllbcbjjocphaa
open Go.RowKit Go.BigFrame Go.Sort
attribute [local go_sem] size_bstr toList_bstr ls_def

theorem uv_one {x : Nat} (h : x < 128) : (Lib.uvarint x).length = 1 := by rw [Lib.uvarint_small h]; rfl
theorem uv_big {x k : Nat} (h : 128 ≤ x) (hk : (Lib.uvarint (x / 128)).length ≤ k) : (Lib.uvarint x).length ≤ k + 1 := by rw [Lib.uvarint_big h]; simp; omega
theorem uv_le : ∀ (k x : Nat), x < 128 ^ (k + 1) → (Lib.uvarint x).length ≤ k + 1
  | 0, x, h => by rw [uv_one (by simpa using h)]; omega
  | k + 1, x, h => by
    by_cases hx : x < 128
    · rw [uv_one hx]; omega
    · refine uv_big (by omega) (uv_le k (x / 128) ?_)
      rw [Nat.div_lt_iff_lt_mul (by omega)]
      rw [Nat.pow_succ] at h
      exact h
theorem layB_short {a : List UInt8} {c : Cl} (h : okC c = true) : (layB a c).length ≤ c.row.length + c.col.length + c.val.length + 14 := by
  obtain ⟨h1, h2, h3, h4, h5⟩ := okC_len h
  have hr := cmn_right a c.row
  have t1 := uv_le 0 (cmn a c.row) (by omega)
  have t2 := uv_le 0 (c.row.drop (cmn a c.row)).length (by rw [List.length_drop]; omega)
  have t3 := uv_le 0 c.col.length (by omega)
  have t4 := uv_le 5 c.ver.toNat (by omega)
  have t5 := uv_le 2 c.val.length (by omega)
  unfold layB txt
  simp only [List.length_append]
  have g : ((if c.gone = true then [1] else [0]) : List UInt8).length = 1 := by cases c.gone <;> rfl
  rw [g]
  rw [List.length_drop] at t2 ⊢
  omega
/-- What the law adds up. -/
def sumS : List Cl → Nat
  | [] => 2
  | c :: l => c.row.length + c.col.length + c.val.length + 16 + sumS l
def sumT (l : List Cl) : Nat := l.foldl (fun n c => n + c.row.length + c.col.length + c.val.length + 16) 2
theorem bdy_short : ∀ (k : Nat) (a : List UInt8) (l : List Cl), l.all okC = true → (bdy k a l).length + 2 * l.length + 2 ≤ sumS l
  | _, _, [], _ => by simp [bdy, sumS]
  | k, a, c :: l, h => by
    rw [List.all_cons, Bool.and_eq_true] at h
    have h1 := layB_short (a := if k % 8 = 0 then [] else a) h.1
    have h2 := bdy_short (k + 1) c.row l h.2
    rw [bdy, sumS, List.length_append, List.length_cons]
    omega
theorem blk_short {l : List Cl} (h : l.all okC = true) : (blkB l).length ≤ sumS l := by
  have := bdy_short 0 [] l h
  rw [blkB_len]
  unfold body
  omega
/-- A partial sum. -/
def sumP (l : List Cl) (i : Nat) : Nat := sumS (l.take i)
theorem sumS_snoc (l : List Cl) (c : Cl) : sumS (l ++ [c]) = sumS l + (c.row.length + c.col.length + c.val.length + 16) := by
  induction l with
  | nil => simp [sumS]; omega
  | cons d l ih => rw [List.cons_append, sumS, ih, sumS]; omega
theorem sum_take {l : List Cl} {i : Nat} (h : i < l.length) : sumS (l.take (i + 1)) = sumS (l.take i) + (l[i].row.length + l[i].col.length + l[i].val.length + 16) := by
  rw [List.take_succ_eq_append_getElem h, sumS_snoc]
theorem sum_le {l : List Cl} (h : l.all okC = true) : sumS l ≤ 2 + 70000 * l.length := by
  induction l with
  | nil => simp [sumS]
  | cons c l ih =>
    rw [List.all_cons, Bool.and_eq_true] at h
    have := okC_len h.1
    have := ih h.2
    rw [sumS, List.length_cons]
    omega

set_option maxHeartbeats 4000000 in
set_option maxRecDepth 100000 in
theorem Short_any (q : Option Addr) (b off cap : Nat) (cs : List Cl) (w : World) (hq : 0 < cs.length → q = some ⟨b, off, none⟩ ∧ CRow w b off cs ∧ b < w.heap.size) (hf : ∀ c ∈ cs, Fits c) (hcap : cs.length ≤ cap) (hn : cs.length * 64 ≤ 140737488351232) :
    Calls Try.prog 8 #[.slice q cs.length cap] w fun e w' => e = .returned (.bool true) ∧ RowKit.Below w.heap.size w w' := by
  obtain ⟨m, hm⟩ : ∃ m : Nat, min cs.length 200 = m := ⟨_, rfl⟩
  have hmi : (min (cs.length : Int) 200) = (m : Int) := by omega
  have hsl := fun W => ehead_run (P := Try.prog) (t := 22) (q := q) (len := cs.length) (cap := cap) (n := m) (s := 5) Try.underlying22 (fun W => Try.sizeOf35 W) (by omega) W
  have htl : (cs.take m).length = m := by rw [List.length_take]; omega
  have hq1 : 0 < (cs.take m).length → q = some ⟨b, off, none⟩ ∧ CRow w b off (cs.take m) ∧ b < w.heap.size := fun h => by
    rw [htl] at h
    obtain ⟨e1, e2, e3⟩ := hq (by omega)
    exact ⟨e1, e2.take m, e3⟩
  have hSo := fun W (hb : RowKit.Below w.heap.size w W) => Sort_any q b off cap (cs.take m) W (fun h => ⟨(hq1 h).1, (hq1 h).2.1.step hb (hq1 h).2.2, Nat.lt_of_lt_of_le (hq1 h).2.2 hb.size⟩) (fun c hc => hf c (List.mem_of_mem_take hc)) (by rw [htl]; omega)
  rw [htl] at hSo
  have hSf : ∀ c ∈ sortL (cs.take m), Fits c := fun c hc => hf c (List.mem_of_mem_take (mem_sortL hc))
  have hSl := sortL_len (cs.take m)
  rw [htl] at hSl
  have hm200 : m ≤ 200 := by omega
  generalize sortL (cs.take m) = S at *
  clear hq1 htl hf hn hm
  go_enter Try.func8, Try.ntmps8
  go_wp2_with fail
  refine (works10_any w).mono ?_
  rintro e w1 ⟨rfl, hb1⟩
  go_wp2_with fail
  refine (hSo _ hb1).mono ?_
  rintro e w2 ⟨v, rfl, hown, hb2⟩
  obtain ⟨p, c, rfl⟩ := own_shape hown
  obtain ⟨g, hg⟩ := own_hq hown
  have hB2 := below2 hb1 hb2
  clear hSo hsl hmi hq hcap hb1 hb2
  go_wp2_with fail
  refine (Build_any p g 0 c S w2 hg (by omega)).mono ?_
  rintro e w3 ⟨rfl, hb3⟩
  have hB3 := below2 hB2 hb3
  have hg3 : 0 < S.length → p = some ⟨g, 0, none⟩ ∧ CRow w3 g 0 S ∧ g < w3.heap.size := fun h => ⟨(hg h).1, (hg h).2.1.step hb3 (hg h).2.2, Nat.lt_of_lt_of_le (hg h).2.2 hb3.size⟩
  clear hB2 hb3 hg hown
  by_cases he : bldE S = 0
  · have hG := bldE_z he
    have hle := blk_short hG.ok
    have hsm := sum_le hG.ok
    have HOK : Hid (S.all okC = true) := hG.ok
    rw [he, (bld_good hG).1]
    have hbl := hG.len
    clear hG he hSf
    generalize blkB S = bb at *
    go_wp2
    go_loopw [6, 7] (fun s6 s7 wr => ∃ i : Nat, s7 = .int .i64 (i : Int) ∧ s6 = .int .i64 (sumS (S.take i) : Int) ∧ i ≤ S.length ∧ RowKit.Below w3.heap.size w3 wr) (fun _ s7 _ => S.length - (intOf s7).toNat)
    case atStart => exact ⟨0, rfl, rfl, by omega, RowKit.Below.refl _ _⟩
    case round =>
      obtain ⟨i, rfl, rfl, hil, hbel⟩ := hrel
      by_cases hlt : i < S.length
      · obtain ⟨rfl, hR, hgl⟩ := hg3 (by omega)
        have hAt := (hR.step hbel hgl) i hlt
        rw [Nat.zero_add] at hAt
        have hok := okC_len (all_get HOK.out hlt)
        have hst := sum_take hlt
        have hsi : sumS (S.take i) ≤ 20000000 := by
          have := sum_le (l := S.take i) (List.all_eq_true.2 fun c hc => List.all_eq_true.1 HOK.out c (List.mem_of_mem_take hc))
          rw [List.length_take] at this
          omega
        have hr1 : S[i].row.length ≤ 100000 := by omega
        have hr2 : S[i].col.length ≤ 100000 := by omega
        have hr3 : S[i].val.length ≤ 100000 := by omega
        clear hR hok
        have HST : Hid _ := hst
        clear hst
        generalize S[i] = n at *
        obtain ⟨r, k, v, z, x⟩ := n
        obtain ⟨c0, c1, c2, c3, c4⟩ := hAt
        simp only at c0 c1 c2 c3 c4 hr1 hr2 hr3
        generalize sumS (S.take i) = sn at *
        have hlz : (i : Int) < (S.length : Int) := by omega
        go_wp2_with fail
        go_quiet (fail)
        have hbe := below_drewN hbel nq
        clear c0 c1 c2 c3 c4
        go_wp2
        go_roundw
        case rel => exact ⟨i + 1, by go_num, by rw [HST.out]; go_num, by omega, hbe⟩
        case measure => simp [intOf]; omega
      · have hie : i = S.length := by omega
        subst hie
        rw [List.take_length]
        have hbe := below2 hB3 hbel
        generalize sumS S = sn at *
        have hdd : decide ((bb.length : Int) ≤ (sn : Int)) = true := by rw [decide_eq_true_eq]; omega
        go_wp2
        go_ret
        exact ⟨rfl, hbe⟩
  · generalize bldB S = bb at *
    generalize bldE S = ee at *
    go_wp2
    go_loopw [6, 7] (fun s6 s7 wr => ∃ (i : Nat) (n : Int), s7 = .int .i64 (i : Int) ∧ s6 = .int .i64 n ∧ i ≤ S.length ∧ RowKit.Below w3.heap.size w3 wr) (fun _ s7 _ => S.length - (intOf s7).toNat)
    case atStart => exact ⟨0, 2, rfl, rfl, by omega, RowKit.Below.refl _ _⟩
    case round =>
      obtain ⟨i, n, rfl, rfl, hil, hbel⟩ := hrel
      by_cases hlt : i < S.length
      · obtain ⟨rfl, hR, hgl⟩ := hg3 (by omega)
        have hAt := (hR.step hbel hgl) i hlt
        rw [Nat.zero_add] at hAt
        clear hR
        generalize S[i] = c' at *
        obtain ⟨r, k, v, z, x⟩ := c'
        obtain ⟨c0, c1, c2, c3, c4⟩ := hAt
        simp only at c0 c1 c2 c3 c4
        have hlz : (i : Int) < (S.length : Int) := by omega
        go_wp2_with fail
        go_quiet (fail)
        have hbe := below_drewN hbel nq
        clear c0 c1 c2 c3 c4
        go_wp2
        go_roundw
        case rel => exact ⟨i + 1, _, by go_num, rfl, by omega, hbe⟩
        case measure => simp [intOf]; omega
      · have hie : i = S.length := by omega
        subst hie
        have hbe := below2 hB3 hbel
        have hne : (ee == 0) = false := by rw [beq_eq_false_iff_ne]; exact he
        go_wp2
        go_ret
        exact ⟨rfl, hbe⟩

end Go.Proofs.Ytbllbcbjjocphaa
