/-
  The contracts of holder and of Get.
  The contracts of holder and of Get; records in a row.
-/
import Derived.Test.YtpldfakfgngaaaaGreatDoorGPut
namespace Go.Proofs.YtpldfakfgngaaaaGreatDoor
open Go.RowKit
attribute [local go_sem] size_bstr toList_bstr append_bstr

def cmpN (a n : Nat) : Int := if a < n then -1 else if n < a then 1 else 0

set_option maxHeartbeats 400000 in
theorem cmp_any {p : List UInt8} {f : Wf} (n : Nat) (w : World) (h : WfAt w p f) :
    Calls Tryz.prog 93 #[.pointer (some ⟨f.g, 0, none⟩), .int .u64 (n : Int)] w fun e w' => e = .returned (.int .i64 (cmpN f.num n)) ∧ w' = w := by
  obtain ⟨-, c1, -, -⟩ := cells4 h.blk
  by_cases h1 : f.num < n
  · have e1 : cmpN f.num n = -1 := by simp [cmpN, h1]
    have g1 : (f.num : Int) < (n : Int) := by omega
    rw [e1]
    go_enter Tryz.func93, Tryz.ntmps93
    go_wp2
    go_ret
    exact ⟨rfl, rfl⟩
  · have g1 : ¬ (f.num : Int) < (n : Int) := by omega
    by_cases h2 : n < f.num
    · have e1 : cmpN f.num n = 1 := by simp [cmpN, h1, h2]
      have g2 : (n : Int) < (f.num : Int) := by omega
      rw [e1]
      go_enter Tryz.func93, Tryz.ntmps93
      go_wp2
      go_ret
      exact ⟨rfl, rfl⟩
    · have e1 : cmpN f.num n = 0 := by simp [cmpN, h1, h2]
      have g2 : ¬ (n : Int) < (f.num : Int) := by omega
      rw [e1]
      go_enter Tryz.func93, Tryz.ntmps93
      go_wp2
      go_ret
      exact ⟨rfl, rfl⟩
def isAt (F : List Wf) (i n : Nat) : Bool := match F[i]? with | some f => decide (f.num = n) | none => false
/-- Where a number's file would be. -/
structure Pos (F : List Wf) (n i : Nat) : Prop where
  le : i ≤ F.length
  low : ∀ t (h : t < F.length), t < i → F[t].num < n
  high : ∀ t (h : t < F.length), i ≤ t → n ≤ F[t].num

set_option maxHeartbeats 600000 in
set_option maxRecDepth 100000 in
theorem search_any {k : Wk} {F : List Wf} {v : Value} (n : Nat) (w : World) (h : Wm w k F v) (hs : F.Pairwise (fun a b => a.num < b.num)) (hF : F.length ≤ 1000000) (h0 : 0 < F.length) :
    Calls Tryz.prog 92 #[v, .int .u64 (n : Int), .func (.func 93) #[] #[]] w fun e w' => ∃ i, Pos F n i ∧ e = .returned (.tuple #[.int .i64 (i : Int), .bool (isAt F i n)]) ∧ w' = w := by
  have hlen := ptrV_len F
  obtain ⟨g, off, cap, hv, -⟩ := h.row.cell (i := 0) (by rw [hlen]; exact h0)
  have hcell : ∀ t (ht : t < F.length), w.cell? ⟨g, off + t, none⟩ = some (.pointer (some ⟨F[t].g, 0, none⟩)) := fun t ht => by
    obtain ⟨g', off', cap', hv', hc⟩ := h.row.cell (i := t) (by rw [hlen]; exact ht)
    rw [hv] at hv'
    cases hv'
    rw [hc]
    simp [ptrV]
  have hcmp : ∀ t (ht : t < F.length), Calls Tryz.prog 93 #[.pointer (some ⟨F[t].g, 0, none⟩), .int .u64 (n : Int)] w fun e w' => e = .returned (.int .i64 (cmpN F[t].num n)) ∧ w' = w := fun t ht => cmp_any n w (h.fl _ (List.getElem_mem ht))
  rw [hlen] at hv
  subst hv
  have HC : Hid _ := hcell
  have HM : Hid _ := hcmp
  have HS : Hid (F.Pairwise (fun a b => a.num < b.num)) := hs
  clear hcell hcmp hs hlen h
  go_enter Tryz.func92, Tryz.ntmps92
  go_wp2_with fail
  go_loopw [9, 10] (fun s9 s10 wr => ∃ lo hi : Nat, wr = w ∧ s9 = .int .i64 (lo : Int) ∧ s10 = .int .i64 (hi : Int) ∧ lo ≤ hi ∧ hi ≤ F.length ∧ Hid (∀ t (h : t < F.length), t < lo → F[t].num < n) ∧ Hid (∀ t (h : t < F.length), hi ≤ t → n ≤ F[t].num)) (fun s9 s10 _ => (intOf s10).toNat - (intOf s9).toNat)
  case atStart => exact ⟨0, F.length, rfl, rfl, rfl, Nat.zero_le _, Nat.le_refl _, fun t _ ht => absurd ht (Nat.not_lt_zero _), fun t h1 h2 => by omega⟩
  case round =>
    obtain ⟨lo, hi, rfl, rfl, rfl, hlh, hin, I1, I2⟩ := hrel
    by_cases hlt : lo < hi
    · obtain ⟨x, hx⟩ : ∃ x, x = (lo + hi) / 2 := ⟨_, rfl⟩
      have hxl : x < F.length := by omega
      have cx := HC.out x hxl
      have mx := HM.out x hxl
      have ex : ((lo : Int) + (hi : Int)) / 2 = (x : Int) := by omega
      have exn : (lo + hi) / 2 = x := hx.symm
      have HX : Hid (x = (lo + hi) / 2) := hx
      have hxi : (x : Int) < (F.length : Int) := by omega
      have hx0 : (0 : Int) ≤ (x : Int) := by omega
      clear hx
      by_cases hc : F[x].num < n
      · have e1 : cmpN F[x].num n = -1 := by simp [cmpN, hc]
        rw [e1] at mx
        have HN : Hid _ := hc
        clear e1 hc
        go_wp2_with fail
        refine mx.mono ?_
        rintro e w1 ⟨rfl, rfl⟩
        go_wp2
        go_roundw
        case rel =>
          have h2 := HX.out
          refine ⟨x + 1, hi, by trivial, by simp, rfl, by omega, hin, fun t ht hl => ?_, I2⟩
          by_cases e : t = x
          · subst e; exact HN.out
          · exact Nat.lt_trans (List.pairwise_iff_getElem.1 HS.out t x ht hxl (by omega)) HN.out
        case measure => simp [intOf]; omega
      · have e1 : 0 ≤ cmpN F[x].num n := by unfold cmpN; rw [if_neg hc]; split <;> decide
        obtain ⟨c, hcc⟩ : ∃ c, c = cmpN F[x].num n := ⟨_, rfl⟩
        rw [← hcc] at mx e1
        have g1 : ¬ c < 0 := by omega
        have HN : Hid (n ≤ F[x].num) := Nat.le_of_not_lt hc
        clear hc hcc
        go_wp2_with fail
        refine mx.mono ?_
        rintro e w1 ⟨rfl, rfl⟩
        go_wp2
        go_roundw
        case rel =>
          have h2 := HX.out
          refine ⟨lo, x, by trivial, rfl, rfl, by omega, by omega, I1, fun t ht hl => ?_⟩
          by_cases e : t = x
          · subst e; exact HN.out
          · exact Nat.le_of_lt (Nat.lt_of_le_of_lt HN.out (List.pairwise_iff_getElem.1 HS.out x t hxl ht (by omega)))
        case measure => simp [intOf]; omega
    · obtain rfl : lo = hi := by omega
      have hpos : Pos F n lo := ⟨hin, I1.out, I2.out⟩
      by_cases hl : lo < F.length
      · have cx := HC.out lo hl
        have mx := HM.out lo hl
        have hil : decide (lo < F.length) = true := by simpa using hl
        have hget : F[lo]? = some F[lo] := List.getElem?_eq_getElem hl
        by_cases hc : F[lo].num = n
        · have e1 : cmpN F[lo].num n = 0 := by simp [cmpN, hc]
          rw [e1] at mx
          go_wp2_with fail
          refine mx.mono ?_
          rintro e w1 ⟨rfl, rfl⟩
          go_wp2
          go_ret2
          exact ⟨lo, hpos, by simp [isAt, hget, hc], rfl⟩
        · have e1 : cmpN F[lo].num n = 1 := by
            have := hpos.high lo hl (Nat.le_refl _)
            simp only [cmpN]
            rw [if_neg (by omega), if_pos (by omega)]
          rw [e1] at mx
          go_wp2_with fail
          refine mx.mono ?_
          rintro e w1 ⟨rfl, rfl⟩
          go_wp2
          go_ret2
          exact ⟨lo, hpos, by simp [isAt, hget, hc], rfl⟩
      · have hil : decide (lo < F.length) = false := by simpa using hl
        have hget : F[lo]? = none := List.getElem?_eq_none (by omega)
        go_wp2
        go_ret2
        exact ⟨lo, hpos, by simp [isAt, hget], rfl⟩

end Go.Proofs.YtpldfakfgngaaaaGreatDoor

namespace Go.Proofs.YtpldfakfgngaaaaGreatDoor
open Go.RowKit
attribute [local go_sem] size_bstr toList_bstr append_bstr

theorem keep_cell {W w5 : World} (hB : Below W.heap.size W w5) {g o : Nat} {v : Value} (h : W.cell? ⟨g, o, none⟩ = some v) : w5.cell? ⟨g, o, none⟩ = some v := by rw [(bcell hB).1 g o (World.block_lt_of_cell? W _ h)]; exact h
abbrev WF := List (Nat × List (List UInt8))
/-- All records, in order. -/
def flatF (F : WF) : List (List UInt8) := (F.map (fun x => x.2)).flatten
/-- Each file goes on where the one ahead ends. -/
def Chn : WF → Prop
  | [] => True
  | [_] => True
  | a :: b :: r => b.1 = a.1 + a.2.length ∧ Chn (b :: r)
theorem flatF_cons (x : Nat × List (List UInt8)) (F : WF) : flatF (x :: F) = x.2 ++ flatF F := by simp [flatF]
theorem flatF_append (A B : WF) : flatF (A ++ B) = flatF A ++ flatF B := by simp [flatF]
theorem chn_at : ∀ {F : WF}, Chn F → ∀ i (h : i < F.length), F[i].1 = fstF F + (flatF (F.take i)).length
  | [], _, i, h => by simp at h
  | [x], _, i, h => by
    have : i = 0 := by simpa using h
    subst this
    simp [fstF, flatF]
  | a :: b :: r, hc, 0, _ => by simp [fstF, flatF]
  | a :: b :: r, hc, i + 1, h => by
    have h2 := chn_at hc.2 i (by simpa using h)
    rw [List.getElem_cons_succ, h2, List.take_succ_cons, flatF_cons, List.length_append]
    show b.1 + _ = a.1 + _
    rw [hc.1]
    omega
theorem nxt_eq {F : WF} (h : Chn F) (hne : F ≠ []) : nxtF F = fstF F + (flatF F).length := by
  rcases snoc_cases F with rfl | ⟨A, x, rfl⟩
  · exact absurd rfl hne
  · have h1 := chn_at h A.length (by simp)
    rw [List.getElem_concat_length (by rfl), List.take_left] at h1
    rw [flatF_append, List.length_append]
    show nxtF (A ++ [x]) = _
    have e : nxtF (A ++ [x]) = x.1 + x.2.length := by simp [nxtF]
    rw [e, h1]
    simp [flatF]
    omega
/-- A record by its number. -/
theorem flat_at {F : WF} (h : Chn F) {i n : Nat} (hi : i < F.length) (h1 : F[i].1 ≤ n) (h2 : n - F[i].1 < F[i].2.length) : (flatF F)[n - fstF F]? = some F[i].2[n - F[i].1] := by
  have h3 := chn_at h i hi
  have e : F = F.take i ++ F[i] :: F.drop (i + 1) := by rw [← List.drop_eq_getElem_cons hi, List.take_append_drop]
  have e2 : flatF F = flatF (F.take i) ++ (F[i].2 ++ flatF (F.drop (i + 1))) := by
    rw [← flatF_cons, ← flatF_append, ← e]
  rw [e2, List.getElem?_append_right (by omega), List.getElem?_append_left (by omega), show n - fstF F - (flatF (F.take i)).length = n - F[i].1 by omega, List.getElem?_eq_getElem h2]
theorem pw_at {F : List Wf} {i : Nat} (hi : i < F.length) : (Pw F)[i]'(by simpa [Pw] using hi) = (F[i].num, F[i].recs) := by simp [Pw, pw]
theorem pw_len (F : List Wf) : (Pw F).length = F.length := by simp [Pw]

set_option maxHeartbeats 400000 in
theorem holder_any {k : Wk} {F : List Wf} {v : Value} (n : Nat) (w : World) (h : Wm w k F v) (hs : F.Pairwise (fun a b => a.num < b.num)) (hF : F.length ≤ 1000000) (h0 : 0 < F.length) (hn : fstF (Pw F) ≤ n) :
    Calls Tryz.prog 63 #[.pointer (some ⟨k.g, 0, none⟩), .int .u64 (n : Int)] w fun e w' => ∃ i, ∃ hi : i < F.length, F[i].num ≤ n ∧ (∀ t (ht : t < F.length), i < t → n < F[t].num) ∧ e = .returned (.int .i64 (i : Int)) ∧ w' = w := by
  have hse := search_any n w h hs hF h0
  obtain ⟨-, -, -, -, c4⟩ := cells5 h.blk
  have h00 : F[0].num ≤ n := by
    cases F with
    | nil => simp at h0
    | cons f F => exact hn
  have HS : Hid (F.Pairwise (fun a b => a.num < b.num)) := hs
  clear hs hn
  go_enter Tryz.func63, Tryz.ntmps63
  go_wp2_with fail
  refine hse.mono ?_
  rintro e w1 ⟨i, hp, rfl, rfl⟩
  have HP : Hid (Pos F n i) := hp
  by_cases he : isAt F i n = true
  · have hl : i < F.length := by
      rcases Nat.lt_or_ge i F.length with a | a
      · exact a
      · rw [isAt, List.getElem?_eq_none a] at he; cases he
    have hq : F[i].num = n := by
      rw [isAt, List.getElem?_eq_getElem hl] at he
      simpa using he
    have HQ : Hid (F[i].num = n) := hq
    rw [he]
    clear hp hq he
    go_wp2
    go_ret
    refine ⟨i, hl, Nat.le_of_eq HQ.out, fun t ht hit => ?_, rfl, rfl⟩
    have := List.pairwise_iff_getElem.1 HS.out i t hl ht hit
    have h2 := HQ.out
    omega
  · have he' : isAt F i n = false := by simpa using he
    have hne : ∀ (hl : i < F.length), F[i].num ≠ n := fun hl e => he (by rw [isAt, List.getElem?_eq_getElem hl]; simpa using e)
    have hi0 : 0 < i := by
      rcases Nat.eq_zero_or_pos i with e | e
      · subst e
        have := hp.high 0 h0 (Nat.le_refl _)
        have := hne h0
        omega
      · exact e
    have HNE : Hid (∀ (hl : i < F.length), F[i].num ≠ n) := hne
    have hile := hp.le
    have e1 : ((i : Int) - 1) = ((i - 1 : Nat) : Int) := by omega
    have E1 : Hid (((i : Int) - 1) = ((i - 1 : Nat) : Int)) := e1
    rw [he']
    clear hp e1 he he' hne
    go_wp2
    go_ret
    refine ⟨i - 1, by omega, Nat.le_of_lt (HP.out.low (i - 1) (by omega) (by omega)), fun t ht hit => ?_, by rw [← E1.out]; rfl, rfl⟩
    have h1 := HP.out.high t ht (by omega)
    by_cases e : t = i
    · subst e
      have := HNE.out ht
      omega
    · have h2 := List.pairwise_iff_getElem.1 HS.out i t (by omega) ht (by omega)
      have h3 := HP.out.high i (by omega) (Nat.le_refl _)
      omega

set_option maxHeartbeats 400000 in
set_option maxRecDepth 100000 in
theorem Get_ok {k : Wk} {F : List Wf} {v : Value} (n : Nat) (w : World) (h : Wm w k F v) (hs : F.Pairwise (fun a b => a.num < b.num)) (hc : Chn (Pw F)) (hF : F.length ≤ 1000000) (h1 : fstF (Pw F) ≤ n) (h2 : n < nxtF (Pw F)) (h64 : nxtF (Pw F) < 18446744073709551616) (h0 : 0 < F.length) (hr : ∀ f ∈ F, ∀ r ∈ f.recs, r.length ≤ 1048576) :
    Calls Tryz.prog 22 #[.pointer (some ⟨k.g, 0, none⟩), .int .u64 (n : Int)] w fun e w' => (∃ b, (flatF (Pw F))[n - fstF (Pw F)]? = some b ∧ e = .returned (.tuple #[.string (bstr b), .int .i64 0])) ∧ Below w.heap.size w w' := by
  have hno := wnone_any w h
  have hfi := First_any w h
  have hnx := fun w' (hb : Below w.heap.size w w') => Next_any w' (h.below hb) (by omega) h64
  have g1 : ¬ ((n : Int) < (fstF (Pw F) : Int)) := by omega
  have g2 : ¬ ((nxtF (Pw F) : Int) ≤ (n : Int)) := by omega
  have key : ∀ i (hi : i < F.length), F[i].num ≤ n → (∀ t (ht : t < F.length), i < t → n < F[t].num) → n - F[i].num < F[i].recs.length := by
    intro i hi ha hb
    have ci := chn_at hc i (by rw [pw_len]; exact hi)
    rw [pw_at hi] at ci
    by_cases hlast : i + 1 < F.length
    · have h3 := hb (i + 1) hlast (by omega)
      have cj := chn_at hc (i + 1) (by rw [pw_len]; exact hlast)
      rw [pw_at hlast, List.take_succ_eq_append_getElem (by rw [pw_len]; exact hi), flatF_append, List.length_append, pw_at hi] at cj
      simp [flatF] at ci cj
      omega
    · have hne : Pw F ≠ [] := fun e => by have := pw_len F; rw [e] at this; simp at this; omega
      have h4 := nxt_eq hc hne
      have e : Pw F = (Pw F).take i ++ [(Pw F)[i]'(by rw [pw_len]; exact hi)] := by
        rw [← List.take_succ_eq_append_getElem (by rw [pw_len]; exact hi), List.take_of_length_le (by rw [pw_len]; omega)]
      have h5 : (flatF (Pw F)).length = (flatF ((Pw F).take i)).length + F[i].recs.length := by
        rw [e, flatF_append, List.length_append, pw_at hi]
        have : (List.take i (List.take i (Pw F) ++ [(F[i].num, F[i].recs)])) = List.take i (Pw F) := by
          rw [List.take_append_of_le_length (by rw [List.length_take, pw_len]; omega), List.take_take]
          simp
        rw [this]
        simp [flatF]
      simp at ci
      omega
  have flat : ∀ i (hi : i < F.length) (ha : F[i].num ≤ n) (hb : n - F[i].num < F[i].recs.length), (flatF (Pw F))[n - fstF (Pw F)]? = some F[i].recs[n - F[i].num] := by
    intro i hi ha hb
    have := flat_at hc (i := i) (n := n) (by rw [pw_len]; exact hi) (by rw [pw_at hi]; exact ha) (by rw [pw_at hi]; exact hb)
    rw [this]
    simp only [pw_at hi]
  have KEY : Hid _ := key
  have FLAT : Hid _ := flat
  clear key flat
  generalize hfe : flatF (Pw F) = fl at *
  clear hfe
  go_enter Tryz.func22, Tryz.ntmps22
  go_wp2_with fail
  refine hno.mono ?_
  rintro e w0 ⟨rfl, hw0⟩
  obtain rfl : w = w0 := hw0.symm
  clear hw0
  go_wp2_with fail
  refine hfi.mono ?_
  rintro e w0 ⟨rfl, hw0⟩
  obtain rfl : w = w0 := hw0.symm
  clear hw0
  go_wp2_with fail
  refine (hnx w (Below.refl _ _)).mono ?_
  rintro e w1 ⟨rfl, hb1⟩
  have hW1 := h.below hb1
  have hlen := ptrV_len F
  obtain ⟨g, off, cap, hv, -⟩ := hW1.row.cell (i := 0) (by rw [hlen]; exact h0)
  have hcell : ∀ t (ht : t < F.length), w1.drew.cell? ⟨g, off + t, none⟩ = some (.pointer (some ⟨F[t].g, 0, none⟩)) := fun t ht => by
    obtain ⟨g', off', cap', hv', hc'⟩ := hW1.row.cell (i := t) (by rw [hlen]; exact ht)
    rw [hv] at hv'
    cases hv'
    show w1.cell? ⟨g, off + t, none⟩ = _
    rw [hc']
    simp [ptrV]
  have HC : Hid _ := hcell
  have c4 : w1.cell? ⟨k.g, 4, none⟩ = some (.slice (some ⟨g, off, none⟩) F.length cap) := by
    rw [← hlen, ← hv]; exact (cells5 hW1.blk).2.2.2.2
  have hho := holder_any n w1.drew hW1.drew hs hF h0 h1
  clear hcell hlen hv hs hc h1 h2
  go_wp2_with fail
  go_region_held3 (fun w' => w'.cell? ⟨k.g, 4, none⟩ = some (.slice (some ⟨g, off, none⟩) F.length cap) ∧ ∀ t (ht : t < F.length), w'.cell? ⟨g, off + t, none⟩ = some (.pointer (some ⟨F[t].g, 0, none⟩))) (first | with_reducible exact ⟨c4, HC.out⟩ | exact ⟨c4, HC.out⟩)
    ((go_at_call 63; refine hho.mono ?_; rintro e w2 ⟨i, hi, a1, a2, rfl, rfl⟩; have cx := HC.out i hi; have hil : (i : Int) < (F.length : Int) := by omega))
  have hrl := KEY.out i hi a1 a2
  have hfl := FLAT.out i hi a1 hrl
  have hwf := hW1.drew.fl F[i] (List.getElem_mem hi)
  have hrr := hr F[i] (List.getElem_mem hi) F[i].recs[n - F[i].num] (List.getElem_mem hrl)
  obtain ⟨-, b1, -, b3⟩ := cells4 hwf.blk
  obtain ⟨g3, off3, cap3, hv3, c3⟩ := hwf.row.cell (i := n - F[i].num) (by rw [strV_len]; exact hrl)
  have hx3 : (strV F[i].recs)[n - F[i].num]'(by rw [strV_len]; exact hrl) = .string (bstr F[i].recs[n - F[i].num]) := by simp [strV]
  rw [hx3] at c3
  rw [hv3, strV_len] at b3
  clear hx3 hv3 hwf a2 cx c4 hno hfi hnx hho hr
  have HFL : Hid _ := hfl
  clear hfl
  generalize F[i].recs[n - F[i].num] = b at *
  generalize F[i] = f at *
  obtain ⟨x, hx⟩ : ∃ x, x = n - f.num := ⟨_, rfl⟩
  rw [← hx] at c3 hrl
  have d0 : (n : Int) - (f.num : Int) = (x : Int) := by omega
  have d1 : (x : Int) < (f.recs.length : Int) := by omega
  have d2 : (0 : Int) ≤ (x : Int) := by omega
  have d3 : (x : Int) < 18446744073709551616 := by omega
  have d4 : IntKind.u64.wrap (x : Int) = (x : Int) := by rw [IntKind.wrap_u64]; omega
  have d5 : (x : Int) % 18446744073709551616 = (x : Int) := by omega
  clear hx
  have hB : Below w.heap.size w w1.drew := hb1.trans ((below_drewN (Below.refl w1.heap.size w1) 1).mono hb1.size)
  generalize w1.drew = W at *
  go_wp2_with fail
  go_region_held3 (fun w' => w'.cell? ⟨f.g, 1, none⟩ = some (.int .u64 (f.num : Int)) ∧ w'.cell? ⟨f.g, 3, none⟩ = some (.slice (some ⟨g3, off3, none⟩) f.recs.length cap3) ∧ w'.cell? ⟨g3, off3 + x, none⟩ = some (.string (bstr b))) (first | with_reducible exact ⟨b1, b3, c3⟩ | with_reducible exact ⟨q1, q3, q5⟩ | go_keep)
    ((go_at_call 39; refine (CClone_any b _ (by omega)).mono ?_; rintro e w5 ⟨rfl, hb5⟩; have hB5 : Below W.heap.size W w5 := (below_drewN (Below.refl _ _) 1).trans hb5; have q1 : w5.cell? ⟨f.g, 1, none⟩ = some (.int .u64 (f.num : Int)) := keep_cell hB5 b1; have q3 : w5.cell? ⟨f.g, 3, none⟩ = some (.slice (some ⟨g3, off3, none⟩) f.recs.length cap3) := keep_cell hB5 b3; have q5 : w5.cell? ⟨g3, off3 + x, none⟩ = some (.string (bstr b)) := keep_cell hB5 c3))
  go_wp2
  go_ret2
  exact ⟨⟨b, HFL.out, rfl⟩, hB.trans (hB5.mono hB.size)⟩

end Go.Proofs.YtpldfakfgngaaaaGreatDoor

