/-
  The walk of the law WireBack over this seat's translation: it returns true, and of what was there nothing has turned.
-/
import Derived.Test.YtbkalfpgeclibaaWorks
import Derived.Test.YtbkalfpgeclibaaBackFn
import Derived.BigQuiet
namespace Go.Proofs.Ytbkalfpgeclibaa
open Go.RowKit Go.BigFrame
attribute [local go_sem] size_bstr getElem_bstr toList_bstr append_bstr

theorem b_step {w a b : World} (h : Below w.heap.size w a) (k : Below a.heap.size a b) : Below w.heap.size w b := h.trans (k.mono h.size)
theorem b_grown {w a b : World} {g : Nat} (h : Below w.heap.size w a) (k : a.grownBy b (some g)) (hg : w.heap.size ≤ g) : Below w.heap.size w b :=
  h.grown k h.size (fun j hj => by cases hj; exact hg)
theorem b_drewN {B : Nat} {a w : World} (h : Below B a w) (n : Nat) : Below B a (w.drewN n) := ⟨h.os, h.tape, h.output, h.size, h.block⟩

theorem val_str {a b : ByteArray} (h : a = b) : Value.string a = .string b := by rw [h]

/-- The cells of the things. -/
def ThAt (w : World) (b off : Nat) (ths : List Th) : Prop :=
  ∀ i (h : i < ths.length), w.cell? ⟨b, off + i * 3, none⟩ = some (.bool ths[i].t) ∧ w.cell? ⟨b, off + i * 3 + 1, none⟩ = some (.int .u64 (ths[i].n : Int)) ∧ w.cell? ⟨b, off + i * 3 + 2, none⟩ = some (.string (bstr ths[i].s))

theorem ThAt.below {w w' : World} {b off B : Nat} {ths : List Th} (h : ThAt w b off ths) (hb : Below B w w') (hB : b < B) : ThAt w' b off ths := fun i hi => by
  obtain ⟨c0, c1, c2⟩ := h i hi
  exact ⟨(hb.cell (p := ⟨b, off + i * 3, none⟩) hB).trans c0, (hb.cell (p := ⟨b, off + i * 3 + 1, none⟩) hB).trans c1, (hb.cell (p := ⟨b, off + i * 3 + 2, none⟩) hB).trans c2⟩

theorem ThAt.grown {w w' : World} {b off g : Nat} {ths : List Th} (h : ThAt w b off ths) (hg : w.grownBy w' (some g)) (hbg : b < g) (hlt : b < w.heap.size) : ThAt w' b off ths := fun i hi => by
  have hb : w'.heap[b]? = w.heap[b]? := hg.block b hlt (by simp; omega)
  obtain ⟨c0, c1, c2⟩ := h i hi
  exact ⟨(World.cell?_of_block (a := ⟨b, off + i * 3, none⟩) hb).trans c0, (World.cell?_of_block (a := ⟨b, off + i * 3 + 1, none⟩) hb).trans c1, (World.cell?_of_block (a := ⟨b, off + i * 3 + 2, none⟩) hb).trans c2⟩

set_option maxHeartbeats 2000000 in
set_option maxRecDepth 100000 in
theorem back_walk (ths : List Th) (b off cap : Nat) (B : List UInt8) (w : World) (hc : ThAt w b off ths) (hbw : b < w.heap.size) (hn : ∀ x ∈ ths, x.n < 18446744073709551616) (hlen : ths.length ≤ 9223372036854775807) :
    Calls Try.prog 4 #[.slice (some ⟨b, off, none⟩) ths.length cap, .string (bstr B)] w fun e w' => e = .returned (.bool true) ∧ Below w.heap.size w w' := by
  have hsl := fun w : World => run_cut (P := Try.prog) 9 B 1000 1000 rfl w Try.underlying9
  have hle : (B.take 1000).length ≤ 1000 := List.length_take_le _ _
  generalize B.take 1000 = beh at *
  obtain ⟨N, hN, hN30, hNl⟩ : ∃ N : Nat, min (ths.length : Int) 30 = (N : Int) ∧ N ≤ 30 ∧ N ≤ ths.length := ⟨min ths.length 30, by omega, by omega, by omega⟩
  go_enter Try.func4, Try.ntmps4
  go_wp2
  go_loopw [5, 7] (fun vs vi wr => ∃ k : Nat, vi = .int .i64 k ∧ k ≤ N ∧ vs = .string (bstr (encs (ths.take k))) ∧ Below w.heap.size w wr) (fun _ vi _ => N - (intOf vi).toNat)
  case atStart => exact ⟨0, rfl, by omega, rfl, Below.refl _ _⟩
  case round =>
    obtain ⟨k, rfl, hk, rfl, hbel⟩ := hrel
    by_cases hlt : k < N
    · have hlt' : (k : Int) < (N : Int) := by omega
      have hk0 : (0 : Int) ≤ (k : Int) := by omega
      have hkl : (k : Int) < (ths.length : Int) := by omega
      obtain ⟨c0, c1, c2⟩ := (hc.below hbel hbw) k (by omega)
      have hes := encs_take (l := ths) (k := k) (by omega)
      have hx := hn (ths[k]) (by simp)
      have hl2 := encs_length (ths.take k) (fun y hy => hn y (List.mem_of_mem_take hy))
      have hl3 : (ths.take k).length ≤ k := List.length_take_le _ _
      have HE : Hid (encs (ths.take (k + 1)) = encs (ths.take k) ++ enc1 (ths[k])) := hes
      generalize ths[k] = x at *
      obtain ⟨xt, xn, xs⟩ := x
      clear hes
      generalize encs (ths.take k) = E at *
      cases xt with
      | true =>
        have hcut := fun w : World => run_cut (P := Try.prog) 9 xs 300 300 rfl w Try.underlying9
        have hle3 : (xs.take 300).length ≤ 300 := List.length_take_le _ _
        have c2' := fun d os => cell_regrown c2 d os
        have HE2 : Hid (encs (ths.take (k + 1)) = E ++ (Lib.uvarint (xs.take 300).length ++ xs.take 300)) := HE.out
        clear HE
        generalize xs.take 300 = y at *
        go_wp2_with fail
        refine wp_region_quiet_below (by kernel_rfl) (by kernel_rfl) ?_
        repeat (go_big_quiet_step ((go_at_call 12; exact Calls.regrown_of (PutText_any _ _ _ (by rw [size_bstr]; omega) (by rw [size_bstr]; omega)))))
        refine wpQuiet_nil ?_
        intro _ hw'
        obtain ⟨⟨dq, osq⟩, hw''⟩ := hw'
        subst hw''
        have hb2 := b_step hbel (below_regrown wr dq osq)
        clear c0 c1 c2 c2' hbel
        go_wp2
        go_roundw
        case rel => exact ⟨k + 1, by go_num, by omega, val_str (by rw [HE2.out]; simp only [append_bstr, size_bstr, List.append_assoc]), hb2⟩
        case measure => simp [intOf]; omega
      | false =>
        have HE2 : Hid (encs (ths.take (k + 1)) = E ++ Lib.uvarint xn) := HE.out
        have hx' : xn < 18446744073709551616 := hx
        clear HE hx
        go_wp2_with fail
        refine (PutNumber_any (bstr E) xn _ hx' (by rw [size_bstr]; omega)).mono ?_
        rintro e w2 ⟨rfl, hbq⟩
        have hb2 := b_step hbel hbq
        clear c0 c1 c2 hbel hbq
        go_wp2
        go_roundw
        case rel => exact ⟨k + 1, by go_num, by omega, val_str (by rw [HE2.out]), hb2⟩
        case measure => simp [intOf]; omega
    · obtain ⟨wy, hwy⟩ : ∃ wy, wy = wr := ⟨_, rfl⟩
      subst hwy
      have hkN : k = N := by omega
      subst hkN
      have hl2 := encs_length (ths.take k) (fun y hy => hn y (List.mem_of_mem_take hy))
      have hl3 : (ths.take k).length ≤ k := List.length_take_le _ _
      obtain ⟨us, hus, huk⟩ : ∃ us, us = ths.take k ∧ us.length = k := ⟨_, rfl, by rw [List.length_take]; omega⟩
      have hcs : ThAt wy b off us := fun i hi => by
        have := (hc.below hbel hbw) i (by omega)
        subst hus
        simpa using this
      have hns : ∀ x ∈ us, x.n < 18446744073709551616 := fun x hx => hn x (List.mem_of_mem_take (by rw [← hus]; exact hx))
      rw [← hus] at hl2 hl3 ⊢
      clear hus
      go_wp2_with fail
      refine (New_any _ _).mono ?_
      rintro e w3 ⟨rfl, hr, hb3⟩
      have hb3' := b_step hbel hb3
      have hcs3 := hcs.below hb3 (Nat.lt_of_lt_of_le hbw hbel.size)
      have hgb : w.heap.size ≤ wy.heap.size := hbel.size
      clear hbel hb3 hcs hc hn
      go_wp2
      go_loopw [9] (fun vi wx => ∃ j : Nat, vi = .int .i64 j ∧ j ≤ k ∧ Rd wx wy.heap.size (bstr (encs (us.drop j) ++ beh)) ∧ ThAt wx b off us ∧ Below w.heap.size w wx ∧ wy.heap.size < wx.heap.size) (fun vi _ => k - (intOf vi).toNat)
      case atStart => exact ⟨0, rfl, by omega, hr, hcs3, hb3', hr.lt⟩
      case round =>
        obtain ⟨j, rfl, hj, hrj, hcj, hbj, hgx⟩ := hrel
        clear hr hcs3 hb3'
        have hbg : b < wy.heap.size := by omega
        by_cases hjl : j < k
        · have hjl' : (j : Int) < (k : Int) := by omega
          have hj0 : (0 : Int) ≤ (j : Int) := by omega
          have hjt : (j : Int) < (ths.length : Int) := by omega
          obtain ⟨c0, c1, c2⟩ := hcj j (by omega)
          have hed := encs_drop (l := us) (k := j) (by omega)
          have hxn := hns (us[j]) (by simp)
          have hel := encs_length us hns
          have hel2 : (encs (us.drop j)).length ≤ (encs us).length := by
            have := encs_append (us.take j) (us.drop j)
            rw [List.take_append_drop] at this
            rw [this, List.length_append]
            omega
          rw [hed] at hrj hel2
          clear hed
          generalize us[j] = x at *
          obtain ⟨R, hR⟩ : ∃ R, R = encs (us.drop (j + 1)) := ⟨_, rfl⟩
          rw [← hR] at hrj hel2
          have hRe : Hid (encs (us.drop (j + 1)) = R) := hR.symm
          clear hR
          obtain ⟨xt, xn, xs⟩ := x
          cases xt with
          | true =>
            have hcut := fun w : World => run_cut (P := Try.prog) 9 xs 300 300 rfl w Try.underlying9
            have hle3 : (xs.take 300).length ≤ 300 := List.length_take_le _ _
            have hrj' : Rd wr wy.heap.size (bstr (Lib.uvarint (xs.take 300).length ++ (xs.take 300 ++ (R ++ beh)))) := by
              have e : enc1 ⟨true, xn, xs⟩ ++ R ++ beh = Lib.uvarint (xs.take 300).length ++ (xs.take 300 ++ (R ++ beh)) := by simp [enc1]
              rw [← e]
              exact hrj
            have hll : (Lib.uvarint (xs.take 300).length ++ (xs.take 300 ++ (R ++ beh))).length ≤ 10000000000 := by
              have e : enc1 ⟨true, xn, xs⟩ ++ R = Lib.uvarint (xs.take 300).length ++ (xs.take 300 ++ R) := by simp [enc1]
              rw [e] at hel2
              simp only [List.length_append] at hel2 ⊢
              omega
            clear hrj hel2
            have HN : Hid (numOf (Lib.uvarint (xs.take 300).length ++ (xs.take 300 ++ (R ++ beh))) = ((xs.take 300).length, (Lib.uvarint (xs.take 300).length).length)) := numOf_uvarint _ (by omega) _
            generalize xs.take 300 = y at *
            have hup := Lib.uvarint_pos y.length
            go_wp2_with fail
            refine (Text_yes _ _ y.length (Lib.uvarint y.length).length 300 _ hrj' hll HN.out (by omega) (by omega) (by omega) (by simp only [List.length_append]; omega)).mono ?_
            rintro e w4 ⟨rfl, hr4, hg4⟩
            rw [text_at]
            rw [text_rest] at hr4
            have hb4 := b_grown hbj hg4 hgb
            have hcj4 : ThAt w4 b off us := hcj.grown hg4 hbg (by omega)
            have hc4 : w4.cell? ⟨b, off + j * 3 + 2, none⟩ = some (.string (bstr xs)) := (World.cell?_of_block (a := ⟨b, off + j * 3 + 2, none⟩) (hg4.block b (by omega) (by simp; omega))).trans c2
            have hsz4 : wy.heap.size < w4.heap.size := Nat.lt_of_lt_of_le hgx hg4.size
            clear c0 c1 c2 hcj hbj hg4 hrj' HN hll
            go_wp2_with fail
            go_quiet (fail)
            have hb5 := b_drewN hb4 nq
            have hr5 : Rd (w4.drewN nq) wy.heap.size (bstr (R ++ beh)) := hr4
            have hcj5 : ThAt (w4.drewN nq) b off us := hcj4
            clear hb4 hr4 hcj4
            go_wp2
            go_roundw
            case rel => exact ⟨j + 1, by go_num, by omega, by rw [hRe.out]; exact hr5, hcj5, hb5, hsz4⟩
            case measure => simp [intOf]; omega
          | false =>
            have hrj' : Rd wr wy.heap.size (bstr (Lib.uvarint xn ++ (R ++ beh))) := by
              have e : enc1 ⟨false, xn, xs⟩ ++ R ++ beh = Lib.uvarint xn ++ (R ++ beh) := by simp [enc1]
              rw [← e]
              exact hrj
            have hxn' : xn < 18446744073709551616 := hxn
            have hll : (Lib.uvarint xn ++ (R ++ beh)).length ≤ 10000000000 := by
              have e : enc1 ⟨false, xn, xs⟩ ++ R = Lib.uvarint xn ++ R := by simp [enc1]
              rw [e] at hel2
              simp only [List.length_append] at hel2 ⊢
              omega
            clear hrj hel2 hxn
            have HN : Hid (numOf (Lib.uvarint xn ++ (R ++ beh)) = (xn, (Lib.uvarint xn).length)) := numOf_uvarint _ hxn' _
            have hup := Lib.uvarint_pos xn
            go_wp2_with fail
            refine (Number_yes _ _ xn (Lib.uvarint xn).length _ hrj' hll HN.out (by omega)).mono ?_
            rintro e w4 ⟨rfl, hr4, hg4⟩
            rw [num_rest] at hr4
            have hb4 := b_grown hbj hg4 hgb
            have hcj4 : ThAt w4 b off us := hcj.grown hg4 hbg (by omega)
            have hc4 : w4.cell? ⟨b, off + j * 3 + 1, none⟩ = some (.int .u64 (xn : Int)) := (World.cell?_of_block (a := ⟨b, off + j * 3 + 1, none⟩) (hg4.block b (by omega) (by simp; omega))).trans c1
            have hsz4 : wy.heap.size < w4.heap.size := Nat.lt_of_lt_of_le hgx hg4.size
            clear c0 c1 c2 hcj hbj hg4 hrj' HN hll
            go_wp2
            go_roundw
            case rel => exact ⟨j + 1, by go_num, by omega, by rw [hRe.out]; exact hr4, hcj4, hb4, hsz4⟩
            case measure => simp [intOf]; omega
        · have hjk : j = k := by omega
          subst hjk
          rw [List.drop_of_length_le (by omega), encs, List.nil_append] at hrj
          have htb : beh.take beh.length = beh := List.take_length
          have hdb : beh.drop beh.length = [] := List.drop_length
          go_wp2_with fail
          refine (Take_yes _ beh beh.length _ hrj (by omega) (Nat.le_refl _)).mono ?_
          rintro e w4 ⟨rfl, hr4, hg4⟩
          rw [htb]
          rw [hdb] at hr4
          have hb4 := b_grown hbj hg4 hgb
          clear hcj hbj hg4 hrj htb hdb
          go_wp2_with fail
          refine (Left_any _ [] _ hr4).mono ?_
          rintro e w5 ⟨rfl, rfl⟩
          go_wp2_with fail
          refine (works_any _).mono ?_
          rintro e w6 ⟨rfl, hb6⟩
          have hb7 := b_step hb4 hb6
          go_wp2
          go_ret
          exact ⟨rfl, hb7⟩

end Go.Proofs.Ytbkalfpgeclibaa
