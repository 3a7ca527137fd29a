/-
  The law DiskPlays, walked.
-/
import Derived.Test.YtbnenpfphbdmpaaXStep5
import Derived.Deep.Cut
import Derived.Deep.CutBlock
namespace Go.Proofs.Ytbnenpfphbdmpaa
open Go.RowKit
attribute [local go_sem] size_bstr toList_bstr append_bstr

theorem St.on {B : Nat} {w0 W W' : World} {d m : Nat} {L : List Fl} {fr N R : Nat} {q : Option Addr} {cap : Nat} (h : St B w0 W d m L fr N R q cap) (hb : Below W.heap.size W W') : St B w0 W' d m L fr N R q cap := ⟨h.dw.on hb, h.fa.below hb, h.room⟩

/-- A list of texts of its own: it may be written. -/
def LB (W : World) (q : Option Addr) (n B : Nat) : Prop := 0 < n → ∃ g cur, q = some ⟨g, 0, none⟩ ∧ W.heap[g]? = some (.cells cur 9 (0, 0)) ∧ n ≤ cur.size ∧ B ≤ g
theorem LB.of_own {w : World} {B : Nat} {q : Option Addr} {n cap : Nat} {A : List (List UInt8)} (h : w.ownsRow B 9 1 (.slice q n cap) A.length (A.map encStr)) : LB w q n B := by
  intro h0
  rcases h.2 with ⟨h1, h2⟩ | ⟨g, cap', cur, h1, hbg, hg, hnc, h2, h3, h4⟩
  · simp only [Value.slice.injEq] at h1
    omega
  · simp only [Value.slice.injEq] at h1
    obtain ⟨rfl, rfl, rfl⟩ := h1
    exact ⟨g, cur, rfl, hg, by omega, hbg⟩
theorem LB.below {W W' : World} {q : Option Addr} {n B : Nat} (h : LB W q n B) (hb : Below W.heap.size W W') : LB W' q n B := fun h0 => by
  obtain ⟨g, cur, h1, h2, h3, h4⟩ := h h0
  exact ⟨g, cur, h1, (hb.block g (Array.getElem?_eq_some_iff.1 h2).1).trans h2, h3, h4⟩
theorem LB.set {W : World} {g n B : Nat} (h : LB W (some ⟨g, 0, none⟩) n B) (k : Nat) (v : Value) : LB (W.setCell ⟨g, k, none⟩ v) (some ⟨g, 0, none⟩) n B := fun h0 => by
  obtain ⟨g', cur, h1, h2, h3, h4⟩ := h h0
  simp only [Option.some.injEq, Addr.mk.injEq, and_true] at h1
  subst h1
  exact ⟨g, _, rfl, block_set h2 k v, by simpa using h3, h4⟩
theorem Pu_nm {w : World} {d m fr N : Nat} {L : List Fl} (h : Dk w d m L fr N) : ∀ f ∈ Pu L, f.1.length ≤ 64 := fun f hf => by
  obtain ⟨x, hx, rfl⟩ := List.mem_map.1 hf
  exact (h.fl x hx).nm.2
theorem Read_at {w : World} {d m fr N : Nat} {L : List Fl} (h : Dk w d m L fr N) {j : Nat} (hj : j < (Pu L).length) :
    Calls Try.prog 18 #[.pointer (some ⟨d, 0, none⟩), .string (bstr (Pu L)[j].1)] w fun e w' => e = .returned (.tuple #[.string (bstr (Pu L)[j].2.1), .int .i64 0]) ∧ w' = w := by
  have hj' : j < L.length := by simpa [Pu] using hj
  have e : (Pu L)[j] = pu L[j] := by simp [Pu]
  rw [e]
  have hl := lk_mem h.srt (List.getElem_mem hj')
  have := Read_any L[j].name w h (by have := (h.fl _ (List.getElem_mem hj')).nm.2; unfold maxLen; omega)
  rw [hl] at this
  exact this
theorem lst_len (p : List UInt8) (L : List Fl) : (lst p L).length ≤ L.length := by
  unfold lst nms
  exact Nat.le_trans (List.length_filter_le _ _) (by simp)

set_option maxHeartbeats 8000000 in
set_option maxRecDepth 100000 in
theorem plays_any (room : Int) (q : Option Addr) (cap : Nat) (xs : List DoV) (w : World) (hx : DArg w w.heap.size q xs) (hsum : (xs.map (fun x => x.data.length)).sum ≤ 1048576) (hnm : ∀ x ∈ xs, x.name.length ≤ 1048576 ∧ x.keep.length ≤ 1048576) (hr : room ≤ 9223372036854775807) :
    Calls Try.prog 3 #[.int .i64 room, .slice q xs.length cap] w fun e w' => e = .returned (.bool true) ∧ Below w.heap.size w w' := by
  go_enter Try.func3, Try.ntmps3
  go_wp2_with fail
  refine (New_any room _).mono ?_
  rintro e w2 ⟨d, m, rfl, hD, hb, hft⟩
  have h1 : Dw w.heap.size w w2 d m [] room.toNat 0 := Dw.made (Nat.le_refl _) (Below.refl _ _) hD hb hft
  have hszw := hb.size
  have hRN := RNew_any room w2
  have hRR : room.toNat ≤ 9223372036854775807 := by omega
  clear hD hb hft
  generalize room.toNat = R at *
  go_wp2_with fail
  refine hRN.mono ?_
  rintro e w3 ⟨rfl, hb3⟩
  clear hRN
  have hal := (Below.refl w3.heap.size w3).alloc (Nat.le_refl _) (.cells #[.int .i64 (R : Int), .slice none 0 0] 27)
  have hM0 := boxed w3 (.int .i64 (R : Int)) (.slice none 0 0) 27
  have hS0 : St w.heap.size w (w3.alloc (.cells #[.int .i64 (R : Int), .slice none 0 0] 27)) d m [] R 0 R none 0 := ⟨(h1.on hb3).on hal, ⟨Or.inl ⟨rfl, rfl, rfl⟩, Nat.le_refl _⟩, by simp [tot]⟩
  have hMB : w.heap.size ≤ w3.heap.size := Nat.le_trans hszw hb3.size
  clear h1 hal hb3 hszw
  go_wp2_with fail
  generalize w3.alloc (.cells #[.int .i64 (R : Int), .slice none 0 0] 27) = W at *
  generalize w3.heap.size = M at *
  go_loopw [5, 7] (fun s5 s7 wr => ∃ (i d m : Nat) (L : List Fl) (fr : Nat) (q' : Option Addr) (cap' : Nat), s7 = .int .i64 (i : Int) ∧ s5 = .pointer (some ⟨d, 0, none⟩) ∧ i ≤ xs.length ∧ i ≤ 200 ∧ St w.heap.size w wr d m L fr i R q' cap' ∧ wr.heap[M]? = some (.cells #[.int .i64 (R : Int), .slice q' (Pu L).length cap'] 27 (0, 0)) ∧ Hid (tot L ≤ dsm xs i)) (fun _ s7 _ => 200 - (intOf s7).toNat)
  case atStart => exact ⟨0, d, m, [], R, none, 0, rfl, rfl, Nat.zero_le _, by decide, hS0, hM0, Nat.zero_le _⟩
  case round =>
    obtain ⟨i, d, m, L, fr, q', cap', rfl, rfl, hi, hi2, hS, hM, hds⟩ := hrel
    clear hS0 hM0
    by_cases hgo : i < xs.length ∧ i < 200
    · obtain ⟨hlt, hlt1⟩ := hgo
      obtain ⟨bl, ol, rfl, hbl, hcl⟩ := hx (by omega)
      obtain ⟨hA, hI⟩ := hcl i hlt
      obtain ⟨c0, c1, c2, c3⟩ := hA.block (hS.dw.bel.block bl hbl)
      obtain ⟨hnl, hkl⟩ := hnm xs[i] (List.getElem_mem hlt)
      have hds1 := dsm_succ hlt
      have hdl : dsm xs (i + 1) ≤ 1048576 := Nat.le_trans (dsm_le xs _) hsum
      have hil : (i : Int) < (xs.length : Int) := by omega
      have hi3 : (i : Int) < 200 := by omega
      have hst := fun (X : World) (hb : Below wr.heap.size wr X) => step_any (w := X) xs[i] (hS.on hb) hI hkl hnl (by have := hds.out; omega) hRR (by omega)
      have m0 := (cells_block hM).1 0
      have m1 := (cells_block hM).1 1
      have hMl := (Array.getElem?_eq_some_iff.1 hM).1
      have hblr : bl < wr.heap.size := Nat.lt_of_lt_of_le hbl (Nat.le_trans hS.dw.hB hS.dw.bel.size)
      clear hcl hI hnm
      generalize xs[i] = x at *
      go_wp2_with fail
      go_cut [8, 9, 10] from 1000 (fun s8 s9 s10 wx => ∃ (d' m' : Nat) (L' : List Fl) (fr' : Nat) (q2 : Option Addr) (cap2 g : Nat), s8 = .pointer (some ⟨d', 0, none⟩) ∧ s9 = .pointer (some ⟨g, 0, none⟩) ∧ s10 = .bool true ∧ St w.heap.size w wx d' m' L' fr' (i + 1) R q2 cap2 ∧ wx.heap[g]? = some (.cells #[.int .i64 (R : Int), .slice q2 (Pu L').length cap2] 27 (0, 0)) ∧ g ≠ M ∧ wx.heap[M]? = some (.cells #[.int .i64 (R : Int), .slice q' (Pu L).length cap'] 27 (0, 0)) ∧ tot L' ≤ tot L + x.data.length)
      case rest =>
        obtain ⟨d', m', L', fr', q2, cap2, g, rfl, rfl, rfl, hS1, hg, hgM, hM1, hle⟩ := hcut
        have g0 := (cells_block hg).1 0
        have g1 := (cells_block hg).1 1
        have n0 := (cells_block hM1).1 0
        have n1 := (cells_block hM1).1 1
        have n2 := (cells_block hM1).2 0
        have n3 := (cells_block hM1).2 1
        have hS2 : St w.heap.size w ((wc.setCell ⟨M, 0, none⟩ (.int .i64 (R : Int))).setCell ⟨M, 1, none⟩ (.slice q2 (Pu L').length cap2)) d' m' L' fr' (i + 1) R q2 cap2 := hS1.put hM1 hMB (.int .i64 (R : Int)) (.slice q2 (Pu L').length cap2)
        have hM2 : ((wc.setCell ⟨M, 0, none⟩ (.int .i64 (R : Int))).setCell ⟨M, 1, none⟩ (.slice q2 (Pu L').length cap2)).heap[M]? = some (.cells #[.int .i64 (R : Int), .slice q2 (Pu L').length cap2] 27 (0, 0)) := set2_block hM1 (.int .i64 (R : Int)) (.slice q2 (Pu L').length cap2)
        clear hst m0 m1 c0 c1 c2 c3 hS hM hMl
        go_wp2_with fail
        clear g0 g1 n0 n1 n2 n3 hg hgM hM1 hS1
        generalize (wc.setCell ⟨M, 0, none⟩ (.int .i64 (R : Int))).setCell ⟨M, 1, none⟩ (.slice q2 (Pu L').length cap2) = Z at *
        have hMZ := (Array.getElem?_eq_some_iff.1 hM2).1
        have hPl : (Pu L').length ≤ 1000000 := by have := hS2.dw.dk.len; simp only [Pu, List.length_map]; omega
        have hof := fun (X : World) (hb : Below Z.heap.size Z X) => ROf_any R cap2 q2 (Pu L') x.name X (hS2.fa.below hb) (Pu_srt hS2.dw.dk.srt) hPl
        have hsv := (ofP_Pu x.name L').2.1
        generalize ofP x.name (Pu L') = f3 at *
        obtain ⟨n3, b3, s3⟩ := f3
        have HV : Hid _ := hsv
        clear hsv
        obtain ⟨c0, c1, c2, c3⟩ := hA.block (hS2.dw.bel.block bl hbl)
        have m0 := (cells_block hM2).1 0
        have m1 := (cells_block hM2).1 1
        have hblZ : bl < Z.heap.size := Nat.lt_of_lt_of_le hbl (Nat.le_trans hS2.dw.hB hS2.dw.bel.size)
        go_cut [11] from 1000 (fun s11 wx => ∃ (g2 : Nat), s11 = .pointer (some ⟨g2, 0, none⟩) ∧ wx.heap[g2]? = some (.cells #[.string (bstr n3), .string (bstr b3), .int .i64 (s3 : Int)] 35 (0, 0)) ∧ Below Z.heap.size Z wx)
        case rest =>
          obtain ⟨g2, rfl, hg2, hbx⟩ := hcut
          have hS3 := hS2.on hbx
          have hM3 := (hbx.block M hMZ).trans hM2
          have hblW : bl < wc.heap.size := Nat.lt_of_lt_of_le hblZ hbx.size
          have hMW : M < wc.heap.size := Nat.lt_of_lt_of_le hMZ hbx.size
          clear c0 c1 c2 c3 m0 m1 hof hM2
          obtain ⟨c0, c1, c2, c3⟩ := hA.block (hS3.dw.bel.block bl hbl)
          have hli := List_any x.data wc hS3.dw.dk (by omega)
          go_wp2_with fail
          refine hli.mono ?_
          rintro e w5 ⟨v, rfl, hown, hb5⟩
          clear hli
          obtain ⟨ql, capl, rfl, hNl, _⟩ := NArg.of_own hown
          have hLB := LB.of_own hown
          have hS5 := hS3.on hb5
          have hM5 := (hb5.block M hMW).trans hM3
          have hg5 := (hb5.block g2 (Array.getElem?_eq_some_iff.1 hg2).1).trans hg2
          have hM5l := (Array.getElem?_eq_some_iff.1 hM5).1
          have hg5l := (Array.getElem?_eq_some_iff.1 hg5).1
          have hA5 := hA.block (hS5.dw.bel.block bl hbl)
          have hb5l : bl < w5.heap.size := Nat.lt_of_lt_of_le hblW hb5.size
          have hlnm : ∀ f ∈ Pu L', f.1.length ≤ 64 := Pu_nm hS5.dw.dk
          have hll : (lst x.data L').length ≤ 1000000 := by have := lst_len x.data L'; have := hS5.dw.dk.len; omega
          have hfr := fun (X : World) (hb : Below w5.heap.size w5 X) => Free_any X (hS5.on hb).dw.dk
          have hrf := fun (X : World) (hb : Below w5.heap.size w5 X) => RFree_any R cap2 q2 (Pu L') X (hS5.fa.below hb) hPl hRR (by rw [totP_Pu]; have := hS5.room; omega)
          have hfe : R - totP (Pu L') = fr' := by rw [totP_Pu]; have := hS5.room; omega
          rw [hfe] at hrf
          have hsy := fun (X : World) (hb : Below w5.heap.size w5 X) => Synced_any x.name X (hS5.on hb).dw.dk (by unfold maxLen; omega)
          have hsv2 : ((s3 : Nat) : Int) = sy (lk x.name L') := HV.out
          rw [← hsv2] at hsy
          have hrl := fun (X : World) (hb : Below w5.heap.size w5 X) => RList_any R cap2 q2 (Pu L') x.data X (hS5.fa.below hb) hPl hlnm
          rw [lstP_Pu] at hrl
          have hsm := fun (X : World) (hb : Below w5.heap.size w5 X) (q' : Option Addr) (c' : Nat) (hq : NArg X q' (lst x.data L')) => RSame_eq ql q' capl c' (lst x.data L') X (hNl.below hb) hq hll
          clear c0 c1 c2 c3 hown hsv2 hfe hlnm
          obtain ⟨c0, c1, c2, c3⟩ := hA5
          have m0 := (cells_block hM5).1 0
          have m1 := (cells_block hM5).1 1
          have f2 := (cells_block hg5).1 2
          go_wp2_with fail
          go_region_held3 (fun w' => w'.cell? ⟨M, 0, none⟩ = some (.int .i64 (R : Int)) ∧ w'.cell? ⟨M, 1, none⟩ = some (.slice q2 (Pu L').length cap2) ∧ w'.cell? ⟨bl, ol + i * 4 + 1, none⟩ = some (.string (bstr x.name)) ∧ w'.cell? ⟨bl, ol + i * 4 + 2, none⟩ = some (.string (bstr x.data)) ∧ w'.cell? ⟨g2, 2, none⟩ = some (.int .i64 (s3 : Int))) (first | with_reducible exact ⟨m0, m1, c1, c2, f2⟩ | go_keep)
            (first
              | (go_at_call 13; refine (hfr _ ((Below.refl _ _).drew)).mono ?_; rintro e w6 ⟨rfl, rfl⟩)
              | (go_at_call 14; refine (hrf _ ((Below.refl _ _).drew)).mono ?_; rintro e w7 ⟨rfl, hb7⟩; have hb7' := b_step ((Below.refl w5.heap.size w5).drew) hb7 (Nat.le_refl _); clear m0 m1 c0 c1 c2 c3 f2; obtain ⟨c0, c1, c2, c3⟩ := hA.block ((hb7'.block bl hb5l).trans (hS5.dw.bel.block bl hbl)); have m0 := (cells_block ((hb7'.block M hM5l).trans hM5)).1 0; have m1 := (cells_block ((hb7'.block M hM5l).trans hM5)).1 1; have f2 := (cells_block ((hb7'.block g2 hg5l).trans hg5)).1 2)
              | (go_at_call 15; refine (hsy _ hb7').mono ?_; rintro e w8 ⟨rfl, rfl⟩)
              | (go_at_call 17; refine (hrl _ hb7').mono ?_; rintro e w9 ⟨q9, cap9, rfl, hN9, hb9⟩; have hb9' := b_step hb7' hb9 (Nat.le_refl _); clear m0 m1 c0 c1 c2 c3 f2; obtain ⟨c0, c1, c2, c3⟩ := hA.block ((hb9'.block bl hb5l).trans (hS5.dw.bel.block bl hbl)); have m0 := (cells_block ((hb9'.block M hM5l).trans hM5)).1 0; have m1 := (cells_block ((hb9'.block M hM5l).trans hM5)).1 1; have f2 := (cells_block ((hb9'.block g2 hg5l).trans hg5)).1 2)
              | (go_at_call 16; refine (hsm _ hb9' _ _ hN9).mono ?_; rintro e w10 ⟨rfl, hb10⟩; have hb10' := b_step hb9' hb10 (Nat.le_refl _); clear m0 m1 c0 c1 c2 c3 f2; obtain ⟨c0, c1, c2, c3⟩ := hA.block ((hb10'.block bl hb5l).trans (hS5.dw.bel.block bl hbl)); have m0 := (cells_block ((hb10'.block M hM5l).trans hM5)).1 0; have m1 := (cells_block ((hb10'.block M hM5l).trans hM5)).1 1; have f2 := (cells_block ((hb10'.block g2 hg5l).trans hg5)).1 2))
          have hbW := b_step hb5 hb10' (Nat.le_refl _)
          have hL10 := hLB.below hb10'
          clear hfr hrf hsy hrl hsm m0 m1 c0 c1 c2 c3 f2 hN9 hb9 hb10 hb9' hb7 hb7' hNl hLB hS5 hM5 hg5 hM5l hg5l hb5l hb10' hb5 hS2 hg2
          generalize hnl : (lst x.data L').length = nl at *
          clear hnl
          go_wp2_with fail
          go_loopw [14] (fun s14 wz => ∃ k : Nat, s14 = .int .i64 (k : Int) ∧ k ≤ nl ∧ LB wz ql nl wc.heap.size ∧ Below wc.heap.size wc wz) (fun s14 _ => nl - (intOf s14).toNat)
          case atStart => exact ⟨0, rfl, Nat.zero_le _, hL10, hbW⟩
          case round =>
            obtain ⟨k, rfl, hk, hLk, hbk⟩ := hrel
            clear hL10 hbW
            by_cases hkl : k < nl
            · obtain ⟨g, cur, rfl, hg, hcs, hBg⟩ := id hLk (by omega)
              have hkI : (k : Int) < (nl : Int) := by omega
              have k0 : wr.cell? ⟨g, k, none⟩ = some cur[k] := by rw [(cells_block hg).1 k]; simp
              have k1 := (cells_block hg).2 k
              have HL : Hid _ := hLk.set k (.string (bstr [120]))
              have HB : Hid _ := hbk.setCell (p := ⟨g, k, none⟩) hBg (.string (bstr [120]))
              have hEx : (⟨#[120]⟩ : ByteArray) = bstr [120] := rfl
              clear hLk hbk hg
              go_wp2
              go_roundw
              case rel => exact ⟨k + 1, by go_num, by omega, HL.out, HB.out⟩
              case measure => simp [intOf]; omega
            · have hkI : ¬ (k : Int) < (nl : Int) := by omega
              have HS : Hid _ := hS3.on hbk
              have HM : Hid _ := (hbk.block M hMW).trans hM3
              clear hS3 hM3 hLk hbk
              go_wp2
              go_roundw
              case rel => exact ⟨i + 1, d', m', L', fr', q2, cap2, by go_num, rfl, by omega, by omega, HS.out, HM.out, by have := hds.out; show tot L' ≤ dsm xs (i + 1); omega⟩
              case measure => simp [intOf]; omega
        have z0 : (Z.drew.alloc (.cells #[.string ⟨#[]⟩, .string ⟨#[]⟩, .int .i64 0] 35)).heap[Z.heap.size]? = some (.cells #[.string ⟨#[]⟩, .string ⟨#[]⟩, .int .i64 0] 35 (0, 0)) := heap_alloc_new Z.drew _
        have hne1 : M ≠ Z.heap.size := by omega
        have hne2 : bl ≠ Z.heap.size := by omega
        go_region_held3 (fun w' => w'.cell? ⟨M, 0, none⟩ = some (.int .i64 (R : Int)) ∧ w'.cell? ⟨M, 1, none⟩ = some (.slice q2 (Pu L').length cap2) ∧ w'.cell? ⟨bl, ol + i * 4 + 1, none⟩ = some (.string (bstr x.name))) (first | with_reducible exact ⟨m0, m1, c1⟩ | with_reducible exact ⟨e0, e1, e2⟩ | go_keep)
          ((go_at_call 11; refine (hof _ (by first | exact (Below.refl _ _).drew | exact ((Below.refl _ _).drew).alloc (Nat.le_refl _) _)).mono ?_; rintro e w4 ⟨rfl, hb4⟩; have hb4' : Below Z.heap.size Z w4 := b_step (show Below Z.heap.size Z _ by first | exact (Below.refl _ _).drew | exact ((Below.refl _ _).drew).alloc (Nat.le_refl _) _) hb4 (Nat.le_refl _); have hM4 := (hb4'.block M hMZ).trans hM2; clear m0 m1; have m0 := (cells_block hM4).1 0; have m1 := (cells_block hM4).1 1; clear c0 c1 c2 c3; obtain ⟨c0, c1, c2, c3⟩ := hA.block ((hb4'.block bl hblZ).trans (hS2.dw.bel.block bl hbl)); try (have hz4 := (hb4.block _ (Array.getElem?_eq_some_iff.1 z0).1).trans z0; have y0 := (cells_block hz4).1 0; have y1 := (cells_block hz4).1 1; have y2 := (cells_block hz4).1 2; have y3 := (cells_block hz4).2 0; have y4 := (cells_block hz4).2 1; have y5 := (cells_block hz4).2 2; have e0 : (set3 w4 Z.heap.size (.string (bstr n3)) (.string (bstr b3)) (.int .i64 (s3 : Int))).cell? ⟨M, 0, none⟩ = some (.int .i64 (R : Int)) := (by rw [set_far _ hne1, set_far _ hne1, set_far _ hne1]; exact m0); have e1 : (set3 w4 Z.heap.size (.string (bstr n3)) (.string (bstr b3)) (.int .i64 (s3 : Int))).cell? ⟨M, 1, none⟩ = some (.slice q2 (Pu L').length cap2) := (by rw [set_far _ hne1, set_far _ hne1, set_far _ hne1]; exact m1); have e2 : (set3 w4 Z.heap.size (.string (bstr n3)) (.string (bstr b3)) (.int .i64 (s3 : Int))).cell? ⟨bl, ol + i * 4 + 1, none⟩ = some (.string (bstr x.name)) := (by rw [set_far _ hne2, set_far _ hne2, set_far _ hne2]; exact c1))))
        · go_wp2
          go_meet
          case rel => exact ⟨w4.heap.size, rfl, heap_alloc_new w4 _, hb4'.alloc hb4'.size _⟩
        · go_wp2
          go_meet
          case rel => exact ⟨Z.heap.size, rfl, set3_block hz4 _ _ _, set3_below hb4' (Nat.le_refl _) _ _ _⟩
      have z0 : (wr.drew.alloc (.cells #[.int .i64 0, .slice none 0 0] 27)).heap[wr.heap.size]? = some (.cells #[.int .i64 0, .slice none 0 0] 27 (0, 0)) := heap_alloc_new wr.drew _
      have hne1 : M ≠ wr.heap.size := by omega
      have hne2 : bl ≠ wr.heap.size := by omega
      go_region_held3 (fun w' => w'.cell? ⟨M, 0, none⟩ = some (.int .i64 (R : Int)) ∧ w'.cell? ⟨M, 1, none⟩ = some (.slice q' (Pu L).length cap') ∧ w'.cell? ⟨bl, ol + i * 4, none⟩ = some (.int .i64 x.kind) ∧ w'.cell? ⟨bl, ol + i * 4 + 1, none⟩ = some (.string (bstr x.name)) ∧ w'.cell? ⟨bl, ol + i * 4 + 2, none⟩ = some (.string (bstr x.data)) ∧ w'.cell? ⟨bl, ol + i * 4 + 3, none⟩ = some (.slice x.kq x.keep.length x.kc)) (first | with_reducible exact ⟨m0, m1, c0, c1, c2, c3⟩ | with_reducible exact ⟨e0, e1, e2, e3, e4, e5⟩ | go_keep)
        ((go_at_call 10; refine (hst _ (by first | exact (Below.refl _ _).drew | exact ((Below.refl _ _).drew).alloc (Nat.le_refl _) _)).mono ?_; rintro e w4 ⟨d', m', L', fr', q2, cap2, rfl, hS4, hle, hkp⟩; have hM4 := far_kept (hS.on (by first | exact (Below.refl _ _).drew | exact ((Below.refl _ _).drew).alloc (Nat.le_refl _) _)).dw.dk hkp (by first | exact hM | exact ((MapKept.heap_alloc _ _).2 M (by simpa using hMl)).trans hM) ⟨by decide, by decide, by decide⟩; clear m0 m1; have m0 := (cells_block hM4).1 0; have m1 := (cells_block hM4).1 1; clear c0 c1 c2 c3; obtain ⟨c0, c1, c2, c3⟩ := hA.block (hS4.dw.bel.block bl hbl); try (have hz4 := far_kept (hS.on (((Below.refl _ _).drew).alloc (Nat.le_refl _) _)).dw.dk hkp z0 ⟨by decide, by decide, by decide⟩; have y0 := (cells_block hz4).1 0; have y1 := (cells_block hz4).1 1; have y2 := (cells_block hz4).2 0; have y3 := (cells_block hz4).2 1; have e0 : ((w4.setCell ⟨wr.heap.size, 0, none⟩ (.int .i64 (R : Int))).setCell ⟨wr.heap.size, 1, none⟩ (.slice q2 (Pu L').length cap2)).cell? ⟨M, 0, none⟩ = some (.int .i64 (R : Int)) := (by rw [set_far _ hne1, set_far _ hne1]; exact m0); have e1 : ((w4.setCell ⟨wr.heap.size, 0, none⟩ (.int .i64 (R : Int))).setCell ⟨wr.heap.size, 1, none⟩ (.slice q2 (Pu L').length cap2)).cell? ⟨M, 1, none⟩ = some (.slice q' (Pu L).length cap') := (by rw [set_far _ hne1, set_far _ hne1]; exact m1); have e2 : ((w4.setCell ⟨wr.heap.size, 0, none⟩ (.int .i64 (R : Int))).setCell ⟨wr.heap.size, 1, none⟩ (.slice q2 (Pu L').length cap2)).cell? ⟨bl, ol + i * 4, none⟩ = some (.int .i64 x.kind) := (by rw [set_far _ hne2, set_far _ hne2]; exact c0); have e3 : ((w4.setCell ⟨wr.heap.size, 0, none⟩ (.int .i64 (R : Int))).setCell ⟨wr.heap.size, 1, none⟩ (.slice q2 (Pu L').length cap2)).cell? ⟨bl, ol + i * 4 + 1, none⟩ = some (.string (bstr x.name)) := (by rw [set_far _ hne2, set_far _ hne2]; exact c1); have e4 : ((w4.setCell ⟨wr.heap.size, 0, none⟩ (.int .i64 (R : Int))).setCell ⟨wr.heap.size, 1, none⟩ (.slice q2 (Pu L').length cap2)).cell? ⟨bl, ol + i * 4 + 2, none⟩ = some (.string (bstr x.data)) := (by rw [set_far _ hne2, set_far _ hne2]; exact c2); have e5 : ((w4.setCell ⟨wr.heap.size, 0, none⟩ (.int .i64 (R : Int))).setCell ⟨wr.heap.size, 1, none⟩ (.slice q2 (Pu L').length cap2)).cell? ⟨bl, ol + i * 4 + 3, none⟩ = some (.slice x.kq x.keep.length x.kc) := (by rw [set_far _ hne2, set_far _ hne2]; exact c3))))
      · go_wp2
        go_meet
        case rel => exact ⟨d', m', L', fr', q2, cap2, w4.heap.size, rfl, rfl, rfl, hS4.on ((Below.refl _ _).alloc (Nat.le_refl _) _), boxed w4 _ _ _, fun he => by have := (Array.getElem?_eq_some_iff.1 hM4).1; omega, ((MapKept.heap_alloc _ _).2 M (Array.getElem?_eq_some_iff.1 hM4).1).trans hM4, hle⟩
      · go_wp2
        go_meet
        case rel => exact ⟨d', m', L', fr', q2, cap2, wr.heap.size, rfl, rfl, rfl, hS4.put hz4 (by omega) _ _, set2_block hz4 _ _, hne1.symm, (set2_other w4 hne1 _ _).trans hM4, hle⟩
    · have m0 := (cells_block hM).1 0
      have m1 := (cells_block hM).1 1
      have hMl := (Array.getElem?_eq_some_iff.1 hM).1
      have hPl : (Pu L).length ≤ 1000000 := by have := hS.dw.dk.len; simp only [Pu, List.length_map]; omega
      rcases (show (i < xs.length ∧ ¬ i < 200) ∨ ¬ i < xs.length by omega) with ⟨h1, h2⟩ | h1
      · have h1' : (i : Int) < (xs.length : Int) := by omega
        have h2' : ¬ (i : Int) < 200 := by omega
        clear hgo
        go_wp2_with fail
        go_loop [15] (fun s15 => ∃ j : Nat, s15 = .int .i64 (j : Int) ∧ j ≤ (Pu L).length) (fun s15 => (Pu L).length - (intOf s15).toNat)
        case atStart => exact ⟨0, rfl, Nat.zero_le _⟩
        case round =>
          obtain ⟨j, rfl, hj⟩ := hrel
          by_cases hjl : j < (Pu L).length
          · obtain ⟨b, off, rfl, hb, hrow⟩ := hS.fa.at_ (by omega)
            obtain ⟨a0, a1, a2⟩ := hrow j hjl
            have hrd := Read_at hS.dw.dk hjl
            have hjI : (j : Int) < ((Pu L).length : Int) := by omega
            clear hS hrow hM
            generalize (Pu L)[j] = f at *
            go_wp2_with fail
            refine hrd.mono ?_
            rintro e w5 ⟨rfl, rfl⟩
            clear hrd
            go_wp2
            go_round
            case rel => exact ⟨j + 1, by go_num, by omega⟩
            case measure => simp [intOf]; omega
          · have hjI : ¬ (j : Int) < ((Pu L).length : Int) := by omega
            have hli := fun (X : World) (hb : Below wr.heap.size wr X) => List_any [] X (hS.on hb).dw.dk (by omega)
            have hrl := fun (X : World) (hb : Below wr.heap.size wr X) => RList_any R cap' q' (Pu L) [] X (hS.fa.below hb) hPl (Pu_nm hS.dw.dk)
            rw [lstP_Pu] at hrl
            have hll : (lst [] L).length ≤ 1000000 := by have := lst_len [] L; have := hS.dw.dk.len; omega
            have hE0 : (⟨#[]⟩ : ByteArray) = bstr [] := rfl
            have hbel := hS.dw.bel
            clear hS
            go_wp2_with fail
            go_region_held3 (fun w' => w'.cell? ⟨M, 0, none⟩ = some (.int .i64 (R : Int)) ∧ w'.cell? ⟨M, 1, none⟩ = some (.slice q' (Pu L).length cap')) (first | with_reducible exact ⟨m0, m1⟩ | go_keep)
              (first
                | (go_at_call 12; refine (hli _ ((Below.refl _ _).drew)).mono ?_; rintro e w5 ⟨v, rfl, hown, hb5⟩; obtain ⟨ql, capl, rfl, hNl, _⟩ := NArg.of_own hown; have hb5' := b_step ((Below.refl wr.heap.size wr).drew) hb5 (Nat.le_refl _); clear m0 m1; have m0 := (cells_block ((hb5'.block M hMl).trans hM)).1 0; have m1 := (cells_block ((hb5'.block M hMl).trans hM)).1 1)
                | (go_at_call 17; refine (hrl _ hb5').mono ?_; rintro e w6 ⟨q6, cap6, rfl, hN6, hb6⟩; have hb6' := b_step hb5' hb6 (Nat.le_refl _); clear m0 m1; have m0 := (cells_block ((hb6'.block M hMl).trans hM)).1 0; have m1 := (cells_block ((hb6'.block M hMl).trans hM)).1 1)
                | (go_at_call 16; refine (RSame_eq ql q6 capl cap6 (lst [] L) _ (hNl.below hb6) hN6 hll).mono ?_; rintro e w7 ⟨rfl, hb7⟩; have hb7' := b_step hb6' hb7 (Nat.le_refl _); clear m0 m1; have m0 := (cells_block ((hb7'.block M hMl).trans hM)).1 0; have m1 := (cells_block ((hb7'.block M hMl).trans hM)).1 1)
                | (go_at_call 19; refine (works_any _).mono ?_; rintro e w8 ⟨rfl, hb8⟩; have hb8' := b_step hb7' hb8 (Nat.le_refl _); clear m0 m1; have m0 := (cells_block ((hb8'.block M hMl).trans hM)).1 0; have m1 := (cells_block ((hb8'.block M hMl).trans hM)).1 1))
            go_wp2
            go_ret
            exact ⟨rfl, b_step hbel hb8' (Nat.le_refl _)⟩
      · have h1' : ¬ (i : Int) < (xs.length : Int) := by omega
        clear hgo
        go_wp2_with fail
        go_loop [15] (fun s15 => ∃ j : Nat, s15 = .int .i64 (j : Int) ∧ j ≤ (Pu L).length) (fun s15 => (Pu L).length - (intOf s15).toNat)
        case atStart => exact ⟨0, rfl, Nat.zero_le _⟩
        case round =>
          obtain ⟨j, rfl, hj⟩ := hrel
          by_cases hjl : j < (Pu L).length
          · obtain ⟨b, off, rfl, hb, hrow⟩ := hS.fa.at_ (by omega)
            obtain ⟨a0, a1, a2⟩ := hrow j hjl
            have hrd := Read_at hS.dw.dk hjl
            have hjI : (j : Int) < ((Pu L).length : Int) := by omega
            clear hS hrow hM
            generalize (Pu L)[j] = f at *
            go_wp2_with fail
            refine hrd.mono ?_
            rintro e w5 ⟨rfl, rfl⟩
            clear hrd
            go_wp2
            go_round
            case rel => exact ⟨j + 1, by go_num, by omega⟩
            case measure => simp [intOf]; omega
          · have hjI : ¬ (j : Int) < ((Pu L).length : Int) := by omega
            have hli := fun (X : World) (hb : Below wr.heap.size wr X) => List_any [] X (hS.on hb).dw.dk (by omega)
            have hrl := fun (X : World) (hb : Below wr.heap.size wr X) => RList_any R cap' q' (Pu L) [] X (hS.fa.below hb) hPl (Pu_nm hS.dw.dk)
            rw [lstP_Pu] at hrl
            have hll : (lst [] L).length ≤ 1000000 := by have := lst_len [] L; have := hS.dw.dk.len; omega
            have hE0 : (⟨#[]⟩ : ByteArray) = bstr [] := rfl
            have hbel := hS.dw.bel
            clear hS
            go_wp2_with fail
            go_region_held3 (fun w' => w'.cell? ⟨M, 0, none⟩ = some (.int .i64 (R : Int)) ∧ w'.cell? ⟨M, 1, none⟩ = some (.slice q' (Pu L).length cap')) (first | with_reducible exact ⟨m0, m1⟩ | go_keep)
              (first
                | (go_at_call 12; refine (hli _ ((Below.refl _ _).drew)).mono ?_; rintro e w5 ⟨v, rfl, hown, hb5⟩; obtain ⟨ql, capl, rfl, hNl, _⟩ := NArg.of_own hown; have hb5' := b_step ((Below.refl wr.heap.size wr).drew) hb5 (Nat.le_refl _); clear m0 m1; have m0 := (cells_block ((hb5'.block M hMl).trans hM)).1 0; have m1 := (cells_block ((hb5'.block M hMl).trans hM)).1 1)
                | (go_at_call 17; refine (hrl _ hb5').mono ?_; rintro e w6 ⟨q6, cap6, rfl, hN6, hb6⟩; have hb6' := b_step hb5' hb6 (Nat.le_refl _); clear m0 m1; have m0 := (cells_block ((hb6'.block M hMl).trans hM)).1 0; have m1 := (cells_block ((hb6'.block M hMl).trans hM)).1 1)
                | (go_at_call 16; refine (RSame_eq ql q6 capl cap6 (lst [] L) _ (hNl.below hb6) hN6 hll).mono ?_; rintro e w7 ⟨rfl, hb7⟩; have hb7' := b_step hb6' hb7 (Nat.le_refl _); clear m0 m1; have m0 := (cells_block ((hb7'.block M hMl).trans hM)).1 0; have m1 := (cells_block ((hb7'.block M hMl).trans hM)).1 1)
                | (go_at_call 19; refine (works_any _).mono ?_; rintro e w8 ⟨rfl, hb8⟩; have hb8' := b_step hb7' hb8 (Nat.le_refl _); clear m0 m1; have m0 := (cells_block ((hb8'.block M hMl).trans hM)).1 0; have m1 := (cells_block ((hb8'.block M hMl).trans hM)).1 1))
            go_wp2
            go_ret
            exact ⟨rfl, b_step hbel hb8' (Nat.le_refl _)⟩

end Go.Proofs.Ytbnenpfphbdmpaa
