/-
  DiskKeeps: the walk.
-/
import Derived.Test.YtbnenpfphbdmpaaXKp
import Derived.Deep.OwnRows
namespace Go.Proofs.Ytbnenpfphbdmpaa
open Go.RowKit

/-- How many bytes the first i texts have. -/
def sm (ls : List (List UInt8)) (i : Nat) : Nat := ((ls.take i).map List.length).sum
theorem sm_succ {ls : List (List UInt8)} {i : Nat} (h : i < ls.length) : sm ls (i + 1) = sm ls i + ls[i].length := by
  unfold sm
  rw [List.take_succ_eq_append_getElem h, List.map_append, List.sum_append]
  rfl
theorem sm_le (ls : List (List UInt8)) (i : Nat) : sm ls i ≤ (ls.map List.length).sum := by
  unfold sm
  conv => rhs; rw [← List.take_append_drop i ls]
  rw [List.map_append, List.sum_append]
  omega

theorem make4 (w : World) : (Instr.makeSlice 38 (.int .i64 4) (.int .i64 4)).run Try.prog w = .ok (.slice (some ⟨w.heap.size, 0, none⟩) 4 4) (w.alloc (.cells #[.string ⟨#[]⟩, .string ⟨#[]⟩, .string ⟨#[]⟩, .string ⟨#[]⟩] 9)) := by
  have := run_make_row' (P := Try.prog) 38 9 (.string ⟨#[]⟩) 16 Try.underlying38 Try.infoStr rfl .i64 .i64 4 (by decide) (by decide) w
  have e : madeCells #[Value.string ⟨#[]⟩] 4 = #[.string ⟨#[]⟩, .string ⟨#[]⟩, .string ⟨#[]⟩, .string ⟨#[]⟩] := by kernel_rfl
  rw [e] at this
  exact this
theorem alloc_size (w : World) (o : Obj) : (w.alloc o).heap.size = w.heap.size + 1 := by simp

theorem by_len (s : List UInt8) (L : List Fl) : (by_ (lk s L)).length ≤ tot L := by
  cases e : lk s L with
  | none => simp [by_]
  | some f => exact tot_mem (lk_some e).1
theorem tot_syn {L : List Fl} (h : Srt L) (s : List UInt8) : tot (synL s L) = tot L := by
  unfold synL
  cases e : lk s L with
  | none => rfl
  | some f =>
    obtain ⟨_, rfl⟩ := lk_some e
    have := tot_wth_old (f := { f with syn := f.bytes.length }) (o := f) h e
    have h2 : ({ f with syn := f.bytes.length } : Fl).bytes.length = f.bytes.length := rfl
    simp only
    omega
/-- A text in a row is written; the disk lies elsewhere. -/
theorem Dw.text {B : Nat} {w0 w : World} {d m : Nat} {L : List Fl} {fr N : Nat} (h : Dw B w0 w d m L fr N) {g : Nat} {xs : List (List UInt8)} (hg : SB w g xs) (hB : B ≤ g) (k : Nat) (v : Value) : Dw B w0 (w.setCell ⟨g, k, none⟩ v) d m L fr N :=
  ⟨h.dk.kept fun i hi => Below.heap_setCell _ _ _ _ (fun e => by
    have e2 : i = g := e
    rw [e2] at hi
    exact h.dk.other hg (by decide) hi), h.ge, b_grown h.bel (grown_setCell w g k v) h.hB hB, h.hB⟩
theorem Dw.drew {B : Nat} {w0 w : World} {d m : Nat} {L : List Fl} {fr N : Nat} (h : Dw B w0 w d m L fr N) : Dw B w0 w.drew d m L fr N := ⟨h.dk.drew, h.ge, h.bel.drew, h.hB⟩
theorem SB.other {w : World} {g j : Nat} {xs : List (List UInt8)} (h : SB w j xs) (hne : j ≠ g) (k : Nat) (v : Value) : SB (w.setCell ⟨g, k, none⟩ v) j xs := (Below.heap_setCell _ _ _ _ hne).trans h
def NM : List (List UInt8) := [nmK 0, nmK 1, nmK 2, nmK 3]
theorem NM_at {k : Nat} (h : k < 4) : NM[k]'h = nmK k := by
  have : ∀ a, (h : a < 4) → NM[a]'h = nmK a := by decide
  exact this k h
attribute [local go_sem] size_bstr toList_bstr append_bstr

theorem srow_shape {w : World} {B e : Nat} {v : Value} {n : Nat} {xs : List Value} (h : w.ownsRow B e 1 v n xs) : ∃ q cap, v = .slice q n cap := by
  rcases h.2 with ⟨rfl, rfl⟩ | ⟨g, cap, cur, rfl, _⟩
  · exact ⟨_, _, rfl⟩
  · exact ⟨_, _, rfl⟩
theorem karg_of {B : Nat} {w w' : World} {d m fr N : Nat} {L : List Fl} {qk : Option Addr} {ks : List Int} (h : Dw B w w' d m L fr N) (hks : 0 < ks.length → ∃ b off, qk = some ⟨b, off, none⟩ ∧ b < B ∧ ∀ i (h : i < ks.length), w.cell? ⟨b, off + i, none⟩ = some (.int .i64 ks[i])) : KArg w' qk ks (Ft d m L) := fun h0 => by
  obtain ⟨b, off, h1, h2, h3⟩ := hks h0
  refine ⟨b, off, h1, Nat.lt_of_lt_of_le h2 (Nat.le_trans h.hB h.bel.size), fun hi => by have := h.ge b hi; omega, fun i hi => ?_⟩
  rw [World.cell?_of_block (a := ⟨b, off + i, none⟩) (h.bel.block b h2)]
  exact h3 i hi
/-- What is read of a file behind a loss of power. -/
theorem KI.crash {i : Nat} {L L' : List Fl} {A S : List (List UInt8)} (h : KI i L A S) {ks : List Int} (hC : Cr ks L.length L L') (hs' : Srt L') (hf : ∀ f ∈ L, f.syn ≤ f.bytes.length) {k : Nat} (hk : k < 4) (hki : k < i) :
    ∃ g, lk (nmK k) L' = some g ∧ g.syn = g.bytes.length ∧ g.bytes = (A[k]'(by rw [h.la]; exact hk)).take g.bytes.length ∧ (S[k]'(by rw [h.ls]; exact hk)).length ≤ g.bytes.length ∧ g.bytes.length ≤ (A[k]'(by rw [h.la]; exact hk)).length := by
  obtain ⟨f, h1, h2, h3, h4⟩ := h.had k hk hki
  obtain ⟨kk, v', h5⟩ := hC.at hs' h1
  have hle := kn_le kk (f.bytes.length - f.syn)
  have hsy := hf f (lk_some h1).1
  have hb : (crF kk f v').bytes.length = f.syn + kn kk (f.bytes.length - f.syn) := by
    show (f.bytes.take _).length = _
    rw [List.length_take]; omega
  refine ⟨_, h5, hb.symm, ?_, ?_, ?_⟩
  · rw [hb]
    show f.bytes.take _ = _
    rw [h2]
  · rw [hb]; omega
  · rw [hb, ← h2]; omega
/-- A second one leaves what the first one left. -/
theorem Cr.again {ks : List Int} {L L' : List Fl} (hC : Cr ks L.length L L') (hs' : Srt L') {s : List UInt8} {g : Fl} (hg : lk s L = some g) (he : g.syn = g.bytes.length) : by_ (lk s L') = g.bytes := by
  obtain ⟨kk, v', h5⟩ := hC.at hs' hg
  have hle := kn_le kk (g.bytes.length - g.syn)
  rw [h5]
  show g.bytes.take _ = _
  have : g.syn + kn kk (g.bytes.length - g.syn) = g.bytes.length := by omega
  rw [this, List.take_length]
theorem Pu_by {L L2 : List Fl} (h : Pu L2 = Pu L) (s : List UInt8) : by_ (lk s L2) = by_ (lk s L) := by
  have := Pu_lk h s
  cases e : lk s L with
  | none => rw [e] at this; cases e2 : lk s L2 with
    | none => rfl
    | some f => rw [e2] at this; cases this
  | some f => rw [e] at this; cases e2 : lk s L2 with
    | none => rw [e2] at this; cases this
    | some f2 =>
      rw [e2] at this
      simp only [Option.map_some, Option.some.injEq] at this
      exact congrArg (fun x => x.2.1) this

set_option maxHeartbeats 8000000 in
set_option maxRecDepth 100000 in
theorem keeps_any (ls : List (List UInt8)) (q0 : Option Addr) (cap0 : Nat) (sy : Int) (qk : Option Addr) (capk : Nat) (ks : List Int) (w : World) (hls : SArg w w.heap.size q0 ls) (hks : 0 < ks.length → ∃ b off, qk = some ⟨b, off, none⟩ ∧ b < w.heap.size ∧ ∀ i (h : i < ks.length), w.cell? ⟨b, off + i, none⟩ = some (.int .i64 ks[i]))
    (hsum : (ls.map List.length).sum ≤ 1048576) :
    Calls Try.prog 4 #[.slice q0 ls.length cap0, .int .u64 sy, .slice qk ks.length capk] w fun e w' => e = .returned (.bool true) ∧ Below w.heap.size w w' := by
  go_enter Try.func4, Try.ntmps4
  go_wp2_with fail
  refine (works_any _).mono ?_
  rintro e w1 ⟨rfl, hb1⟩
  go_wp2_with fail
  refine (New_any 1099511627776 _).mono ?_
  rintro e w2 ⟨d, m, rfl, hD, hb, hft⟩
  have h1 : Dw w.heap.size w w2 d m [] 1099511627776 0 := Dw.made (Nat.le_refl _) hb1 hD hb hft
  clear hD hb hft hb1
  have hmk := make4
  go_wp2_with fail
  have hW1 := ((h1.on ((Below.refl _ _).alloc (Nat.le_refl _) (.cells #[.string ⟨#[97]⟩, .string ⟨#[98]⟩, .string ⟨#[97, 98]⟩, .string ⟨#[99]⟩] 9))).on ((Below.refl _ _).alloc (Nat.le_refl _) (.cells #[.string ⟨#[]⟩, .string ⟨#[]⟩, .string ⟨#[]⟩, .string ⟨#[]⟩] 9))).on ((Below.refl _ _).alloc (Nat.le_refl _) (.cells #[.string ⟨#[]⟩, .string ⟨#[]⟩, .string ⟨#[]⟩, .string ⟨#[]⟩] 9))
  have hN0 : SB (w2.alloc (.cells #[.string ⟨#[97]⟩, .string ⟨#[98]⟩, .string ⟨#[97, 98]⟩, .string ⟨#[99]⟩] 9)) w2.heap.size NM := heap_alloc_new w2 _
  have hN := (hN0.below ((Below.refl _ _).alloc (Nat.le_refl _) (.cells #[.string ⟨#[]⟩, .string ⟨#[]⟩, .string ⟨#[]⟩, .string ⟨#[]⟩] 9))).below ((Below.refl _ _).alloc (Nat.le_refl _) (.cells #[.string ⟨#[]⟩, .string ⟨#[]⟩, .string ⟨#[]⟩, .string ⟨#[]⟩] 9))
  have hA0 : SB ((w2.alloc (.cells #[.string ⟨#[97]⟩, .string ⟨#[98]⟩, .string ⟨#[97, 98]⟩, .string ⟨#[99]⟩] 9)).alloc (.cells #[.string ⟨#[]⟩, .string ⟨#[]⟩, .string ⟨#[]⟩, .string ⟨#[]⟩] 9)) (w2.heap.size + 1) [[], [], [], []] := by
    have := heap_alloc_new (w2.alloc (.cells #[.string ⟨#[97]⟩, .string ⟨#[98]⟩, .string ⟨#[97, 98]⟩, .string ⟨#[99]⟩] 9)) (.cells #[.string ⟨#[]⟩, .string ⟨#[]⟩, .string ⟨#[]⟩, .string ⟨#[]⟩] 9 (0, 0))
    rw [alloc_size] at this
    exact this
  have hA := hA0.below ((Below.refl _ _).alloc (Nat.le_refl _) (.cells #[.string ⟨#[]⟩, .string ⟨#[]⟩, .string ⟨#[]⟩, .string ⟨#[]⟩] 9))
  have hS : SB (((w2.alloc (.cells #[.string ⟨#[97]⟩, .string ⟨#[98]⟩, .string ⟨#[97, 98]⟩, .string ⟨#[99]⟩] 9)).alloc (.cells #[.string ⟨#[]⟩, .string ⟨#[]⟩, .string ⟨#[]⟩, .string ⟨#[]⟩] 9)).alloc (.cells #[.string ⟨#[]⟩, .string ⟨#[]⟩, .string ⟨#[]⟩, .string ⟨#[]⟩] 9)) (w2.heap.size + 1 + 1) [[], [], [], []] := by
    have := heap_alloc_new ((w2.alloc (.cells #[.string ⟨#[97]⟩, .string ⟨#[98]⟩, .string ⟨#[97, 98]⟩, .string ⟨#[99]⟩] 9)).alloc (.cells #[.string ⟨#[]⟩, .string ⟨#[]⟩, .string ⟨#[]⟩, .string ⟨#[]⟩] 9)) (.cells #[.string ⟨#[]⟩, .string ⟨#[]⟩, .string ⟨#[]⟩, .string ⟨#[]⟩] 9 (0, 0))
    rw [alloc_size, alloc_size] at this
    exact this
  clear hN0 hA0 hmk
  have hg1 : w.heap.size ≤ w2.heap.size := Nat.le_trans h1.hB h1.bel.size
  clear h1
  generalize ((w2.alloc (.cells #[.string ⟨#[97]⟩, .string ⟨#[98]⟩, .string ⟨#[97, 98]⟩, .string ⟨#[99]⟩] 9)).alloc (.cells #[.string ⟨#[]⟩, .string ⟨#[]⟩, .string ⟨#[]⟩, .string ⟨#[]⟩] 9)).alloc (.cells #[.string ⟨#[]⟩, .string ⟨#[]⟩, .string ⟨#[]⟩, .string ⟨#[]⟩] 9) = W at *
  generalize w2.heap.size = g1 at *
  go_loopw [11] (fun s11 wr => ∃ (i : Nat) (L : List Fl) (A S : List (List UInt8)), s11 = .int .i64 (i : Int) ∧ i ≤ ls.length ∧ i ≤ 60 ∧ KI i L A S ∧ Dw w.heap.size w wr d m L (1099511627776 - sm ls i) i ∧ Hid (tot L = sm ls i) ∧ SB wr g1 NM ∧ SB wr (g1 + 1) A ∧ SB wr (g1 + 1 + 1) S) (fun s11 _ => 60 - (intOf s11).toNat)
  case atStart => exact ⟨0, [], _, _, rfl, Nat.zero_le _, by decide, KI.start, hW1, rfl, hN, hA, hS⟩
  case round =>
    obtain ⟨i, L, A, S, rfl, hi, hi60, hI, hD, htot, hN', hA', hS'⟩ := hrel
    clear hW1 hN hA hS
    by_cases hgo : i < ls.length ∧ i < 60
    · obtain ⟨hlt, hlt60⟩ := hgo
      have hmod : ((i : Int)) % 4 = ((i % 4 : Nat) : Int) := by omega
      have hk4 : i % 4 < 4 := Nat.mod_lt _ (by decide)
      have hsl : sm ls (i + 1) ≤ 1048576 := Nat.le_trans (sm_le ls _) hsum
      have hss := sm_succ hlt
      rw [hss] at hsl
      obtain ⟨bl, ol, rfl, hbl, hcl⟩ := hls (by omega)
      have cl : ∀ w', Below w.heap.size w w' → w'.cell? ⟨bl, ol + i, none⟩ = some (.string (bstr ls[i])) := fun w' hb' => by
        rw [World.cell?_of_block (a := ⟨bl, ol + i, none⟩) (hb'.block bl hbl)]; exact hcl i hlt
      have hla := hI.la
      have hls4 := hI.ls
      have hD0 := hD
      have hput := fun (f' : Fl) => hI.put (f' := f') (t := ls[i]) hD.dk.srt
      have hap := Append_ok (nmK (i % 4)) ls[i] wr.drew hD.dk.drew (nmK_ok hk4) (by omega) (by have := htot.out; omega) (by omega) (by unfold maxLen; omega)
      have hat := (hI.at hk4).1
      have htt : ∀ f' : Fl, f'.name = nmK (i % 4) → f'.bytes = by_ (lk (nmK (i % 4)) L) ++ ls[i] → tot (wth f' L) = sm ls (i + 1) := fun f' a1 a2 => by
        rw [hss, ← htot.out]
        cases e : lk (nmK (i % 4)) L with
        | none =>
          rw [e] at a2
          rw [tot_wth_new hD.dk.srt (by rw [a1]; exact e), a2]; rfl
        | some o =>
          rw [e] at a2
          have := tot_wth_old (f := f') (o := o) hD.dk.srt (by rw [a1]; exact e)
          rw [a2] at this
          simp only [by_, List.length_append] at this
          omega
      go_wp2_with fail
      simp only [hmod]
      generalize hke : i % 4 = k at *
      have hki : (k : Int) < 4 := by omega
      have hki0 : (0 : Int) ≤ (k : Int) := by omega
      have cn := hN'.cell (k := k) hk4
      rw [NM_at hk4] at cn
      have cl' := cl wr hD.bel
      go_region_held3 (fun w' => w'.cell? ⟨g1, k, none⟩ = some (.string (bstr (nmK k))) ∧ w'.cell? ⟨bl, ol + i, none⟩ = some (.string (bstr ls[i]))) (first | with_reducible exact ⟨cn, cl'⟩ | go_keep)
        ((go_at_call 20; refine hap.mono ?_; rintro e w3 ⟨rfl, f', e1, e2, e3, hSt⟩; replace hN' := SB.kept hD.dk.drew hSt.kp hN'; replace hA' := SB.kept hD.dk.drew hSt.kp hA'; replace hS' := SB.kept hD.dk.drew hSt.kp hS'; replace hD := hD.drew.step hSt; clear cn cl'; have cn := hN'.cell (k := k) hk4; rw [NM_at hk4] at cn; have cl' := cl w3 hD.bel))
      clear hap cn
      have hkA : k < A.length := by omega
      have hkS : k < S.length := by omega
      have ca := hA'.cell hkA
      have hcat : ¬ 9223372036854775807 < A[k].length + ls[i].length := by
        have h1 := by_len (nmK k) L
        rw [hat, htot.out] at h1
        omega
      have fa : w3.frozen? ⟨g1 + 1, k, none⟩ = false := (cells_block hA').2 k
      go_wp2_with fail
      go_region
      have eb : A[k] ++ ls[i] = f'.bytes := by rw [e2, hat]
      have hIn := hput f' e1 e2 e3
      have htn := htt f' e1 e2
      have hDn := hD.text hA' (by omega) k (.string (bstr (A[k] ++ ls[i])))
      have hfe : 1099511627776 - sm ls i - ls[i].length = 1099511627776 - sm ls (i + 1) := by omega
      rw [hfe] at hDn
      have hAn := hA'.set k (A[k] ++ ls[i])
      have hNn := hN'.other (g := g1 + 1) (by omega) k (.string (bstr (A[k] ++ ls[i])))
      have hSn := hS'.other (g := g1 + 1) (by omega) k (.string (bstr (A[k] ++ ls[i])))
      rw [← eb] at hIn
      have hDs := hD0.dk.srt
      clear ca fa cl' hD hA' hN' hS' hput htt hat hD0
      generalize hW : w3.setCell ⟨g1 + 1, k, none⟩ (.string (bstr (A[k] ++ ls[i]))) = W4 at *
      clear hW
      have hkA' : k < (A.set k (A[k] ++ ls[i])).length := by rw [List.length_set]; exact hkA
      by_cases hbit : (bits BinOp.and IntKind.u64 (sy / 2 ^ i) 1 == 1) = true
      · have cn := hNn.cell (k := k) hk4
        rw [NM_at hk4] at cn
        have hsy := Sync_any (nmK k) W4.drew hDn.dk.drew (nmK_len hk4)
        have hlk : lk (nmK k) (wth f' L) = some f' := by rw [← e1]; exact lk_wth_same hDs f'
        rw [hlk] at hsy
        simp only [fc] at hsy
        have hIs := hIn.sync hDn.dk.srt
        simp only [hke] at hIs
        have hts := (tot_syn hDn.dk.srt (nmK k)).trans htn
        go_wp2_with fail
        refine hsy.mono ?_
        rintro e w5 ⟨rfl, hSt⟩
        have hN5 := SB.kept hDn.dk.drew hSt.kp hNn
        have hA5 := SB.kept hDn.dk.drew hSt.kp hAn
        have hS5 := SB.kept hDn.dk.drew hSt.kp hSn
        have hD5 := hDn.drew.step hSt
        clear hsy cn hNn hAn hSn hDn hSt
        have ca := hA5.cell hkA'
        have cs := hS5.cell hkS
        have fs : w5.frozen? ⟨g1 + 1 + 1, k, none⟩ = false := (cells_block hS5).2 k
        have hDz := hD5.text hS5 (by omega) k (.string (bstr ((A.set k (A[k] ++ ls[i]))[k]'hkA')))
        have hSz := hS5.set k ((A.set k (A[k] ++ ls[i]))[k]'hkA')
        have hNz := hN5.other (g := g1 + 1 + 1) (by omega) k (.string (bstr ((A.set k (A[k] ++ ls[i]))[k]'hkA')))
        have hAz := hA5.other (g := g1 + 1 + 1) (by omega) k (.string (bstr ((A.set k (A[k] ++ ls[i]))[k]'hkA')))
        clear hN5 hA5 hS5 hD5
        generalize (A.set k (A[k] ++ ls[i]))[k]'hkA' = x at *
        go_wp2
        go_roundw
        case rel => exact ⟨i + 1, synL (nmK k) (wth f' L), A.set k (A[k] ++ ls[i]), S.set k x, by simp, hlt, hlt60, hIs, hDz, hts, hNz, hAz, hSz⟩
        case measure => simp [intOf]; omega
      · have hbit' : (bits BinOp.and IntKind.u64 (sy / 2 ^ i) 1 == 1) = false := by simpa using hbit
        go_wp2
        go_roundw
        case rel => exact ⟨i + 1, wth f' L, A.set k (A[k] ++ ls[i]), S, by simp, hlt, hlt60, hIn, hDn.drew, htn, hNn, hAn, hSn⟩
        case measure => simp [intOf]; omega
    · have hki : ∀ k, k < 4 → k < ls.length → k < i := fun k h1 h2 => by omega
      have hNN : i ≤ 1099511627776 := by omega
      have htl : tot L ≤ 1048576 := by rw [htot.out]; exact Nat.le_trans (sm_le ls i) hsum
      have hL1 := List_any [] wr hD.dk hNN
      have hsmi := Nat.le_trans (sm_le ls i) hsum
      have hla := hI.la
      have hls4 := hI.ls
      rcases Nat.lt_or_ge i ls.length with hlt | hlt
      · have hlt60 : ¬ ((i : Int) < 60) := by omega
        go_wp2_with fail
        refine hL1.mono ?_
        rintro e w3 ⟨v1, rfl, hr1, hb3⟩
        obtain ⟨q1, cap1, rfl⟩ := srow_shape hr1
        have hD3 := hD.on hb3
        have hN3 := hN'.below hb3
        have hA3 := hA'.below hb3
        have hS3 := hS'.below hb3
        clear hr1 hb3
        go_wp2_with fail
        refine (Crash_any qk capk ks _ hD3.dk hNN (karg_of hD3 hks) (by rw [htot.out]; omega) (by omega)).mono ?_
        rintro e w4 ⟨rfl, L', fr', hC, hsum', hSt⟩
        have hN4 := SB.kept hD3.dk hSt.kp hN3
        have hA4 := SB.kept hD3.dk hSt.kp hA3
        have hS4 := SB.kept hD3.dk hSt.kp hS3
        have hD4 := hD3.step hSt
        have hkr := fun (k : Nat) (h1 : k < 4) (h2 : k < ls.length) => hI.crash hC hD4.dk.srt (fun f hf => (hD3.dk.fl f hf).syn) h1 (hki k h1 h2)
        have hlen : (lst [] L').length = (lst [] L).length := by rw [lst_nil, lst_nil, hC.nms]
        clear hN3 hA3 hS3 hD3 hSt
        go_wp2_with fail
        refine (List_any [] _ hD4.dk hNN).mono ?_
        rintro e w5 ⟨v2, rfl, hr2, hb5⟩
        obtain ⟨q2, cap2, rfl⟩ := srow_shape hr2
        rw [hlen]
        have hD5 := hD4.on hb5
        have hN5 := hN4.below hb5
        have hA5 := hA4.below hb5
        have hS5 := hS4.below hb5
        clear hr2 hb5 hN4 hA4 hS4 hD4 hlen
        generalize (lst [] L).length = nl at *
        have htl' : tot L' ≤ 1048576 + 1099511627776 ∧ fr' + tot L' ≤ 1048576 + 1099511627776 := by rw [htot.out] at hsum'; omega
        clear hC hsum' hD hN' hA' hS' hL1
        go_wp2_with fail
        go_loopw [15] (fun s15 wr => ∃ k : Nat, s15 = .int .i64 (k : Int) ∧ k ≤ 4 ∧ wr = w5) (fun s15 _ => 4 - (intOf s15).toNat)
        case atStart => exact ⟨0, rfl, Nat.zero_le _, rfl⟩
        case round =>
          obtain ⟨k, rfl, hkb, hwr⟩ := hrel
          subst hwr
          by_cases hk : k < 4
          · have hk4 : k < 4 := by omega
            have hkl : k < ls.length := by omega
            obtain ⟨g, y1, y2, y3, y4, y5⟩ := hkr k hk4 hkl
            have cn := hN5.cell (k := k) hk4
            rw [NM_at hk4] at cn
            have hkA : k < A.length := by omega
            have hkS : k < S.length := by omega
            have ca := hA5.cell hkA
            have cs := hS5.cell hkS
            have hrd := Read_any (nmK k) wr hD5.dk (nmK_len hk4)
            have hsy := Synced_any (nmK k) wr hD5.dk (nmK_len hk4)
            rw [y1] at hrd hsy
            simp only [by_, fc, Go.Proofs.Ytbnenpfphbdmpaa.sy] at hrd hsy
            rw [y2] at hsy
            have hhd := run_head (P := Try.prog) 9 A[k] g.bytes.length y5 wr Try.underlying9
            rw [← y3] at hhd
            have hc1 : ¬ ((g.bytes.length : Int) < (S[k].length : Int)) := by omega
            have hc2 : ¬ ((A[k].length : Int) < (g.bytes.length : Int)) := by omega
            clear y3 hkr hN5 hA5 hS5
            generalize g.bytes = gb at *
            generalize A[k] = Ak at *
            generalize S[k] = Sk at *
            go_wp2_with fail
            refine hrd.mono ?_
            intro e w6 he
            obtain ⟨rfl, hw6⟩ := he
            rw [hw6]
            clear hw6
            go_wp2_with fail
            refine hsy.mono ?_
            intro e w7 he
            obtain ⟨rfl, hw7⟩ := he
            rw [hw7]
            clear hw7
            go_wp2
            go_roundw
            case rel => exact ⟨k + 1, by simp, by omega, by trivial⟩
            case measure => simp [intOf]; omega
          · have hx : ¬ ((k : Int) < 4) := by omega
            clear hA5 hS5
            go_wp2_with fail
            refine (Copy_any _ hD5.dk hNN (by omega)).mono ?_
            rintro e w6 ⟨c, m2, L2, rfl, hPu, hDc, hb6, hfc⟩
            have hD6 := hD5.on hb6
            have hN6 := hN5.below hb6
            go_wp2_with fail
            refine (Crash_any qk capk ks _ hD6.dk hNN (karg_of hD6 hks) (by omega) (by omega)).mono ?_
            rintro e w7 ⟨rfl, L3, fr3, hC3, hsum3, hSt3⟩
            have hDc7 : Dk w7 c m2 L2 fr' i := hDc.kept (fun j hj => hSt3.kp.block j (hDc.lt hj) (fun hd => by
              have h1 := hfc j hj
              have h2 := hD5.dk.lt hd
              omega))
            have hD7 := hD6.step hSt3
            have hN7 := SB.kept hD6.dk hSt3.kp hN6
            have hk3 : ∀ k, k < 4 → k < ls.length → ∃ gb : List UInt8, by_ (lk (nmK k) L3) = gb ∧ by_ (lk (nmK k) L2) = gb := fun k h1 h2 => by
              obtain ⟨g, y1, y2, _⟩ := hkr k h1 h2
              refine ⟨g.bytes, hC3.again hD7.dk.srt y1 y2, ?_⟩
              rw [Pu_by hPu, y1]; rfl
            clear hN6 hN5 hSt3 hD6 hDc hb6 hkr hC3 hPu hD5
            go_wp2_with fail
            go_loopw [19] (fun s19 wr => ∃ k : Nat, s19 = .int .i64 (k : Int) ∧ k ≤ 4 ∧ wr = w7) (fun s19 _ => 4 - (intOf s19).toNat)
            case atStart => exact ⟨0, rfl, Nat.zero_le _, rfl⟩
            case round =>
              obtain ⟨k, rfl, hkb, hwr⟩ := hrel
              subst hwr
              by_cases hk : k < 4
              · have hk4 : k < 4 := by omega
                have hkl : k < ls.length := by omega
                obtain ⟨gb, y1, y2⟩ := hk3 k hk4 hkl
                have cn := hN7.cell (k := k) hk4
                rw [NM_at hk4] at cn
                have hr1 := Read_any (nmK k) wr hD7.dk (nmK_len hk4)
                have hr2 := Read_any (nmK k) wr hDc7 (nmK_len hk4)
                rw [y1] at hr1
                rw [y2] at hr2
                generalize fc (lk (nmK k) L3) = x1 at *
                generalize fc (lk (nmK k) L2) = x2 at *
                go_wp2_with fail
                refine hr1.mono ?_
                intro e w8 he
                obtain ⟨rfl, hw8⟩ := he
                rw [hw8]
                clear hw8
                go_wp2_with fail
                refine hr2.mono ?_
                intro e w9 he
                obtain ⟨rfl, hw9⟩ := he
                rw [hw9]
                clear hw9
                go_wp2
                go_roundw
                case rel => exact ⟨k + 1, by simp, by omega, by trivial⟩
                case measure => simp [intOf]; omega
              · have hx : ¬ ((k : Int) < 4) := by omega
                go_wp2
                go_ret
                exact ⟨rfl, hD7.bel⟩
      · rcases Nat.lt_or_ge ls.length 4 with h4 | h4
        · skip
          go_wp2_with fail
          refine hL1.mono ?_
          rintro e w3 ⟨v1, rfl, hr1, hb3⟩
          obtain ⟨q1, cap1, rfl⟩ := srow_shape hr1
          have hD3 := hD.on hb3
          have hN3 := hN'.below hb3
          have hA3 := hA'.below hb3
          have hS3 := hS'.below hb3
          clear hr1 hb3
          go_wp2_with fail
          refine (Crash_any qk capk ks _ hD3.dk hNN (karg_of hD3 hks) (by rw [htot.out]; omega) (by omega)).mono ?_
          rintro e w4 ⟨rfl, L', fr', hC, hsum', hSt⟩
          have hN4 := SB.kept hD3.dk hSt.kp hN3
          have hA4 := SB.kept hD3.dk hSt.kp hA3
          have hS4 := SB.kept hD3.dk hSt.kp hS3
          have hD4 := hD3.step hSt
          have hkr := fun (k : Nat) (h1 : k < 4) (h2 : k < ls.length) => hI.crash hC hD4.dk.srt (fun f hf => (hD3.dk.fl f hf).syn) h1 (hki k h1 h2)
          have hlen : (lst [] L').length = (lst [] L).length := by rw [lst_nil, lst_nil, hC.nms]
          clear hN3 hA3 hS3 hD3 hSt
          go_wp2_with fail
          refine (List_any [] _ hD4.dk hNN).mono ?_
          rintro e w5 ⟨v2, rfl, hr2, hb5⟩
          obtain ⟨q2, cap2, rfl⟩ := srow_shape hr2
          rw [hlen]
          have hD5 := hD4.on hb5
          have hN5 := hN4.below hb5
          have hA5 := hA4.below hb5
          have hS5 := hS4.below hb5
          clear hr2 hb5 hN4 hA4 hS4 hD4 hlen
          generalize (lst [] L).length = nl at *
          have htl' : tot L' ≤ 1048576 + 1099511627776 ∧ fr' + tot L' ≤ 1048576 + 1099511627776 := by rw [htot.out] at hsum'; omega
          clear hC hsum' hD hN' hA' hS' hL1
          go_wp2_with fail
          go_loopw [15] (fun s15 wr => ∃ k : Nat, s15 = .int .i64 (k : Int) ∧ k ≤ ls.length ∧ wr = w5) (fun s15 _ => 4 - (intOf s15).toNat)
          case atStart => exact ⟨0, rfl, Nat.zero_le _, rfl⟩
          case round =>
            obtain ⟨k, rfl, hkb, hwr⟩ := hrel
            subst hwr
            by_cases hk : k < ls.length
            · have hk4 : k < 4 := by omega
              have hkl : k < ls.length := by omega
              obtain ⟨g, y1, y2, y3, y4, y5⟩ := hkr k hk4 hkl
              have cn := hN5.cell (k := k) hk4
              rw [NM_at hk4] at cn
              have hkA : k < A.length := by omega
              have hkS : k < S.length := by omega
              have ca := hA5.cell hkA
              have cs := hS5.cell hkS
              have hrd := Read_any (nmK k) wr hD5.dk (nmK_len hk4)
              have hsy := Synced_any (nmK k) wr hD5.dk (nmK_len hk4)
              rw [y1] at hrd hsy
              simp only [by_, fc, Go.Proofs.Ytbnenpfphbdmpaa.sy] at hrd hsy
              rw [y2] at hsy
              have hhd := run_head (P := Try.prog) 9 A[k] g.bytes.length y5 wr Try.underlying9
              rw [← y3] at hhd
              have hc1 : ¬ ((g.bytes.length : Int) < (S[k].length : Int)) := by omega
              have hc2 : ¬ ((A[k].length : Int) < (g.bytes.length : Int)) := by omega
              clear y3 hkr hN5 hA5 hS5
              generalize g.bytes = gb at *
              generalize A[k] = Ak at *
              generalize S[k] = Sk at *
              go_wp2_with fail
              refine hrd.mono ?_
              intro e w6 he
              obtain ⟨rfl, hw6⟩ := he
              rw [hw6]
              clear hw6
              go_wp2_with fail
              refine hsy.mono ?_
              intro e w7 he
              obtain ⟨rfl, hw7⟩ := he
              rw [hw7]
              clear hw7
              go_wp2
              go_roundw
              case rel => exact ⟨k + 1, by simp, by omega, by trivial⟩
              case measure => simp [intOf]; omega
            · have hx : ¬ ((k : Int) < (ls.length : Int)) := by omega
              have hx4 : (k : Int) < 4 := by omega
              clear hA5 hS5
              go_wp2_with fail
              refine (Copy_any _ hD5.dk hNN (by omega)).mono ?_
              rintro e w6 ⟨c, m2, L2, rfl, hPu, hDc, hb6, hfc⟩
              have hD6 := hD5.on hb6
              have hN6 := hN5.below hb6
              go_wp2_with fail
              refine (Crash_any qk capk ks _ hD6.dk hNN (karg_of hD6 hks) (by omega) (by omega)).mono ?_
              rintro e w7 ⟨rfl, L3, fr3, hC3, hsum3, hSt3⟩
              have hDc7 : Dk w7 c m2 L2 fr' i := hDc.kept (fun j hj => hSt3.kp.block j (hDc.lt hj) (fun hd => by
                have h1 := hfc j hj
                have h2 := hD5.dk.lt hd
                omega))
              have hD7 := hD6.step hSt3
              have hN7 := SB.kept hD6.dk hSt3.kp hN6
              have hk3 : ∀ k, k < 4 → k < ls.length → ∃ gb : List UInt8, by_ (lk (nmK k) L3) = gb ∧ by_ (lk (nmK k) L2) = gb := fun k h1 h2 => by
                obtain ⟨g, y1, y2, _⟩ := hkr k h1 h2
                refine ⟨g.bytes, hC3.again hD7.dk.srt y1 y2, ?_⟩
                rw [Pu_by hPu, y1]; rfl
              clear hN6 hN5 hSt3 hD6 hDc hb6 hkr hC3 hPu hD5
              go_wp2_with fail
              go_loopw [19] (fun s19 wr => ∃ k : Nat, s19 = .int .i64 (k : Int) ∧ k ≤ ls.length ∧ wr = w7) (fun s19 _ => 4 - (intOf s19).toNat)
              case atStart => exact ⟨0, rfl, Nat.zero_le _, rfl⟩
              case round =>
                obtain ⟨k, rfl, hkb, hwr⟩ := hrel
                subst hwr
                by_cases hk : k < ls.length
                · have hk4 : k < 4 := by omega
                  have hkl : k < ls.length := by omega
                  obtain ⟨gb, y1, y2⟩ := hk3 k hk4 hkl
                  have cn := hN7.cell (k := k) hk4
                  rw [NM_at hk4] at cn
                  have hr1 := Read_any (nmK k) wr hD7.dk (nmK_len hk4)
                  have hr2 := Read_any (nmK k) wr hDc7 (nmK_len hk4)
                  rw [y1] at hr1
                  rw [y2] at hr2
                  generalize fc (lk (nmK k) L3) = x1 at *
                  generalize fc (lk (nmK k) L2) = x2 at *
                  go_wp2_with fail
                  refine hr1.mono ?_
                  intro e w8 he
                  obtain ⟨rfl, hw8⟩ := he
                  rw [hw8]
                  clear hw8
                  go_wp2_with fail
                  refine hr2.mono ?_
                  intro e w9 he
                  obtain ⟨rfl, hw9⟩ := he
                  rw [hw9]
                  clear hw9
                  go_wp2
                  go_roundw
                  case rel => exact ⟨k + 1, by simp, by omega, by trivial⟩
                  case measure => simp [intOf]; omega
                · have hx : ¬ ((k : Int) < (ls.length : Int)) := by omega
                  have hx4 : (k : Int) < 4 := by omega
                  go_wp2
                  go_ret
                  exact ⟨rfl, hD7.bel⟩
        · skip
          go_wp2_with fail
          refine hL1.mono ?_
          rintro e w3 ⟨v1, rfl, hr1, hb3⟩
          obtain ⟨q1, cap1, rfl⟩ := srow_shape hr1
          have hD3 := hD.on hb3
          have hN3 := hN'.below hb3
          have hA3 := hA'.below hb3
          have hS3 := hS'.below hb3
          clear hr1 hb3
          go_wp2_with fail
          refine (Crash_any qk capk ks _ hD3.dk hNN (karg_of hD3 hks) (by rw [htot.out]; omega) (by omega)).mono ?_
          rintro e w4 ⟨rfl, L', fr', hC, hsum', hSt⟩
          have hN4 := SB.kept hD3.dk hSt.kp hN3
          have hA4 := SB.kept hD3.dk hSt.kp hA3
          have hS4 := SB.kept hD3.dk hSt.kp hS3
          have hD4 := hD3.step hSt
          have hkr := fun (k : Nat) (h1 : k < 4) (h2 : k < ls.length) => hI.crash hC hD4.dk.srt (fun f hf => (hD3.dk.fl f hf).syn) h1 (hki k h1 h2)
          have hlen : (lst [] L').length = (lst [] L).length := by rw [lst_nil, lst_nil, hC.nms]
          clear hN3 hA3 hS3 hD3 hSt
          go_wp2_with fail
          refine (List_any [] _ hD4.dk hNN).mono ?_
          rintro e w5 ⟨v2, rfl, hr2, hb5⟩
          obtain ⟨q2, cap2, rfl⟩ := srow_shape hr2
          rw [hlen]
          have hD5 := hD4.on hb5
          have hN5 := hN4.below hb5
          have hA5 := hA4.below hb5
          have hS5 := hS4.below hb5
          clear hr2 hb5 hN4 hA4 hS4 hD4 hlen
          generalize (lst [] L).length = nl at *
          have htl' : tot L' ≤ 1048576 + 1099511627776 ∧ fr' + tot L' ≤ 1048576 + 1099511627776 := by rw [htot.out] at hsum'; omega
          clear hC hsum' hD hN' hA' hS' hL1
          go_wp2_with fail
          go_loopw [15] (fun s15 wr => ∃ k : Nat, s15 = .int .i64 (k : Int) ∧ k ≤ 4 ∧ wr = w5) (fun s15 _ => 4 - (intOf s15).toNat)
          case atStart => exact ⟨0, rfl, Nat.zero_le _, rfl⟩
          case round =>
            obtain ⟨k, rfl, hkb, hwr⟩ := hrel
            subst hwr
            by_cases hk : k < 4
            · have hk4 : k < 4 := by omega
              have hkl : k < ls.length := by omega
              obtain ⟨g, y1, y2, y3, y4, y5⟩ := hkr k hk4 hkl
              have cn := hN5.cell (k := k) hk4
              rw [NM_at hk4] at cn
              have hkA : k < A.length := by omega
              have hkS : k < S.length := by omega
              have ca := hA5.cell hkA
              have cs := hS5.cell hkS
              have hrd := Read_any (nmK k) wr hD5.dk (nmK_len hk4)
              have hsy := Synced_any (nmK k) wr hD5.dk (nmK_len hk4)
              rw [y1] at hrd hsy
              simp only [by_, fc, Go.Proofs.Ytbnenpfphbdmpaa.sy] at hrd hsy
              rw [y2] at hsy
              have hhd := run_head (P := Try.prog) 9 A[k] g.bytes.length y5 wr Try.underlying9
              rw [← y3] at hhd
              have hc1 : ¬ ((g.bytes.length : Int) < (S[k].length : Int)) := by omega
              have hc2 : ¬ ((A[k].length : Int) < (g.bytes.length : Int)) := by omega
              clear y3 hkr hN5 hA5 hS5
              generalize g.bytes = gb at *
              generalize A[k] = Ak at *
              generalize S[k] = Sk at *
              go_wp2_with fail
              refine hrd.mono ?_
              intro e w6 he
              obtain ⟨rfl, hw6⟩ := he
              rw [hw6]
              clear hw6
              go_wp2_with fail
              refine hsy.mono ?_
              intro e w7 he
              obtain ⟨rfl, hw7⟩ := he
              rw [hw7]
              clear hw7
              go_wp2
              go_roundw
              case rel => exact ⟨k + 1, by simp, by omega, by trivial⟩
              case measure => simp [intOf]; omega
            · have hx : ¬ ((k : Int) < 4) := by omega
              clear hA5 hS5
              go_wp2_with fail
              refine (Copy_any _ hD5.dk hNN (by omega)).mono ?_
              rintro e w6 ⟨c, m2, L2, rfl, hPu, hDc, hb6, hfc⟩
              have hD6 := hD5.on hb6
              have hN6 := hN5.below hb6
              go_wp2_with fail
              refine (Crash_any qk capk ks _ hD6.dk hNN (karg_of hD6 hks) (by omega) (by omega)).mono ?_
              rintro e w7 ⟨rfl, L3, fr3, hC3, hsum3, hSt3⟩
              have hDc7 : Dk w7 c m2 L2 fr' i := hDc.kept (fun j hj => hSt3.kp.block j (hDc.lt hj) (fun hd => by
                have h1 := hfc j hj
                have h2 := hD5.dk.lt hd
                omega))
              have hD7 := hD6.step hSt3
              have hN7 := SB.kept hD6.dk hSt3.kp hN6
              have hk3 : ∀ k, k < 4 → k < ls.length → ∃ gb : List UInt8, by_ (lk (nmK k) L3) = gb ∧ by_ (lk (nmK k) L2) = gb := fun k h1 h2 => by
                obtain ⟨g, y1, y2, _⟩ := hkr k h1 h2
                refine ⟨g.bytes, hC3.again hD7.dk.srt y1 y2, ?_⟩
                rw [Pu_by hPu, y1]; rfl
              clear hN6 hN5 hSt3 hD6 hDc hb6 hkr hC3 hPu hD5
              go_wp2_with fail
              go_loopw [19] (fun s19 wr => ∃ k : Nat, s19 = .int .i64 (k : Int) ∧ k ≤ 4 ∧ wr = w7) (fun s19 _ => 4 - (intOf s19).toNat)
              case atStart => exact ⟨0, rfl, Nat.zero_le _, rfl⟩
              case round =>
                obtain ⟨k, rfl, hkb, hwr⟩ := hrel
                subst hwr
                by_cases hk : k < 4
                · have hk4 : k < 4 := by omega
                  have hkl : k < ls.length := by omega
                  obtain ⟨gb, y1, y2⟩ := hk3 k hk4 hkl
                  have cn := hN7.cell (k := k) hk4
                  rw [NM_at hk4] at cn
                  have hr1 := Read_any (nmK k) wr hD7.dk (nmK_len hk4)
                  have hr2 := Read_any (nmK k) wr hDc7 (nmK_len hk4)
                  rw [y1] at hr1
                  rw [y2] at hr2
                  generalize fc (lk (nmK k) L3) = x1 at *
                  generalize fc (lk (nmK k) L2) = x2 at *
                  go_wp2_with fail
                  refine hr1.mono ?_
                  intro e w8 he
                  obtain ⟨rfl, hw8⟩ := he
                  rw [hw8]
                  clear hw8
                  go_wp2_with fail
                  refine hr2.mono ?_
                  intro e w9 he
                  obtain ⟨rfl, hw9⟩ := he
                  rw [hw9]
                  clear hw9
                  go_wp2
                  go_roundw
                  case rel => exact ⟨k + 1, by simp, by omega, by trivial⟩
                  case measure => simp [intOf]; omega
                · have hx : ¬ ((k : Int) < 4) := by omega
                  go_wp2
                  go_ret
                  exact ⟨rfl, hD7.bel⟩

end Go.Proofs.Ytbnenpfphbdmpaa
