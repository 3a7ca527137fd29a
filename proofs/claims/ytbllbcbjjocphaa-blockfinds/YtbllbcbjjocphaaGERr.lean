/-
  What the document's reading of numbers answers: the same as 'numOf'.
  The contracts of the document's reading of numbers and texts.
  The contracts of the document's reader (New, Left, Number, Text, Byte), over this seat's translation.
-/
import Derived.Test.YtbllbcbjjocphaaNum
import Derived.Laws.BitsAllLaws
import Derived.Lib.VarintBits
import Derived.Test.YtbllbcbjjocphaaCRefN
import Derived.Test.YtbllbcbjjocphaaCDec
namespace Go.Proofs.Ytbllbcbjjocphaa

/-- What the seven bits of bytes spell. -/
def valL : List UInt8 → Nat
  | [] => 0
  | b :: r => valL r * 128 + b.toNat % 128
theorem uv_form : ∀ (fuel v : Nat), v ≤ fuel → valL (Lib.uvarint v) = v ∧ ∀ i (h : i < (Lib.uvarint v).length), ((Lib.uvarint v)[i].toNat < 128 ↔ i + 1 = (Lib.uvarint v).length)
  | fuel, v, hf => by
    by_cases hs : v < 128
    · have e : (v.toUInt8).toNat = v := toNat_toUInt8 (by omega)
      rw [Lib.uvarint_small hs]
      refine ⟨by simp [valL, e]; omega, ?_⟩
      intro i h
      simp only [List.length_singleton] at h
      have : i = 0 := by omega
      subst this
      exact ⟨fun _ => rfl, fun _ => by show (v.toUInt8).toNat < 128; omega⟩
    · match fuel, hf with
      | 0, hf => omega
      | fuel + 1, hf =>
        obtain ⟨h1, h2⟩ := uv_form fuel (v / 128) (by omega)
        have e : ((v % 128 + 128).toUInt8).toNat = v % 128 + 128 := toNat_toUInt8 (by omega)
        have hp := Lib.uvarint_pos (v / 128)
        rw [Lib.uvarint_big (by omega)]
        refine ⟨?_, ?_⟩
        · rw [valL, h1, e]
          omega
        · intro i h
          cases i with
          | zero =>
            simp only [List.getElem_cons_zero, e, List.length_cons]
            omega
          | succ i =>
            simp only [List.length_cons] at h ⊢
            simp only [List.getElem_cons_succ]
            rw [h2 i (by omega)]
            omega
/-- Ahead of index n all bytes go on; it ends one at n: what is read. -/
theorem num_here {l : List UInt8} {n : Nat} (hn : n < l.length) (ha : ∀ j (h : j < l.length), j < n → 128 ≤ l[j].toNat) (he : l[n].toNat < 128) {V : Nat} (hV : V = valL (l.take (n + 1)) % 18446744073709551616) :
    (Lib.uvarint V = l.take (n + 1) → numOf l = (V, n + 1)) ∧ (Lib.uvarint V ≠ l.take (n + 1) → numOf l = (0, 0)) := by
  have hlt : V < 18446744073709551616 := by rw [hV]; exact Nat.mod_lt _ (by omega)
  constructor
  · intro h
    have := numOf_uvarint V hlt (l.drop (n + 1))
    rw [h, List.take_append_drop] at this
    rw [this, List.length_take]
    congr 1
    omega
  · intro h
    by_cases h0 : (numOf l).2 = 0
    · have := numOf_none h0
      generalize numOf l = p at *
      obtain ⟨a, b⟩ := p
      simp only at h0 this
      rw [h0, this]
    · exfalso
      obtain ⟨k1, k2, k3, k4, k5⟩ := numOf_back (l := l) (v := (numOf l).1) (n := (numOf l).2) rfl h0
      obtain ⟨f1, f2⟩ := uv_form _ (numOf l).1 (Nat.le_refl _)
      generalize (numOf l).1 = v at *
      generalize (numOf l).2 = k at *
      rw [← k5] at f1 f2
      have hlen : (l.take k).length = k := by rw [List.length_take]; omega
      have hk : k = n + 1 := by
        rcases Nat.lt_trichotomy k (n + 1) with hc | hc | hc
        · have a1 := ha (k - 1) (by omega) (by omega)
          have a2 := (f2 (k - 1) (by omega)).2 (by omega)
          simp only [List.getElem_take] at a2
          omega
        · exact hc
        · have a2 := (f2 n (by omega)).1 (by simp only [List.getElem_take]; exact he)
          omega
      subst hk
      rw [f1, Nat.mod_eq_of_lt k4] at hV
      subst hV
      exact h k5.symm
/-- No byte ends a number. -/
theorem num_never {l : List UInt8} {n : Nat} (hn : 10 ≤ n ∨ l.length ≤ n) (ha : ∀ j (h : j < l.length), j < n → 128 ≤ l[j].toNat) : numOf l = (0, 0) := by
  by_cases h0 : (numOf l).2 = 0
  · have := numOf_none h0
    generalize numOf l = p at *
    obtain ⟨a, b⟩ := p
    simp only at h0 this
    rw [h0, this]
  · exfalso
    obtain ⟨k1, k2, k3, k4, k5⟩ := numOf_back (l := l) (v := (numOf l).1) (n := (numOf l).2) rfl h0
    obtain ⟨f1, f2⟩ := uv_form _ (numOf l).1 (Nat.le_refl _)
    generalize (numOf l).1 = v at *
    generalize (numOf l).2 = k at *
    rw [← k5] at f1 f2
    have hlen : (l.take k).length = k := by rw [List.length_take]; omega
    have a1 := ha (k - 1) (by omega) (by omega)
    have a2 := (f2 (k - 1) (by omega)).2 (by omega)
    simp only [List.getElem_take] at a2
    omega
/-- One more of the bits. -/
theorem val_step {l : List UInt8} {n i : Nat} (hn : n ≤ l.length) (hi : i < n) : valL ((l.take n).drop i) = valL ((l.take n).drop (i + 1)) * 128 + l[i].toNat % 128 := by
  have h : i < (l.take n).length := by rw [List.length_take]; omega
  rw [List.drop_eq_getElem_cons h, valL]
  simp only [List.getElem_take]
theorem ror_step {z d : Nat} (hd : d < 128) : bits .or .u64 (((z * 128 % 18446744073709551616 : Nat)) : Int) (d : Int) = (((z * 128 + d) % 18446744073709551616 : Nat) : Int) := by
  rw [u64_or_nat _ _ (Nat.mod_lt _ (by omega)) (by omega), Nat.or_comm, ← u64_or_nat _ _ (by omega) (Nat.mod_lt _ (by omega))]
  rw [u64_orv7 _ _ (by omega) (by omega) (by omega) (by omega) (by omega)]
  omega

end Go.Proofs.Ytbllbcbjjocphaa

namespace Go.Proofs.Ytbllbcbjjocphaa
open Go.RowKit Go.BigFrame Go.Sort
attribute [local go_sem] size_bstr getElem_bstr toList_bstr

set_option maxHeartbeats 4000000 in
set_option maxRecDepth 100000 in
theorem RTakeNumber_any (l : List UInt8) (w : World) (hl : l.length ≤ 10000000000) :
    Calls Try.prog 69 #[.string (bstr l)] w fun e w' => e = .returned (.tuple #[.int .u64 ((numOf l).1 : Int), .int .i64 ((numOf l).2 : Int)]) ∧ RowKit.Below w.heap.size w w' := by
  obtain ⟨P, hP⟩ : ∃ P, numOf l = P := ⟨_, rfl⟩
  rw [hP]
  have HP : Hid (numOf l = P) := hP
  clear hP
  go_enter Try.func69, Try.ntmps69
  go_wp2
  go_loopw [4] (fun s4 wr => ∃ n : Nat, s4 = .int .i64 ((n : Int) + 1) ∧ n ≤ 10 ∧ n ≤ l.length ∧ Hid (∀ j (h : j < l.length), j < n → 128 ≤ l[j].toNat) ∧ RowKit.Below w.heap.size w wr) (fun s4 _ => 11 - (intOf s4).toNat)
  case atStart => exact ⟨0, rfl, by omega, by omega, by show ∀ _, _; intro j h hj; omega, RowKit.Below.refl _ _⟩
  case round =>
    obtain ⟨n, rfl, hn10, hnl, HA, hbel⟩ := hrel
    by_cases hin : n < 10 ∧ n < l.length
    · obtain ⟨hn1, hn2⟩ := hin
      have hb := (l[n]).toNat_lt
      by_cases h128 : 128 ≤ l[n].toNat
      · have HA2 : Hid (∀ j (h : j < l.length), j < n + 1 → 128 ≤ l[j].toNat) := by
          show ∀ _, _
          intro j h hj
          by_cases hj2 : j < n
          · exact HA.out j h hj2
          · have : j = n := by omega
            subst this
            exact h128
        go_wp2
        exact ⟨⟨n + 1, by go_num, by omega, by omega, HA2, hbel⟩, by simp [intOf]; omega⟩
      · have hsl : ∀ w : World, (Instr.slice 9 (.string (bstr l)) none (some (.int .i64 ((n : Int) + 1))) none).run Try.prog w = .ok (.string (bstr (l.take (n + 1)))) w := fun w => run_head (P := Try.prog) 9 l (n + 1) (by omega) w Try.underlying9
        have hsb : (n : Int) + 1 - 1 = (n : Int) := by omega
        go_wp2
        go_loopw [5, 6] (fun s5 s6 w' => ∃ i z : Nat, s6 = .int .i64 ((i : Int) - 1) ∧ i ≤ n + 1 ∧ s5 = .int .u64 (z : Int) ∧ Hid (z = valL ((l.take (n + 1)).drop i) % 18446744073709551616) ∧ RowKit.Below w.heap.size w w') (fun _ s6 _ => ((intOf s6) + 1).toNat)
        case atStart => exact ⟨n + 1, 0, by go_num, by omega, rfl, by show _ = _; rw [List.drop_eq_nil_of_le (by rw [List.length_take]; omega)]; rfl, hbel⟩
        case round =>
          clear hbel
          obtain ⟨i, z, rfl, hi, rfl, HZ, hbel⟩ := hrel
          cases i with
          | succ j =>
            rw [show ((j + 1 : Nat) : Int) - 1 = (j : Int) by omega]
            have hj0 : (0 : Int) ≤ (j : Int) := by omega
            have hjl : (j : Int) < (l.length : Int) := by omega
            have hbj := (l[j]).toNat_lt
            have HV : Hid (valL ((l.take (n + 1)).drop j) = valL ((l.take (n + 1)).drop (j + 1)) * 128 + l[j].toNat % 128) := val_step (by omega) (by omega)
            go_wp2
            exact ⟨⟨j, (z * 128 + l[j].toNat % 128) % 18446744073709551616, rfl, by omega, by rw [show IntKind.u64.wrap ((z : Int) * 128) = ((z * 128 % 18446744073709551616 : Nat) : Int) by simp [IntKind.wrap, IntKind.bits, IntKind.signed], show ((l[j].toNat : Int) % 128) = ((l[j].toNat % 128 : Nat) : Int) by omega, ror_step (by omega)], by show _ = _; rw [HV.out, HZ.out]; omega, hbel⟩, by first | (simp [intOf]; done) | (simp [intOf]; omega)⟩
          | zero =>
            rw [show ((0 : Nat) : Int) - 1 = -1 by omega]
            rw [List.drop_zero] at HZ
            have hh := num_here hn2 HA.out (by omega) HZ.out
            have hzl : z < 18446744073709551616 := by rw [HZ.out]; exact Nat.mod_lt _ (by omega)
            have hcon := fun W => RNumber_any z W hzl
            by_cases heq : Lib.uvarint z = l.take (n + 1)
            · have HE : Hid (P = (z, n + 1)) := by show _ = _; rw [← HP.out]; exact hh.1 heq
              rw [heq] at hcon
              clear hh heq HZ HA
              generalize l.take (n + 1) = T at *
              go_wp2_with fail
              refine wp_region_quiet_below (by kernel_rfl) (by kernel_rfl) ?_
              repeat (go_big_quiet_step ((go_at_call 84; with_reducible exact Calls.regrown_of (hcon _))))
              refine wpQuiet_nil ?_
              intro _ hw'
              obtain ⟨⟨dq, osq⟩, hw''⟩ := hw'
              subst hw''
              have hb2 := below2 hbel (below_regrown wr dq osq)
              clear hbel hcon
              generalize grow (redrawn wr dq) osq = W1 at *
              go_wp2
              go_ret2
              exact ⟨by rw [HE.out]; rfl, hb2⟩
            · have HE : Hid (P = (0, 0)) := by show _ = _; rw [← HP.out]; exact hh.2 heq
              clear hh HZ HA
              have hne : (Lib.uvarint z == l.take (n + 1)) = false := by rw [beq_eq_false_iff_ne]; exact heq
              generalize l.take (n + 1) = T at *
              generalize Lib.uvarint z = Z at *
              go_wp2_with fail
              refine wp_region_quiet_below (by kernel_rfl) (by kernel_rfl) ?_
              repeat (go_big_quiet_step ((go_at_call 84; with_reducible exact Calls.regrown_of (hcon _))))
              refine wpQuiet_nil ?_
              intro _ hw'
              obtain ⟨⟨dq, osq⟩, hw''⟩ := hw'
              subst hw''
              have hb2 := below2 hbel (below_regrown wr dq osq)
              clear hbel hcon
              generalize grow (redrawn wr dq) osq = W1 at *
              go_wp2
              go_ret2
              exact ⟨by rw [HE.out]; rfl, hb2⟩
    · have HN : Hid (P = (0, 0)) := by show _ = _; rw [← HP.out]; exact num_never (by omega) HA.out
      by_cases hn1 : n < 10
      · go_wp2
        go_ret2
        exact ⟨by rw [HN.out]; rfl, hbel⟩
      · go_wp2
        go_ret2
        exact ⟨by rw [HN.out]; rfl, hbel⟩

end Go.Proofs.Ytbllbcbjjocphaa

namespace Go.Proofs.Ytbllbcbjjocphaa
open Go.RowKit Go.BigFrame Go.Sort
attribute [local go_sem] size_bstr getElem_bstr toList_bstr

theorem rrun_piece {P : Program} (t : TypeId) (L : List UInt8) (i j : Nat) (hij : i ≤ j) (hj : j ≤ L.length) (w : World) (ht : P.underlying t = some .string) :
    (Instr.slice t (.string (bstr L)) (some (.int .i64 (i : Int))) (some (.int .i64 (j : Int))) none).run P w = .ok (.string (bstr ((L.drop i).take (j - i)))) w := by
  have h := run_slice_string (P := P) (w := w) t (bstr L) .i64 .i64 (i : Int) (j : Int) ht (by omega) (by omega) (by rw [size_bstr]; omega)
  rw [h]
  have e2 : (bstr L).extract ((i : Int).toNat) ((j : Int).toNat) = bstr ((L.drop i).take (j - i)) := by
    apply ByteArray.ext
    simp [bstr, List.extract_eq_take_drop]
  rw [e2]
theorem rrun_from {P : Program} (t : TypeId) (L : List UInt8) (i : Nat) (hi : i ≤ L.length) (w : World) (ht : P.underlying t = some .string) :
    (Instr.slice t (.string (bstr L)) (some (.int .i64 (i : Int))) none none).run P w = .ok (.string (bstr (L.drop i))) w := by
  have h := run_slice_string_l (P := P) (t := t) (s := bstr L) (w := w) ht .i64 (i : Int) (by omega) (by rw [size_bstr]; omega)
  rw [h]
  have e2 : (bstr L).extract ((i : Int).toNat) (bstr L).size = bstr (L.drop i) := by
    apply ByteArray.ext
    rw [size_bstr]
    simp only [bstr, ByteArray.data_extract, List.extract_toArray, Int.toNat_natCast, List.extract_eq_take_drop]
    rw [List.take_of_length_le (by rw [List.length_drop]; omega)]
  rw [e2]

/-- Block g is the document's reader, of which s is left. -/
def Rr (w : World) (g : Nat) (s : ByteArray) : Prop := w.heap[g]? = some (.cells #[.string s] 97 (0, 0))
theorem Rr.cell0 {w : World} {g : Nat} {s : ByteArray} (h : Rr w g s) : w.cell? ⟨g, 0, none⟩ = some (.string s) := by
  unfold Rr at h
  simp [World.cell?, h]
theorem Rr.free {w : World} {g : Nat} {s : ByteArray} (h : Rr w g s) : w.frozen? ⟨g, 0, none⟩ = false := by
  unfold Rr at h
  simp [World.frozen?, h]
theorem Rr.lt {w : World} {g : Nat} {s : ByteArray} (h : Rr w g s) : g < w.heap.size := lt_of_block h
theorem Rr.set {w : World} {g : Nat} {s : ByteArray} (h : Rr w g s) (t : ByteArray) : Rr (w.setCell ⟨g, 0, none⟩ (.string t)) g t := by
  have hlt := h.lt
  unfold Rr at *
  have h' : w.heap[g] = .cells #[.string s] 97 (0, 0) := by simpa [Array.getElem?_eq_getElem hlt] using h
  show (w.heap.modify g _)[g]? = _
  rw [Array.getElem?_eq_getElem (by simpa using hlt), Array.getElem_modify_self, h']
  rfl
theorem Rr.below {w w' : World} {g : Nat} {s : ByteArray} {B : Nat} (h : Rr w g s) (hb : RowKit.Below B w w') (hg : g < B) : Rr w' g s := (hb.block g hg).trans h
theorem Rr.next {w w' : World} {g : Nat} {s : ByteArray} (h : Rr w g s) (hb : RowKit.Below w.heap.size w w') : Rr w' g s := h.below hb h.lt

set_option maxHeartbeats 400000 in
theorem RNew_any (s : ByteArray) (w : World) :
    Calls Try.prog 38 #[.string s] w fun e w' => e = .returned (.pointer (some ⟨w.heap.size, 0, none⟩)) ∧ Rr w' w.heap.size s ∧ RowKit.Below w.heap.size w w' := by
  go_enter Try.func38, Try.ntmps38
  go_wp2
  go_ret
  exact ⟨rfl, heap_alloc_new w _, (RowKit.Below.refl _ _).alloc (Nat.le_refl _) _⟩

set_option maxHeartbeats 400000 in
theorem RLeft_any (g : Nat) (l : List UInt8) (w : World) (h : Rr w g (bstr l)) :
    Calls Try.prog 39 #[.pointer (some ⟨g, 0, none⟩)] w fun e w' => e = .returned (.int .i64 (l.length : Int)) ∧ w' = w := by
  have c0 := h.cell0
  go_enter Try.func39, Try.ntmps39
  go_wp2
  go_ret
  exact ⟨rfl, rfl⟩

set_option maxHeartbeats 1000000 in
set_option maxRecDepth 100000 in
theorem RNumber_r (g : Nat) (l : List UInt8) (w : World) (h : Rr w g (bstr l)) (hl : l.length ≤ 10000000) :
    Calls Try.prog 40 #[.pointer (some ⟨g, 0, none⟩)] w fun e w' => e = .returned (.tuple #[.int .u64 (nV l), .bool (okN l)]) ∧ Rr w' g (bstr (nR l)) ∧ w.grownBy w' (some g) := by
  have c0 := h.cell0
  have hcon := fun W => RTakeNumber_any l W (by omega)
  cases ho : okN l with
  | true =>
    have hv : nV l = (numOf l).1 := by unfold nV; rw [ho, if_pos rfl]
    have hr : nR l = l.drop (numOf l).2 := by unfold nR; rw [ho, if_pos rfl]
    simp only [okN, decide_eq_true_eq] at ho
    have hle : (numOf l).2 ≤ l.length := (numOf_back (l := l) (v := (numOf l).1) rfl ho).2.2.1
    have hsl := fun W => rrun_from (P := Try.prog) 9 l (numOf l).2 hle W Try.underlying9
    rw [← hr] at hsl
    rw [← hv] at hcon
    have hnz : (((numOf l).2 : Int) == 0) = false := by simp; omega
    clear hv hr
    generalize (numOf l).2 = n at *
    generalize nV l = v at *
    generalize nR l = r at *
    go_enter Try.func40, Try.ntmps40
    go_wp2_with fail
    refine (hcon _).mono ?_
    rintro e w1 ⟨rfl, hb1⟩
    have h1 := h.next hb1
    clear c0
    have c0 := h1.cell0
    have f0 := h1.free
    go_wp2
    go_ret2
    exact ⟨rfl, h1.set _, grown_trans (grown_of_below hb1) (grown_setCell _ _ _)⟩
  | false =>
    have hv : nV l = 0 := by unfold nV; rw [ho, if_neg (by simp)]
    have hr : nR l = l := by unfold nR; rw [ho, if_neg (by simp)]
    simp only [okN, decide_eq_false_iff_not, Decidable.not_not] at ho
    rw [numOf_none ho, ho] at hcon
    rw [hv, hr]
    go_enter Try.func40, Try.ntmps40
    go_wp2_with fail
    refine (hcon _).mono ?_
    rintro e w1 ⟨rfl, hb1⟩
    have h1 := h.next hb1
    go_wp2
    go_ret2
    exact ⟨rfl, h1, grown_of_below hb1⟩

set_option maxHeartbeats 1000000 in
set_option maxRecDepth 100000 in
theorem RTakeText_yes (m : Nat) (l : List UInt8) (w : World) (hl : l.length ≤ 10000000) (hm : m ≤ 10000000) (ho : okT m l = true) :
    Calls Try.prog 70 #[.string (bstr l), .int .i64 m] w fun e w' => e = .returned (.tuple #[.string (bstr (tV m l)), .int .i64 (((numOf l).2 + (numOf l).1 : Nat) : Int)]) ∧ RowKit.Below w.heap.size w w' := by
  have hcon := fun W => RTakeNumber_any l W (by omega)
  have hv : tV m l = (l.drop (numOf l).2).take (numOf l).1 := by unfold tV; rw [ho, if_pos rfl]
  simp only [okT, Bool.and_eq_true, decide_eq_true_eq] at ho
  obtain ⟨⟨h1, h2⟩, h3⟩ := ho
  have hsl := fun W => rrun_piece (P := Try.prog) 9 l (numOf l).2 ((numOf l).2 + (numOf l).1) (by omega) h3 W Try.underlying9
  rw [show (numOf l).2 + (numOf l).1 - (numOf l).2 = (numOf l).1 by omega, ← hv] at hsl
  have hnz : (((numOf l).2 : Int) == 0) = false := by simp; omega
  clear hv
  generalize (numOf l).2 = n at *
  generalize (numOf l).1 = v at *
  generalize tV m l = t at *
  rw [show (((n + v : Nat)) : Int) = (n : Int) + (v : Int) by omega] at *
  go_enter Try.func70, Try.ntmps70
  go_wp2_with fail
  refine (hcon _).mono ?_
  rintro e w1 ⟨rfl, hb1⟩
  go_wp2
  go_ret2
  exact ⟨rfl, hb1⟩

set_option maxHeartbeats 1000000 in
set_option maxRecDepth 100000 in
theorem RTakeText_no (m : Nat) (l : List UInt8) (w : World) (hl : l.length ≤ 10000000) (hm : m ≤ 10000000) (ho : okT m l = false) :
    Calls Try.prog 70 #[.string (bstr l), .int .i64 m] w fun e w' => e = .returned (.tuple #[.string ⟨#[]⟩, .int .i64 0]) ∧ RowKit.Below w.heap.size w w' := by
  have hcon := fun W => RTakeNumber_any l W (by omega)
  simp only [okT, Bool.and_eq_false_iff, decide_eq_false_iff_not] at ho
  have hlt := numOf_lt l
  by_cases h0 : (numOf l).2 = 0
  · rw [numOf_none h0, h0] at hcon
    go_enter Try.func70, Try.ntmps70
    go_wp2_with fail
    refine (hcon _).mono ?_
    rintro e w1 ⟨rfl, hb1⟩
    go_wp2
    go_ret2
    exact ⟨rfl, hb1⟩
  · have hle : (numOf l).2 ≤ l.length := (numOf_back (l := l) (v := (numOf l).1) rfl h0).2.2.1
    have hnz : (((numOf l).2 : Int) == 0) = false := by simp; omega
    generalize (numOf l).2 = n at *
    generalize (numOf l).1 = v at *
    by_cases h3 : n + v ≤ l.length
    · have hvm : m < v := by omega
      go_enter Try.func70, Try.ntmps70
      go_wp2_with fail
      refine (hcon _).mono ?_
      rintro e w1 ⟨rfl, hb1⟩
      go_wp2
      go_ret2
      exact ⟨rfl, hb1⟩
    · go_enter Try.func70, Try.ntmps70
      go_wp2_with fail
      refine (hcon _).mono ?_
      rintro e w1 ⟨rfl, hb1⟩
      go_wp2
      go_ret2
      exact ⟨rfl, hb1⟩

set_option maxHeartbeats 1000000 in
set_option maxRecDepth 100000 in
theorem RText_r (g m : Nat) (l : List UInt8) (w : World) (h : Rr w g (bstr l)) (hl : l.length ≤ 10000000) (hm : m ≤ 10000000) :
    Calls Try.prog 41 #[.pointer (some ⟨g, 0, none⟩), .int .i64 m] w fun e w' => e = .returned (.tuple #[.string (bstr (tV m l)), .bool (okT m l)]) ∧ Rr w' g (bstr (tR m l)) ∧ w.grownBy w' (some g) := by
  have c0 := h.cell0
  cases ho : okT m l with
  | true =>
    have hcon := fun W => RTakeText_yes m l W hl hm ho
    have hr : tR m l = l.drop ((numOf l).2 + (numOf l).1) := by unfold tR; rw [ho, if_pos rfl]
    simp only [okT, Bool.and_eq_true, decide_eq_true_eq] at ho
    obtain ⟨⟨h1, h2⟩, h3⟩ := ho
    have hsl := fun W => rrun_from (P := Try.prog) 9 l ((numOf l).2 + (numOf l).1) h3 W Try.underlying9
    rw [← hr] at hsl
    have hnz : ((((numOf l).2 + (numOf l).1 : Nat) : Int) == 0) = false := by simp; omega
    have hpos : (numOf l).2 + (numOf l).1 ≠ 0 := by omega
    clear hr h1 h2
    generalize (numOf l).2 + (numOf l).1 = n at *
    generalize tV m l = t at *
    generalize tR m l = r at *
    go_enter Try.func41, Try.ntmps41
    go_wp2_with fail
    refine (hcon _).mono ?_
    rintro e w1 ⟨rfl, hb1⟩
    have h1 := h.next hb1
    clear c0
    have c0 := h1.cell0
    have f0 := h1.free
    go_wp2
    go_ret2
    exact ⟨rfl, h1.set _, grown_trans (grown_of_below hb1) (grown_setCell _ _ _)⟩
  | false =>
    have hcon := fun W => RTakeText_no m l W hl hm ho
    have hv : tV m l = [] := by unfold tV; rw [ho, if_neg (by simp)]
    have hr : tR m l = l := by unfold tR; rw [ho, if_neg (by simp)]
    rw [hv, hr]
    go_enter Try.func41, Try.ntmps41
    go_wp2_with fail
    refine (hcon _).mono ?_
    rintro e w1 ⟨rfl, hb1⟩
    have h1 := h.next hb1
    go_wp2
    go_ret2
    exact ⟨rfl, h1, grown_of_below hb1⟩

set_option maxHeartbeats 1000000 in
set_option maxRecDepth 100000 in
theorem RTake_one (g : Nat) (x : UInt8) (l : List UInt8) (w : World) (h : Rr w g (bstr (x :: l))) :
    Calls Try.prog 71 #[.pointer (some ⟨g, 0, none⟩), .int .i64 1] w fun e w' => e = .returned (.tuple #[.string (bstr [x]), .bool true]) ∧ Rr w' g (bstr l) ∧ w.grownBy w' (some g) := by
  have c0 := h.cell0
  have f0 := h.free
  have hs1 := fun W => run_head (P := Try.prog) 9 (x :: l) 1 (by simp) W Try.underlying9
  have hs2 := fun W => rrun_from (P := Try.prog) 9 (x :: l) 1 (by simp) W Try.underlying9
  rw [show (x :: l).take 1 = [x] from rfl, show ((1 : Nat) : Int) = 1 from rfl] at hs1
  rw [show (x :: l).drop 1 = l from rfl, show ((1 : Nat) : Int) = 1 from rfl] at hs2
  have hlen : 0 < (x :: l).length := by simp
  have hset := h.set (bstr l)
  generalize x :: l = L at *
  go_enter Try.func71, Try.ntmps71
  go_wp2
  go_ret2
  exact ⟨rfl, hset, grown_setCell _ _ _⟩

set_option maxHeartbeats 1000000 in
set_option maxRecDepth 100000 in
theorem RTake_none (g : Nat) (w : World) (h : Rr w g (bstr [])) :
    Calls Try.prog 71 #[.pointer (some ⟨g, 0, none⟩), .int .i64 1] w fun e w' => e = .returned (.tuple #[.string ⟨#[]⟩, .bool false]) ∧ w' = w := by
  have c0 := h.cell0
  go_enter Try.func71, Try.ntmps71
  go_wp2
  go_ret2
  exact ⟨rfl, rfl⟩

set_option maxHeartbeats 1000000 in
set_option maxRecDepth 100000 in
theorem RByte_r (g : Nat) (l : List UInt8) (w : World) (h : Rr w g (bstr l)) :
    Calls Try.prog 42 #[.pointer (some ⟨g, 0, none⟩)] w fun e w' => e = .returned (.tuple #[.int .u8 ((bV l).toNat : Int), .bool (okB l)]) ∧ Rr w' g (bstr (bR l)) ∧ w.grownBy w' (some g) := by
  cases l with
  | nil =>
    go_enter Try.func42, Try.ntmps42
    go_wp2_with fail
    refine (RTake_none g w h).mono ?_
    rintro e w1 ⟨rfl, rfl⟩
    go_wp2
    go_ret2
    exact ⟨rfl, h, grown_refl _ _⟩
  | cons x l =>
    go_enter Try.func42, Try.ntmps42
    go_wp2_with fail
    refine (RTake_one g x l w h).mono ?_
    rintro e w1 ⟨rfl, h1, g1⟩
    go_wp2
    go_ret2
    exact ⟨rfl, h1, g1⟩

end Go.Proofs.Ytbllbcbjjocphaa

