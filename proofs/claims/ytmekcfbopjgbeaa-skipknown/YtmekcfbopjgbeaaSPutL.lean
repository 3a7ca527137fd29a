/-
  The law's put: all cells of a row, at heights that go round.
-/
import Derived.Test.YtmekcfbopjgbeaaSGet
namespace Go.Proofs.Ytmekcfbopjgbeaa
open Go.RowKit Go.BigFrame Go.Sort
attribute [local go_sem] size_bstr toList_bstr ls_def

/-- The order in which they are put. -/
def ord (back : Bool) (cs : List Cl) : List Cl := if back = true then cs.reverse else cs
theorem ord_length (back : Bool) (cs : List Cl) : (ord back cs).length = cs.length := by cases back <;> simp [ord]
theorem ord_get (back : Bool) (cs : List Cl) {i k : Nat} (hi : i < cs.length) (hk : k = if back = true then cs.length - 1 - i else i) : ∃ hk' : k < cs.length, (ord back cs)[i]? = some (cs[k]'hk') := by
  cases back with
  | false =>
    have hk : k = i := hk
    subst hk
    exact ⟨hi, by simp [ord, hi]⟩
  | true =>
    have hk : k = cs.length - 1 - i := hk
    subst hk
    refine ⟨by omega, ?_⟩
    simp only [ord, if_true]
    rw [List.getElem?_reverse hi, List.getElem?_eq_getElem (by omega)]
/-- The cells that may be, put one behind the other. -/
def putV (l : List Cl) : List Cl := putL (l.filter fun c => mayCl c)
theorem putV_yes {l : List Cl} {i : Nat} {c : Cl} (h : l[i]? = some c) (hm : mayCl c = true) : putV (l.take (i + 1)) = putC c (putV (l.take i)) := by
  have hlt : i < l.length := by
    rcases Nat.lt_or_ge i l.length with a | a
    · exact a
    · rw [List.getElem?_eq_none a] at h; cases h
  rw [List.getElem?_eq_getElem hlt] at h
  simp only [Option.some.injEq] at h
  unfold putV
  rw [List.take_succ_eq_append_getElem hlt, List.filter_append, h]
  rw [show ([c] : List Cl).filter (fun c => mayCl c) = [c] by simp [hm], putL_snoc]
theorem putV_no {l : List Cl} {i : Nat} {c : Cl} (h : l[i]? = some c) (hm : mayCl c = false) : putV (l.take (i + 1)) = putV (l.take i) := by
  have hlt : i < l.length := by
    rcases Nat.lt_or_ge i l.length with a | a
    · exact a
    · rw [List.getElem?_eq_none a] at h; cases h
  rw [List.getElem?_eq_getElem hlt] at h
  simp only [Option.some.injEq] at h
  unfold putV
  rw [List.take_succ_eq_append_getElem hlt, List.filter_append, h]
  rw [show ([c] : List Cl).filter (fun c => mayCl c) = [] by simp [hm], List.append_nil]

/-- Put, whatever the cell is, where no walk is under way. -/
theorem Put_all (l hd : Nat) (T : List Tw) (v : Value) (c : Cl) (h : Nat) (w : World) (hL : Ls w l hd T v []) (hh1 : 1 ≤ h) (hh2 : h ≤ 12) (hlen : T.length < 4611686018427387904) :
    Calls Try.prog 10 #[.pointer (some ⟨l, 0, none⟩), clV c, .int .i64 (h : Int)] w fun e w' => (∃ x, e = .returned (.int .i64 x)) ∧ ∃ T' v', Ls w' l hd T' v' [] ∧ T'.map (fun t => t.c) = (if mayCl c = true then putC c (T.map (fun t => t.c)) else T.map (fun t => t.c)) ∧ T'.length ≤ T.length + 1 ∧ (∀ i, Ow l hd T' v' i → Ow l hd T v i ∨ w.heap.size ≤ i) ∧ Kp w w' (Ow l hd T v) := by
  cases hm : mayCl c with
  | true =>
    refine (Put_ok l hd T v [] c h (fun i => i = l) (fun _ => True) w hL hm hh1 hh2 hlen (fun w1 hb => (part_none l hd T v w1 (hL.below hb)).mono fun e w2 q => ⟨q.1, q.2.1, q.2.2, trivial⟩) (fun i e => by subst e; exact hL.blk.lt) (fun _ _ _ _ _ => trivial)).mono ?_
    rintro e w' ⟨rfl, T', hP, hL', hK, _⟩
    refine ⟨⟨_, rfl⟩, T', _, hL', by rw [if_pos rfl]; exact hP.cells, hP.length, fun i hi => hP.foot hi, hK.mono fun i hi => Or.inl ?_⟩
    rcases hi with rfl | hi
    · exact Or.inl rfl
    · exact hi
  | false =>
    refine (Put_arg l hd c (h : Int) w hL.blk.head (Or.inl hm)).mono ?_
    rintro e w' ⟨rfl, hb⟩
    exact ⟨⟨_, rfl⟩, T, v, hL.below hb, by rw [if_neg (by simp)], Nat.le_succ _, fun i hi => Or.inl hi, Kp.of_below _ hb⟩

/-- The list as it is when i cells were put. -/
structure PLp (w : World) (back : Bool) (cs : List Cl) (i : Nat) (T : List Tw) (v : Value) (wr : World) : Prop where
  ls : Ls wr (w.heap.size + 1) w.heap.size T v []
  ce : T.map (fun t => t.c) = putV ((ord back cs).take i)
  ln : T.length ≤ i
  ow : ∀ i, Ow (w.heap.size + 1) w.heap.size T v i → w.heap.size ≤ i
  be : Below w.heap.size w wr
def PLs (w : World) (back : Bool) (cs : List Cl) (i : Nat) (wr : World) : Prop := ∃ T v, PLp w back cs i T v wr

set_option maxHeartbeats 4000000 in
set_option maxRecDepth 100000 in
theorem put_any (q : Option Addr) (b off cap : Nat) (cs : List Cl) (q2 : Option Addr) (b2 off2 cap2 : Nat) (hs : List UInt8) (back : Bool) (w : World) (hq : 0 < cs.length → q = some ⟨b, off, none⟩ ∧ CRow w b off cs ∧ b < w.heap.size)
    (hq2 : 0 < hs.length → q2 = some ⟨b2, off2, none⟩ ∧ BRow w b2 off2 hs) (hn : cs.length ≤ 1000) (hhs : hs.length ≤ 9223372036854775807) :
    Calls Try.prog 22 #[.slice q cs.length cap, .slice q2 hs.length cap2, .bool back] w fun e w' => e = .returned (.pointer (some ⟨w.heap.size + 1, 0, none⟩)) ∧ PLs w back cs cs.length w' := by
  go_enter Try.func22, Try.ntmps22
  go_wp2_with fail
  refine (New_any w).mono ?_
  rintro e w0 ⟨rfl, hL0, hb0⟩
  go_wp2_with fail
  go_loopw [8] (fun s8 wr => ∃ i : Nat, s8 = .int .i64 (i : Int) ∧ i ≤ cs.length ∧ PLs w back cs i wr) (fun s8 _ => cs.length - (intOf s8).toNat)
  case atStart =>
    refine ⟨0, rfl, Nat.zero_le _, [], .slice none 0 0, hL0, rfl, Nat.le_refl _, fun i hi => ?_, hb0⟩
    rcases hi with rfl | rfl | ⟨t, ht, _⟩ | hi
    · exact Nat.le_succ _
    · exact Nat.le_refl _
    · simp at ht
    · cases hi
  case round =>
    clear hL0 hb0
    obtain ⟨i, rfl, hil, hPL⟩ := hrel
    by_cases hlt : i < cs.length
    · obtain ⟨T, v, hL, hT, hTl, hOw, hbel⟩ := hPL
      obtain ⟨rfl, hR, hbw⟩ := hq (by omega)
      obtain ⟨k, hk⟩ : ∃ k, k = if back = true then cs.length - 1 - i else i := ⟨_, rfl⟩
      obtain ⟨hkl, hget⟩ := ord_get back cs hlt hk
      have hAt := (hR k hkl).step hbel hbw
      have hi0 : (i : Int) < (cs.length : Int) := by omega
      have hi1 : (k : Int) < (cs.length : Int) := by omega
      have hi2 : (0 : Int) ≤ (k : Int) := by omega
      have hgo : ∀ (h : Nat) (wz : World), Below wr.heap.size wr wz → 1 ≤ h → h ≤ 12 → Calls Try.prog 10 #[.pointer (some ⟨w.heap.size + 1, 0, none⟩), clV cs[k], .int .i64 (h : Int)] wz fun e w' => (∃ x, e = .returned (.int .i64 x)) ∧ PLs w back cs (i + 1) w' := by
        intro h wz hbz h1 h2
        refine (Put_all _ _ T v cs[k] h wz (hL.below hbz) h1 h2 (by omega)).mono ?_
        rintro e w' ⟨hx, T', v', hL', hT', hl', hO', hK'⟩
        have hbz2 := below2 hbel hbz
        refine ⟨hx, T', v', hL', ?_, by omega, fun i hi => ?_, hbz2.trans (hK'.below hbz2.size hOw)⟩
        · rw [hT', hT]
          cases hm : mayCl cs[k] with
          | true => rw [if_pos rfl, putV_yes hget hm]
          | false => rw [if_neg (by simp), putV_no hget hm]
        · rcases hO' i hi with a | a
          · exact hOw i a
          · exact Nat.le_trans hbz2.size a
      have HGO : Hid _ := hgo
      clear hgo hR hget hT hL hOw
      generalize cs[k] = c at *
      obtain ⟨r, kk, vv, z, x⟩ := c
      obtain ⟨c0, c1, c2, c3, c4⟩ := hAt
      simp only at c0 c1 c2 c3 c4
      have HK : Hid _ := hk
      clear hk hq
      by_cases hs0 : 0 < hs.length
      · obtain ⟨rfl, hBR⟩ := hq2 hs0
        obtain ⟨m, hm⟩ : ∃ m, m = i % hs.length := ⟨_, rfl⟩
        have hml : m < hs.length := by rw [hm]; exact Nat.mod_lt _ hs0
        have hbm : wr.cell? ⟨b2, off2 + m, none⟩ = some (.int .u8 (hs[m].toNat : Int)) := by
          rw [hbel.cell (p := ⟨b2, off2 + m, none⟩) (hBR.lt hs0)]
          exact hBR m hml
        obtain ⟨y, hy⟩ : ∃ y : Nat, y = hs[m].toNat := ⟨_, rfl⟩
        rw [← hy] at hbm
        have hy256 : y < 256 := by rw [hy]; exact UInt8.toNat_lt _
        have hz1 : (i : Int).tmod (hs.length : Int) = (m : Int) := by
          rw [hm, Int.tmod_eq_emod_of_nonneg (by omega), Int.natCast_emod]
        have hi3 : (m : Int) < (hs.length : Int) := by omega
        have hi4 : (0 : Int) ≤ (m : Int) := by omega
        have hi5 : (0 : Int) < (hs.length : Int) := by omega
        have HHS : Hid _ := hs0
        clear hq2 hBR hy hm hs0
        cases back with
        | false =>
          have hki : k = i := HK.out
          subst hki
          go_wp2_with fail
          rw [show (1 + (y : Int) % 12) = ((1 + y % 12 : Nat) : Int) by omega]
          refine (HGO.out (1 + y % 12) wr (Below.refl _ _) (by omega) (by omega)).mono ?_
          rintro e w' ⟨⟨xx, rfl⟩, hP'⟩
          go_wp2
          go_roundw
          case rel => exact ⟨k + 1, by go_num, by omega, hP'⟩
          case measure => simp [intOf]; omega
        | true =>
          have hki : (cs.length : Int) - 1 - (i : Int) = (k : Int) := by
            have : k = cs.length - 1 - i := HK.out
            omega
          go_wp2_with fail
          rw [show (1 + (y : Int) % 12) = ((1 + y % 12 : Nat) : Int) by omega]
          refine (HGO.out (1 + y % 12) wr (Below.refl _ _) (by omega) (by omega)).mono ?_
          rintro e w' ⟨⟨xx, rfl⟩, hP'⟩
          clear hki
          go_wp2
          go_roundw
          case rel => exact ⟨i + 1, by go_num, by omega, hP'⟩
          case measure => simp [intOf]; omega
      · have hi5 : ¬ (0 : Int) < (hs.length : Int) := by omega
        clear hq2 hs0
        cases back with
        | false =>
          have hki : k = i := HK.out
          subst hki
          go_wp2_with fail
          refine (HGO.out 1 wr (Below.refl _ _) (by omega) (by omega)).mono ?_
          rintro e w' ⟨⟨xx, rfl⟩, hP'⟩
          go_wp2
          go_roundw
          case rel => exact ⟨k + 1, by go_num, by omega, hP'⟩
          case measure => simp [intOf]; omega
        | true =>
          have hki : (cs.length : Int) - 1 - (i : Int) = (k : Int) := by
            have : k = cs.length - 1 - i := HK.out
            omega
          go_wp2_with fail
          refine (HGO.out 1 wr (Below.refl _ _) (by omega) (by omega)).mono ?_
          rintro e w' ⟨⟨xx, rfl⟩, hP'⟩
          clear hki
          go_wp2
          go_roundw
          case rel => exact ⟨i + 1, by go_num, by omega, hP'⟩
          case measure => simp [intOf]; omega
    · have hie : i = cs.length := by omega
      have HIE : Hid _ := hie
      have hnl : ¬ (i : Int) < (cs.length : Int) := by omega
      clear hie
      go_wp2
      go_ret
      have hie := HIE.out
      rw [hie] at hPL
      exact ⟨rfl, hPL⟩

end Go.Proofs.Ytmekcfbopjgbeaa
