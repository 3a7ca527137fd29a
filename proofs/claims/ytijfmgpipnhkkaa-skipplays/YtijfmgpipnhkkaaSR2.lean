/-
  The document's From.
-/
import Derived.Test.YtijfmgpipnhkkaaSR1
namespace Go.Proofs.Ytijfmgpipnhkkaa
open Go.RowKit Go.BigFrame Go.Sort
attribute [local go_sem] size_bstr toList_bstr ls_def

theorem ls_both (a b : List UInt8) : (ls a b = true → ls b a = false ∧ (b == a) = false) ∧ (ls a b = false → (b == a) = false → ls b a = true) := by
  refine ⟨fun h => ⟨?_, ?_⟩, fun h h2 => ?_⟩
  · cases h3 : ls b a with
    | false => rfl
    | true => exact absurd h3 (by rw [ls_asymm h]; simp)
  · cases h3 : (b == a) with
    | false => rfl
    | true =>
      rw [eq_of_beq h3, ls_irrefl] at h
      cases h
  · rcases ls_tri a b with h3 | h3 | h3
    · rw [h] at h3; cases h3
    · rw [h3] at h2; simp at h2
    · exact h3
/-- Does a cell stand from a place on? -/
def fromB (row col : List UInt8) (c : Cl) : Bool := ls row c.row || ((c.row == row) && !(ls c.col col))
def fromR (cs : List Cl) (row col : List UInt8) : List Cl := cs.dropWhile fun c => !(fromB row col c)
theorem fromR_at {cs : List Cl} {row col : List UInt8} {i : Nat} (hi : i < cs.length) (hno : ∀ j (h : j < cs.length), j < i → fromB row col cs[j] = false) (hy : fromB row col cs[i] = true) : fromR cs row col = cs.drop i := by
  unfold fromR
  induction cs generalizing i with
  | nil => simp at hi
  | cons c cs ih =>
    cases i with
    | zero =>
      have hy' : fromB row col c = true := hy
      rw [List.dropWhile_cons, hy']
      simp
    | succ i =>
      have h0 : fromB row col c = false := hno 0 (by simp) (by omega)
      rw [List.dropWhile_cons, h0]
      simp only [Bool.not_false, if_true, List.drop_succ_cons]
      exact ih (by simpa using hi) (fun j hj hji => hno (j + 1) (by simpa using hj) (by omega)) hy
theorem fromR_none {cs : List Cl} {row col : List UInt8} (hno : ∀ j (h : j < cs.length), fromB row col cs[j] = false) : fromR cs row col = [] := by
  unfold fromR
  induction cs with
  | nil => rfl
  | cons c cs ih =>
    have h0 : fromB row col c = false := hno 0 (by simp)
    rw [List.dropWhile_cons, h0]
    simp only [Bool.not_false, if_true]
    exact ih fun j hj => hno (j + 1) (by simpa using hj)
/-- What From answers: a part of the cells' row. -/
structure FRes (w : World) (gc : Nat) (R : List Cl) (e : Ending) (w' : World) : Prop where
  out : ∃ q off cap, e = .returned (.slice q R.length cap) ∧ (0 < R.length → q = some ⟨gc, off, none⟩ ∧ CRow w' gc off R ∧ gc < w.heap.size) ∧ Below w.heap.size w w'

set_option maxHeartbeats 4000000 in
set_option maxRecDepth 100000 in
theorem RFrom_any (L : List (Cl × Nat)) (qc : Option Addr) (gc cc : Nat) (qh : Option Addr) (gh ch : Nat) (row col : List UInt8) (w : World) (hD : DA w L qc gc cc qh gh ch) (hn : L.length ≤ 1000000) :
    Calls Try.prog 11 #[dV L qc cc qh ch, .string (bstr row), .string (bstr col)] w fun e w' => FRes w gc (fromR (L.map fun x => x.1) row col) e w' := by
  obtain ⟨cs, hcs⟩ : ∃ cs, cs = L.map fun x => x.1 := ⟨_, rfl⟩
  have hcl : L.length = cs.length := by rw [hcs, List.length_map]
  obtain ⟨w0, hw0⟩ : ∃ w0, w0 = w.alloc (.cells #[.slice qc cs.length cc, .slice qh cs.length ch] 28) := ⟨_, rfl⟩
  have hb0 : Below w.heap.size w w0 := by rw [hw0]; exact (Below.refl _ _).alloc (Nat.le_refl _) _
  have hl0 : w0.heap[w.heap.size]? = some (.cells #[.slice qc cs.length cc, .slice qh cs.length ch] 28 (0, 0)) := by rw [hw0]; exact heap_alloc_new w _
  have hC : 0 < cs.length → qc = some ⟨gc, 0, none⟩ ∧ CRow w0 gc 0 cs ∧ gc < w.heap.size := fun h0 => by
    obtain ⟨a, b, c⟩ := hD.c (by omega)
    rw [← hcs] at b
    exact ⟨a, b.step hb0 c, c⟩
  have hlc : cs.length ≤ cc := by rw [← hcl]; exact hD.lc
  rw [← hcs]
  simp only [dV, hcl]
  rw [hcl] at hn
  clear hD hcs hcl
  go_enter Try.func11, Try.ntmps11
  go_wp2_with fail
  rw [← hw0]
  clear hw0
  go_loopw [7] (fun s7 wr => ∃ i : Nat, s7 = .int .i64 (i : Int) ∧ i ≤ cs.length ∧ (∀ j (h : j < cs.length), j < i → fromB row col cs[j] = false) ∧ Below w0.heap.size w0 wr) (fun s7 _ => cs.length - (intOf s7).toNat)
  case atStart => exact ⟨0, rfl, Nat.zero_le _, fun j _ hj => absurd hj (Nat.not_lt_zero j), Below.refl _ _⟩
  case round =>
    obtain ⟨i, rfl, hil, hno, hbel⟩ := hrel
    have hlt0 := blk_lt hl0
    have cl0 : wr.cell? ⟨w.heap.size, 0, none⟩ = some (.slice qc cs.length cc) := (cells_block ((hbel.block _ hlt0).trans hl0)).1 0
    by_cases hlt : i < cs.length
    · obtain ⟨rfl, hR, hg⟩ := hC (by omega)
      have c1 : (i : Int) < (cs.length : Int) := by omega
      have c2 : ¬ cc = i := by omega
      have hR1 := hR.step hbel (Nat.lt_of_lt_of_le hg hb0.size)
      obtain ⟨d0, d1, d2, d3, d4⟩ := hR1 i hlt
      simp only [Nat.zero_add] at d0 d1 d2 d3 d4
      have HNX : Hid (fromB row col cs[i] = false → ∀ j (h : j < cs.length), j < i + 1 → fromB row col cs[j] = false) := fun h0 j hj h1 => by
        by_cases e : j < i
        · exact hno j hj e
        · obtain rfl : j = i := by omega
          exact h0
      have HY : Hid (fromB row col cs[i] = true → fromR cs row col = cs.drop i) := fun h0 => fromR_at hlt hno h0
      obtain ⟨c, hc⟩ : ∃ c, c = cs[i] := ⟨_, rfl⟩
      rw [← hc] at d0 d1 d2 d3 d4 HNX HY
      have hbw : Below w0.heap.size w0 (wr.alloc (.cells #[.string (bstr c.row), .string (bstr c.col), .int .u64 c.ver, .bool c.gone, .string (bstr c.val)] 34)) := hbel.alloc hbel.size _
      have HRR : Hid (CRow (wr.alloc (.cells #[.string (bstr c.row), .string (bstr c.col), .int .u64 c.ver, .bool c.gone, .string (bstr c.val)] 34)) gc 0 cs) := hR.step hbw (Nat.lt_of_lt_of_le hg hb0.size)
      have cl1 : (wr.alloc (.cells #[.string (bstr c.row), .string (bstr c.col), .int .u64 c.ver, .bool c.gone, .string (bstr c.val)] 34)).cell? ⟨w.heap.size, 0, none⟩ = some (.slice (some ⟨gc, 0, none⟩) cs.length cc) := (cells_block ((hbw.block _ hlt0).trans hl0)).1 0
      clear hno hR hR1 hc
      obtain ⟨cr, ck, cv, cg, cx⟩ := c
      simp only at d0 d1 d2 d3 d4 hbw HRR cl1
      unfold fromB at HNX HY
      simp only at HNX HY
      obtain ⟨o1, o2⟩ := ls_both row cr
      cases h1 : ls row cr with
      | true =>
        obtain ⟨k1, k2⟩ := o1 h1
        have hans := HY.out (by simp [h1])
        have HAN : Hid _ := hans
        clear hans
        go_wp2
        go_ret
        refine ⟨some ⟨gc, i * 5, none⟩, i * 5, cc - i, ?_, fun _ => ?_, below2 hb0 hbw⟩
        · rw [HAN.out, List.length_drop]
          rfl
        · rw [HAN.out]
          have := HRR.out.drop i
          rw [Nat.zero_add] at this
          exact ⟨rfl, this, hg⟩
      | false =>
        cases h2 : (cr == row) with
        | false =>
          have k1 := o2 h1 h2
          go_wp2
          go_roundw
          case rel => exact ⟨i + 1, by go_num, by omega, HNX.out (by simp [h1, h2]), hbw⟩
          case measure => simp [intOf]; omega
        | true =>
          have k1 : ls cr row = false := by rw [eq_of_beq h2]; exact ls_irrefl row
          cases h3 : ls ck col with
          | true =>
            go_wp2
            go_roundw
            case rel => exact ⟨i + 1, by go_num, by omega, HNX.out (by simp [h1, h3]), hbw⟩
            case measure => simp [intOf]; omega
          | false =>
            have hans := HY.out (by simp [h2, h3])
            have HAN : Hid _ := hans
            clear hans
            go_wp2
            go_ret
            refine ⟨some ⟨gc, i * 5, none⟩, i * 5, cc - i, ?_, fun _ => ?_, below2 hb0 hbw⟩
            · rw [HAN.out, List.length_drop]
              rfl
            · rw [HAN.out]
              have := HRR.out.drop i
              rw [Nat.zero_add] at this
              exact ⟨rfl, this, hg⟩
    · have c1 : ¬ (i : Int) < (cs.length : Int) := by omega
      have hans : Hid (fromR cs row col = []) := fromR_none fun j hj => hno j hj (by omega)
      clear hno
      go_wp2
      go_ret
      exact ⟨none, 0, 0, by rw [hans.out]; rfl, fun h => (by rw [hans.out] at h; cases h), below2 hb0 hbel⟩

end Go.Proofs.Ytijfmgpipnhkkaa
