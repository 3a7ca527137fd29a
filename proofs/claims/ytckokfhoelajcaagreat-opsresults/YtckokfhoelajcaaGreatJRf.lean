/-
  The document's numbers and texts as bytes; the bytes of a result.
-/
import Derived.Test.YtckokfhoelajcaaGreatGOWk
import Derived.Test.YtckokfhoelajcaaGreatGJTk2
import Derived.Test.YtckokfhoelajcaaGreatGJSe2
namespace Go.Proofs.YtckokfhoelajcaaGreat
open Go.RowKit Go.BigFrame
attribute [local go_sem] size_bstr getElem_bstr toList_bstr append_bstr

theorem val_str {a b : ByteArray} (h : a = b) : Value.string a = .string b := by rw [h]
/-- 'string([]byte{z})'. -/
theorem run_convert_one (W : World) (z : Nat) (hz : z < 256) :
    (convert 153 9 (.slice (some ⟨W.heap.size, 0, none⟩) 1 1)).run Tryz.prog (W.alloc (.cells #[.int .u8 (z : Int)] 5)) = .ok (.string (bstr [z.toUInt8])) (W.alloc (.cells #[.int .u8 (z : Int)] 5)) := by
  have hown : (W.alloc (.cells #[.int .u8 (z : Int)] 5)).ownsRow W.heap.size 5 1 (.slice (some ⟨W.heap.size, 0, none⟩) 1 1) 1 (Lib.byteCells [z.toUInt8]) := by
    have h := World.ownsRow_lit (base := W.heap.size) (e := 5) (size := 1) W #[.int .u8 (z : Int)] 1 (Nat.le_refl _) (by decide) (by simp)
    have e : Lib.byteCells [z.toUInt8] = [.int .u8 (z : Int)] := by simp [Lib.byteCells, Nat.toUInt8]; omega
    rw [e]
    exact h
  exact run_convert_own hown Tryz.underlying153 Tryz.underlying5 Tryz.underlying9

set_option maxHeartbeats 1000000 in
set_option maxRecDepth 100000 in
theorem RNumber_any (x : Nat) (w : World) (hx : x < 18446744073709551616) :
    Calls Tryz.prog 139 #[.int .u64 x] w fun e w' => e = .returned (.string (bstr (Lib.uvarint x))) ∧ RowKit.Below w.heap.size w w' := by
  have hlen := Lib.uvarint_length64 hx
  have hE : (⟨#[]⟩ : ByteArray) = bstr [] := rfl
  go_enter Tryz.func139, Tryz.ntmps139
  go_wp2
  go_loopw [0, 3] (fun vx vs wr => ∃ (y : Nat) (pre : List UInt8), vx = .int .u64 y ∧ y ≤ x ∧ Lib.uvarint x = pre ++ Lib.uvarint y ∧ vs = .string (bstr pre) ∧ RowKit.Below w.heap.size w wr) (fun vx _ _ => (intOf vx).toNat)
  case atStart => exact ⟨x, [], rfl, Nat.le_refl _, rfl, rfl, RowKit.Below.refl _ _⟩
  case round =>
    obtain ⟨y, pre, rfl, hy, hsplit, rfl, hbel⟩ := hrel
    have HS : Hid (Lib.uvarint x = pre ++ Lib.uvarint y) := hsplit
    have hpl : pre.length ≤ 10 := by
      have h2 := congrArg List.length hsplit
      rw [List.length_append] at h2
      omega
    clear hsplit
    by_cases h128 : 128 ≤ y
    · obtain ⟨bb, hbb⟩ : ∃ bb, bb = (y % 128 + 128).toUInt8 := ⟨_, rfl⟩
      have hcv : ∀ W : World, (convert 153 9 (.slice (some ⟨W.heap.size, 0, none⟩) 1 1)).run Tryz.prog (W.alloc (.cells #[.int .u8 ((y : Int) % 128 + 128)] 5)) = .ok (.string (bstr [bb])) (W.alloc (.cells #[.int .u8 ((y : Int) % 128 + 128)] 5)) := by
        intro W
        have := run_convert_one W (y % 128 + 128) (by omega)
        rw [← hbb] at this
        rw [show ((y % 128 + 128 : Nat) : Int) = (y : Int) % 128 + 128 from by omega] at this
        exact this
      have HB : Hid (bb = (y % 128 + 128).toUInt8) := hbb
      clear hbb
      go_wp2
      go_roundw
      case rel => exact ⟨y / 128, pre ++ [bb], by go_num, by omega, by rw [HS.out, Lib.uvarint_big h128, HB.out]; simp, rfl, hbel.alloc hbel.size _⟩
      case measure => simp [intOf]; omega
    · have hcv : ∀ W : World, (convert 153 9 (.slice (some ⟨W.heap.size, 0, none⟩) 1 1)).run Tryz.prog (W.alloc (.cells #[.int .u8 (y : Int)] 5)) = .ok (.string (bstr [y.toUInt8])) (W.alloc (.cells #[.int .u8 (y : Int)] 5)) := fun W => run_convert_one W y (by omega)
      go_wp2
      go_ret
      exact ⟨ret_str (by rw [HS.out, Lib.uvarint_small (by omega)]), hbel.alloc hbel.size _⟩

set_option maxHeartbeats 400000 in
theorem RText_any (l : List UInt8) (w : World) (hl : l.length ≤ 10000000000) :
    Calls Tryz.prog 140 #[.string (bstr l)] w fun e w' => e = .returned (.string (bstr (Lib.uvarint l.length ++ l))) ∧ RowKit.Below w.heap.size w w' := by
  have hlen := Lib.uvarint_length64 (x := l.length) (by omega)
  go_enter Tryz.func140, Tryz.ntmps140
  go_wp2_with fail
  refine (RNumber_any l.length _ (by omega)).mono ?_
  rintro e w1 ⟨rfl, hb⟩
  go_wp2
  go_ret
  exact ⟨rfl, hb⟩

set_option maxHeartbeats 400000 in
theorem RPutText_any (b l : List UInt8) (w : World) (hb : b.length ≤ 100000000000) (hl : l.length ≤ 10000000000) :
    Calls Tryz.prog 122 #[.string (bstr b), .string (bstr l)] w fun e w' => e = .returned (.string (bstr (b ++ txt l))) ∧ RowKit.Below w.heap.size w w' := by
  have hlen := txt_len hl
  have hc : ∀ W, Calls Tryz.prog 140 #[.string (bstr l)] W fun e w' => e = .returned (.string (bstr (txt l))) ∧ RowKit.Below W.heap.size W w' := fun W => RText_any l W hl
  generalize txt l = t at *
  go_enter Tryz.func122, Tryz.ntmps122
  go_wp2_with fail
  refine (hc _).mono ?_
  rintro e w1 ⟨rfl, hb1⟩
  go_wp2
  go_ret
  exact ⟨rfl, hb1⟩

set_option maxHeartbeats 400000 in
theorem RPutNumber_any (b : List UInt8) (x : Nat) (w : World) (hb : b.length ≤ 100000000000) (hx : x < 18446744073709551616) :
    Calls Tryz.prog 118 #[.string (bstr b), .int .u64 x] w fun e w' => e = .returned (.string (bstr (b ++ Lib.uvarint x))) ∧ RowKit.Below w.heap.size w w' := by
  have hlen := Lib.uvarint_length64 hx
  have hc := fun W => RNumber_any x W hx
  generalize Lib.uvarint x = t at *
  go_enter Tryz.func118, Tryz.ntmps118
  go_wp2_with fail
  refine (hc _).mono ?_
  rintro e w1 ⟨rfl, hb1⟩
  go_wp2
  go_ret
  exact ⟨rfl, hb1⟩


/-! ### a function without results -/
theorem ret0 {fn : Func} (h : fn.results = #[]) {R : Ending → World → Prop} {a : Act} {w : World} (hd : a.defers = []) (hR : R (.returned (.tuple #[])) w) : bodyPost Tryz.prog fn R .ret a w :=
  bodyPost_ret (v := .tuple #[]) (by simp only [results, h]; simp) hd hR
theorem end0 {fn : Func} (h : fn.results = #[]) {R : Ending → World → Prop} {a : Act} {w : World} (hd : a.defers = []) (hR : R (.returned (.tuple #[])) w) : bodyPost Tryz.prog fn R .normal a w :=
  bodyPost_end (v := .tuple #[]) (by simp only [results, h]; simp) hd hR


/-- What is laid already. -/
def PtB (w : World) (p : Nat) (s : List UInt8) : Prop := w.heap[p]? = some (.cells #[.string (bstr s)] 88 (0, 0))
theorem PtB.cell {w : World} {p : Nat} {s : List UInt8} (h : PtB w p s) : w.cell? ⟨p, 0, none⟩ = some (.string (bstr s)) := (mcells h).1 0
theorem PtB.frz {w : World} {p : Nat} {s : List UInt8} (h : PtB w p s) (o : Nat) : w.frozen? ⟨p, o, none⟩ = false := (mcells h).2 o
theorem PtB.lt {w : World} {p : Nat} {s : List UInt8} (h : PtB w p s) : p < w.heap.size := blk_lt h
theorem PtB.set {w : World} {p : Nat} {s : List UInt8} (h : PtB w p s) (t : List UInt8) : PtB (w.setCell ⟨p, 0, none⟩ (.string (bstr t))) p t := heap_set_same h (o := 0) _
theorem PtB.below {w w' : World} {p : Nat} {s : List UInt8} (h : PtB w p s) (hb : Below w.heap.size w w') : PtB w' p s := (hb.block p h.lt).trans h


set_option maxHeartbeats 1000000 in
theorem rN_any (p x : Nat) (s : List UInt8) (w : World) (h : PtB w p s) (hx : x < 18446744073709551616) (hs : s.length ≤ 10000000) :
    Calls Tryz.prog 79 #[.pointer (some ⟨p, 0, none⟩), .int .u64 (x : Int)] w fun e w' => e = .returned (.tuple #[]) ∧ PtB w' p (s ++ Lib.uvarint x) ∧ w.grownBy w' (some p) := by
  have c0 := h.cell
  go_enter Tryz.func79, Tryz.ntmps79
  go_wp2_with fail
  refine (RPutNumber_any s x w (by omega) hx).mono ?_
  rintro e w1 ⟨rfl, hb⟩
  have h1 := h.below hb
  have c1 := h1.cell
  have f1 := h1.frz
  have HS : Hid _ := h1.set (s ++ Lib.uvarint x)
  have HG : Hid (w.grownBy (w1.setCell ⟨p, 0, none⟩ (.string (bstr (s ++ Lib.uvarint x)))) (some p)) := grown_trans (grown_of_below hb) (grown_setCell _ _ _)
  clear c0 h h1 hb
  go_wp2
  first | exact end0 Tryz.results79 rfl ⟨rfl, HS.out, HG.out⟩ | exact ret0 Tryz.results79 rfl ⟨rfl, HS.out, HG.out⟩
set_option maxHeartbeats 1000000 in
theorem rT_any (p : Nat) (x s : List UInt8) (w : World) (h : PtB w p s) (hx : x.length ≤ 10000000) (hs : s.length ≤ 10000000) :
    Calls Tryz.prog 86 #[.pointer (some ⟨p, 0, none⟩), .string (bstr x)] w fun e w' => e = .returned (.tuple #[]) ∧ PtB w' p (s ++ txt x) ∧ w.grownBy w' (some p) := by
  have c0 := h.cell
  go_enter Tryz.func86, Tryz.ntmps86
  go_wp2_with fail
  refine (RPutText_any s x w (by omega) (by omega)).mono ?_
  rintro e w1 ⟨rfl, hb⟩
  have h1 := h.below hb
  have c1 := h1.cell
  have f1 := h1.frz
  have HS : Hid _ := h1.set (s ++ txt x)
  have HG : Hid (w.grownBy (w1.setCell ⟨p, 0, none⟩ (.string (bstr (s ++ txt x)))) (some p)) := grown_trans (grown_of_below hb) (grown_setCell _ _ _)
  clear c0 h h1 hb
  go_wp2
  first | exact end0 Tryz.results86 rfl ⟨rfl, HS.out, HG.out⟩ | exact ret0 Tryz.results86 rfl ⟨rfl, HS.out, HG.out⟩
set_option maxHeartbeats 1000000 in
theorem rB_any (p : Nat) (f : Bool) (s : List UInt8) (w : World) (h : PtB w p s) (hs : s.length ≤ 10000000) :
    Calls Tryz.prog 85 #[.pointer (some ⟨p, 0, none⟩), .bool f] w fun e w' => e = .returned (.tuple #[]) ∧ PtB w' p (s ++ bol f) ∧ w.grownBy w' (some p) := by
  have c0 := h.cell
  have f0 := h.frz
  have hadd : ∀ (b : UInt8) (W : World), (binOp .add 9 (.string (bstr s)) (.string ⟨#[b]⟩)).run Tryz.prog W = .ok (.string (bstr (s ++ [b]))) W := by
    intro b W
    rw [← show (bstr s ++ (⟨#[b]⟩ : ByteArray)) = bstr (s ++ [b]) from append_bstr s [b]]
    go_simp
    omega
  have HS : Hid _ := h.set (s ++ bol f)
  have HG : Hid (w.grownBy (w.setCell ⟨p, 0, none⟩ (.string (bstr (s ++ bol f)))) (some p)) := grown_setCell _ _ _
  clear h
  go_enter Tryz.func85, Tryz.ntmps85
  cases f
  all_goals
    go_wp2
    first | exact end0 Tryz.results85 rfl ⟨rfl, HS.out, HG.out⟩ | exact ret0 Tryz.results85 rfl ⟨rfl, HS.out, HG.out⟩

end Go.Proofs.YtckokfhoelajcaaGreat
