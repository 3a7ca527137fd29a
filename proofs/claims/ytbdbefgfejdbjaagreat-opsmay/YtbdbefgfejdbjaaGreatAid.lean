/-
  Small facts that the walks of this seat share: what a row of bytes that a call owns is as a string, bytes as lists, worlds behind a call.
-/
import Derived.Test.YtbdbefgfejdbjaaGreatProg
import Derived.WalkKit
import Derived.WalkSpells
import Derived.WalkLawsBesides
import Derived.Lib.AppendStr
import Derived.Lib.UnsafeStr
import Derived.Lib.VarintMem
import Derived.Lib.VarintBits
import Derived.Lib.QuietBelow
namespace Go.Proofs.YtbdbefgfejdbjaaGreat
open Go.RowKit

/-- A string of a list of bytes. -/
def bstr (l : List UInt8) : ByteArray := ⟨l.toArray⟩

theorem bstr_data (s : ByteArray) : bstr s.data.toList = s := by
  cases s; simp [bstr]
theorem data_bstr (l : List UInt8) : (bstr l).data.toList = l := by simp [bstr]
theorem size_bstr (l : List UInt8) : (bstr l).size = l.length := by
  show l.toArray.size = l.length
  simp
theorem toList_bstr (l : List UInt8) : (bstr l).toList = l := by rw [ByteArray.toList_eq, data_bstr]
theorem size_list (s : ByteArray) : s.size = s.data.toList.length := by
  rw [Array.length_toList]; rfl
theorem append_bstr (a b : List UInt8) : bstr a ++ bstr b = bstr (a ++ b) := ByteArray.mk_append_mk a b
theorem append_str (s : ByteArray) (b : List UInt8) : s ++ bstr b = bstr (s.data.toList ++ b) := by
  conv => lhs; rw [← bstr_data s]
  exact append_bstr _ _
theorem append_str_str (s t : ByteArray) : s ++ t = bstr (s.data.toList ++ t.data.toList) := by
  conv => lhs; rw [← bstr_data t]
  exact append_str _ _
theorem append_text (b : ByteArray) (l : List UInt8) (s : ByteArray) : b ++ bstr l ++ s = bstr (b.data.toList ++ (l ++ s.data.toList)) := by
  rw [append_str_str, append_str, data_bstr, List.append_assoc]
theorem ret_str {a b : ByteArray} (h : a = b) : Ending.returned (.string a) = .returned (.string b) := by rw [h]
theorem strCells_eq (s : ByteArray) : Lib.strCells s = Lib.byteCells s.data.toList := rfl
theorem byteCells_append (a b : List UInt8) : Lib.byteCells (a ++ b) = Lib.byteCells a ++ Lib.byteCells b := by simp [Lib.byteCells]

theorem foldl_push (l : List UInt8) (acc : ByteArray) :
    (l.map fun b => ((b.toNat : Nat) : Int)).foldl (fun r n => r.push (UInt8.ofNat n.toNat)) acc = bstr (acc.data.toList ++ l) := by
  induction l generalizing acc with
  | nil => simp [bstr_data]
  | cons b l ih =>
    rw [List.map_cons, List.foldl_cons, ih]
    simp [bstr, ByteArray.push]

/-- 'string(b)', b a row of bytes that the call owns: the very bytes; nothing has turned. -/
theorem run_convert_own {P : Program} {w : World} {base e src dst : TypeId} {v : Value} {n : Nat} {l : List UInt8} (hown : w.ownsRow base e 1 v n (Lib.byteCells l))
    (hs : P.underlying src = some (.slice e)) (he : P.underlying e = some (.int .u8)) (hd : P.underlying dst = some .string) :
    (convert src dst v).run P w = .ok (.string (bstr l)) w := by
  have hn : l.length = n := by have := hown.1; rw [Lib.byteCells_length] at this; omega
  rcases hown.2 with ⟨rfl, h0⟩ | ⟨g, cap, cur, rfl, hbg, hg, hnc, hcm, hcs, htake⟩
  · have hl : l = [] := List.eq_nil_of_length_eq_zero (by omega)
    subst hl
    rw [run_convert_bytes_string w src dst e none 0 0 hs he hd]
    rfl
  · rw [run_convert_bytes_string w src dst e (some ⟨g, 0, none⟩) n cap hs he hd]
    have hcells : ∀ j u, (Lib.byteCells l)[j]? = some u → w.cell? ((⟨g, 0, none⟩ : Addr).add j) = some u := hown.cells (g := g) rfl
    have hb : Lib.byteCells l = (l.map fun b => ((b.toNat : Nat) : Int)).map (Value.int .u8) := by simp [Lib.byteCells]
    have hload : (loadCells ⟨g, 0, none⟩ n).run P w = .ok ((l.map fun b => ((b.toNat : Nat) : Int)).map (Value.int .u8)).toArray w := by
      rw [← hb]
      have := run_loadCells_list (P := P) w ⟨g, 0, none⟩ (Lib.byteCells l) hcells
      rw [Lib.byteCells_length, hn] at this
      exact this
    rw [run_bytesToString w ⟨g, 0, none⟩ n cap _ hload, foldl_push]
    rfl

/-- A byte of a string. -/
theorem getElem_bstr (l : List UInt8) (i : Nat) (h : i < (bstr l).size) : (bstr l)[i]'h = l[i]'(by rw [size_bstr] at h; exact h) := by
  rfl

/-- 's[:min(len(s), m)]'. -/
theorem run_cut {P : Program} (t : TypeId) (L : List UInt8) (M : Int) (m : Nat) (hM : M = m) (w : World) (ht : P.underlying t = some .string) :
    (Instr.slice t (.string (bstr L)) none (some (.int .i64 (min (L.length : Int) M))) none).run P w = .ok (.string (bstr (L.take m))) w := by
  have h := run_slice_string_h (P := P) (t := t) (s := bstr L) (w := w) ht .i64 (min (L.length : Int) M) (by omega) (by rw [size_bstr]; omega)
  rw [h]
  have e : (min (L.length : Int) M).toNat = min L.length m := by omega
  have e2 : (bstr L).extract 0 (min L.length m) = bstr (L.take m) := by
    apply ByteArray.ext
    simp [bstr, List.take_eq_take_iff, Nat.min_comm]
  rw [e, e2]
/-- 's[:n]'. -/
theorem run_head {P : Program} (t : TypeId) (L : List UInt8) (n : Nat) (hn : n ≤ L.length) (w : World) (ht : P.underlying t = some .string) :
    (Instr.slice t (.string (bstr L)) none (some (.int .i64 (n : Int))) none).run P w = .ok (.string (bstr (L.take n))) w := by
  have h := run_slice_string_h (P := P) (t := t) (s := bstr L) (w := w) ht .i64 (n : Int) (by omega) (by rw [size_bstr]; omega)
  rw [h]
  have e2 : (bstr L).extract 0 ((n : Int).toNat) = bstr (L.take n) := by
    apply ByteArray.ext
    simp [bstr]
  rw [e2]

/-- Behind a call that left what was there: old cells, old marks. -/
theorem bcell {B : Nat} {W w1 : World} (hb : Below B W w1) : (∀ b o, b < B → w1.cell? ⟨b, o, none⟩ = W.cell? ⟨b, o, none⟩) ∧ (∀ b o, b < B → w1.frozen? ⟨b, o, none⟩ = W.frozen? ⟨b, o, none⟩) :=
  ⟨fun b o h => hb.cell (p := ⟨b, o, none⟩) h, fun b o h => hb.frozen (p := ⟨b, o, none⟩) h⟩

theorem Tryz.infoByte : (Tryz.prog.info? 5).map (fun i => (i.zero, i.size, i.bytes)) = some (some (.int .u8 0), 1, 1) := by kernel_rfl

end Go.Proofs.YtbdbefgfejdbjaaGreat
