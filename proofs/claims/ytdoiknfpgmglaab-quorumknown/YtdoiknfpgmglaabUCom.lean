/-
  quorum.Commit.
-/
import Derived.Test.YtdoiknfpgmglaabUChk
import Derived.Test.YtdoiknfpgmglaabUSrt
import Derived.Laws.CopyRow
import Derived.Laws.IdiomCopy
import Derived.Laws.CopyOwn
namespace Go.Proofs.Ytdoiknfpgmglaab
open Go.RowKit Go.BigFrame

def zsU (n : Nat) : Array Value := madeCells #[Value.int .u64 0] n
theorem zsU_list (n : Nat) : (zsU n).toList = ucells (List.replicate n 0) := by
  unfold zsU madeCells ucells
  simp [Nat.mod_one, List.map_const']
theorem makeU_run (k : IntKind) (n : Nat) (hn : n * 64 ≤ 140737488351232) (w : World) : (Instr.makeSlice 31 (.int k (n : Int)) (.int k (n : Int))).run Try.prog w = .ok (.slice (some ⟨w.heap.size, 0, none⟩) n n) (w.alloc (.cells (zsU n) 29)) := by
  obtain ⟨i0, hi, hz0, hz1, hz2⟩ := info_parts Try.infoU64
  have := run_make (P := Try.prog) (w := w) 31 29 i0 (.int .u64 0) Try.underlying31 hi hz0 k k (n : Int) (n : Int) (by omega) (by omega) (by rw [hz2]; omega) (by omega)
  rw [Int.toNat_natCast, hz1, Nat.mul_one] at this
  exact this
/-- Numbers that are all of a block. -/
def UBlk (w : World) (g : Nat) (l : List Nat) : Prop := w.heap[g]? = some (.cells (ucells l).toArray 29 (0, 0))
theorem UBlk.cell {w : World} {g : Nat} {l : List Nat} (h : UBlk w g l) (i : Nat) (hi : i < l.length) : w.cell? ⟨g, i, none⟩ = some (.int .u64 (l[i] : Int)) := by
  rw [(mcells h).1 i]
  simp [ucells, hi]
theorem copy_pad (N : Nat) (q : Option Addr) (cap : Nat) (ms : List Nat) (w : World) (h : UArg w q ms) (hN : 0 < N) :
    ∃ k W, (∀ ty, (Builtin.copy_ #[31, 31] ty #[.slice (some ⟨w.heap.size, 0, none⟩) N N, .slice q ms.length cap]).run Try.prog (w.alloc (.cells (zsU N) 29)) = .ok (goInt k) W) ∧ UBlk W w.heap.size (pad N ms) ∧ Below w.heap.size w W := by
  obtain ⟨i0, hi0, hz0, hz1, hz2⟩ := info_parts Try.infoU64
  have hs : (Try.prog.info? 29).map (·.size) = some 1 := by rw [hi0]; simp [hz1]
  have hg := heap_alloc_new w (.cells (zsU N) 29)
  have hb := bel_alloc (Below.refl w.heap.size w) (Nat.le_refl _) (.cells (zsU N) 29)
  by_cases h0 : 0 < ms.length
  · obtain ⟨b, off, rfl, hr⟩ := h h0
    have hcl : (ucells (ms.take N)).length = Nat.min ms.length N := by
      show _ = min _ _
      simp [ucells, Nat.min_comm]
    have hzs : (zsU N).size = N := by rw [← Array.length_toList, zsU_list]; simp [ucells]
    have hc := fun ty => run_copy_row (P := Try.prog) (w.alloc (.cells (zsU N) 29)) 31 31 ty 29 w.heap.size 0 N N ⟨b, off, none⟩ ms.length cap (zsU N) 29 (ucells (ms.take N)) Try.underlying31 hs hg hcl (by
      intro j v hj
      rw [Addr.add_lit]
      obtain ⟨hj1, hj2⟩ := List.getElem?_eq_some_iff.1 hj
      have hj3 : j < (ms.take N).length := by simpa [ucells] using hj1
      have hj4 : j < ms.length := by rw [List.length_take] at hj3; omega
      have := cell_below hb (hr j hj4)
      rw [this, ← hj2]
      simp [ucells]) (by rw [hcl, hzs, Nat.zero_add]; exact Nat.min_le_right _ _) (by
      intro u hu
      obtain ⟨x, _, rfl⟩ := List.mem_map.1 hu
      rfl)
    refine ⟨_, _, hc, ?_, below_setRow hb (Nat.le_refl _) _⟩
    unfold UBlk
    rw [setRow_heap _ _ _ _ _ _ hg]
    congr 3
    rw [zsU_list]
    simp only [List.take_zero, List.nil_append, Nat.zero_add]
    rw [hcl]
    unfold pad
    rw [ucells_append]
    congr 1
    unfold ucells
    rw [← List.map_drop, List.drop_replicate]
    congr 2
    show N - min ms.length N = N - ms.length
    omega
  · have hc := fun ty => run_copy_none (P := Try.prog) (w.alloc (.cells (zsU N) 29)) 31 31 ty 29 (some ⟨w.heap.size, 0, none⟩) q N N ms.length cap Try.underlying31 hs (by show min _ _ = 0; omega)
    have hm : ms = [] := by cases ms with
      | nil => rfl
      | cons x l => simp at h0
    subst hm
    refine ⟨0, _, hc, ?_, hb⟩
    unfold UBlk
    rw [hg]
    congr 3
    apply Array.ext'
    rw [zsU_list]
    simp [pad]

set_option maxHeartbeats 4000000 in
set_option maxRecDepth 100000 in
theorem Commit_any (q : Option Addr) (cap : Nat) (l : List Int) (q2 : Option Addr) (cap2 : Nat) (ms : List Nat) (w : World) (h : IArg w q l) (hl : l.length ≤ 9223372036854775807) (h2 : UArg w q2 ms) :
    Calls Try.prog 7 #[.slice q l.length cap, .slice q2 ms.length cap2] w fun e w' => (∃ c : Nat, e = .returned (.int .u64 (c : Int)) ∧ (chk l = false → c = 0) ∧ (chk l = true → IsCom (most l) (pad l.length ms) c)) ∧ Below w.heap.size w w' := by
  have hc := Check_any q cap l w h hl
  by_cases hk : chk l = true
  case neg =>
    rw [if_neg hk] at hc
    have HK : Hid (¬ chk l = true) := hk
    clear hk
    go_enter Try.func7, Try.ntmps7
    go_wp2_with fail
    refine hc.mono ?_
    rintro e w1 ⟨rfl, hb1⟩
    go_wp2
    go_ret
    exact ⟨⟨0, rfl, fun _ => rfl, fun e => absurd e HK.out⟩, hb1⟩
  case pos =>
  rw [if_pos hk] at hc
  have HK : Hid (chk l = true) := hk
  have hln := chk_len hk
  clear hk
  have hmk := makeU_run .i64 l.length (by omega)
  go_enter Try.func7, Try.ntmps7
  go_wp2_with fail
  refine hc.mono ?_
  rintro e w1 ⟨rfl, hb1⟩
  obtain ⟨k, W, hcp, hU, hbW⟩ := copy_pad l.length q2 cap2 ms w1 (h2.below hb1) hln.1
  have hst := SortU_any w1.heap.size l.length (pad l.length ms) W (fun i hi => hU.cell i hi) (fun o => (mcells hU).2 o) (blk_lt hU) (by rw [pad_len]; omega)
  rw [pad_len] at hst
  have hpl := pad_len l.length ms
  have HB : Hid (most l = l.length / 2 + 1) := rfl
  go_wp2_with fail
  refine hst.mono ?_
  rintro e w2 ⟨rfl, S, hp, hso, hcell, hb2⟩
  have hSl : S.length = l.length := by rw [hp.length_eq, hpl]
  have hB2 : Below w.heap.size w w2 := (below2 hb1 hbW).trans (hb2.mono hb1.size)
  have hms : most l - 1 < S.length := by rw [hSl, HB.out]; omega
  have hC := (com_sorted hso (by rw [HB.out]; omega) hms).perm hp
  have c0 := hcell _ hms
  have HC : Hid _ := hC
  clear hC hcell hp hso hcp hst hmk hU hbW hc
  obtain ⟨x, hx⟩ : ∃ x, x = S[most l - 1] := ⟨_, rfl⟩
  rw [← hx] at HC c0
  clear hx
  have hm1 : 0 < most l := by rw [HB.out]; omega
  have hm2 : most l ≤ l.length := by rw [HB.out]; omega
  go_wp2_with fail
  refine (Most_any q cap l w2 hl).mono ?_
  rintro e w3 ⟨rfl, rfl⟩
  generalize hmm : most l = m at *
  have HMM : Hid _ := hmm
  clear hmm
  obtain ⟨m', rfl⟩ : ∃ m', m = m' + 1 := ⟨m - 1, by omega⟩
  rw [Nat.add_sub_cancel] at c0
  have e1 : ((m' + 1 : Nat) : Int) - 1 = (m' : Int) := by omega
  have e2 : (m' : Int) < (l.length : Int) := by omega
  go_wp2
  go_ret
  exact ⟨⟨x, rfl, fun e => absurd (HK.out.symm.trans e) (by decide), fun _ => by rw [HMM.out]; exact HC.out⟩, hB2⟩

end Go.Proofs.Ytdoiknfpgmglaab
