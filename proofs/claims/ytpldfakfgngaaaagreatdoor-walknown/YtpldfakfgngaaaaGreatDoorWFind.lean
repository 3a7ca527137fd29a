/-
  A log's files found on its disk, and files taken off it.
-/
import Derived.Test.YtpldfakfgngaaaaGreatDoorGPure
namespace Go.Proofs.YtpldfakfgngaaaaGreatDoor
open Go.RowKit
attribute [local go_sem] size_bstr toList_bstr append_bstr

/-- What is told of files that were found. -/
def abV (p : List UInt8) (n : Nat) : List Value := [.string (bstr (nm p n)), .int .u64 (n : Int), .int .i64 0]
def abs3 (p : List UInt8) (ns : List Nat) : List Value := ns.flatMap (abV p)
theorem abs3_length (p : List UInt8) (ns : List Nat) : (abs3 p ns).length = ns.length * 3 := by
  induction ns with
  | nil => rfl
  | cons n r ih => rw [abs3, List.flatMap_cons, List.length_append, ← abs3, ih]; simp [abV]; omega
theorem abs3_append (p : List UInt8) (a b : List Nat) : abs3 p (a ++ b) = abs3 p a ++ abs3 p b := by simp [abs3]
theorem abs3_get (p : List UInt8) : ∀ (ns : List Nat) (i : Nat) (hi : i < ns.length), ∀ j, j < 3 → (abs3 p ns)[i * 3 + j]? = (abV p ns[i])[j]?
  | [], i, hi, _, _ => by simp at hi
  | n :: r, 0, _, j, hj => by
    rw [abs3, List.flatMap_cons, Nat.zero_mul, Nat.zero_add, List.getElem?_append_left (by simp [abV]; omega)]
    rfl
  | n :: r, i + 1, hi, j, hj => by
    rw [abs3, List.flatMap_cons, List.getElem?_append_right (by simp [abV]; omega), ← abs3]
    have e : (i + 1) * 3 + j - (abV p n).length = i * 3 + j := by simp [abV]; omega
    rw [e, abs3_get p r i (by simpa using hi) j hj]
    simp
theorem Tryz.infoAbout : (Tryz.prog.info? 97).map (fun i => (i.zero, i.size, i.bytes)) = some (some (.agg #[.string ⟨#[]⟩, .int .u64 0, .int .i64 0]), 3, 32) := by kernel_rfl
theorem own_slice {w : World} {B e size : Nat} {v : Value} {n : Nat} {xs : List Value} (h : w.ownsRow B e size v n xs) : ∃ q cap, v = .slice q n cap := by
  rcases h.2 with ⟨rfl, rfl⟩ | ⟨g, cap, cur, rfl, _⟩
  · exact ⟨none, 0, rfl⟩
  · exact ⟨_, _, rfl⟩
theorem own_lower {w : World} {B B' e size : Nat} {v : Value} {n : Nat} {xs : List Value} (h : w.ownsRow B e size v n xs) (hB : B' ≤ B) : w.ownsRow B' e size v n xs := by
  refine ⟨h.1, ?_⟩
  rcases h.2 with a | ⟨g, cap, cur, a1, a2, a3⟩
  · exact Or.inl a
  · exact Or.inr ⟨g, cap, cur, a1, Nat.le_trans hB a2, a3⟩
theorem own_at {w : World} {B e size : Nat} {q : Option Addr} {n cap : Nat} {xs : List Value} (h : w.ownsRow B e size (.slice q n cap) n xs) (h0 : 0 < n) : ∃ g, q = some ⟨g, 0, none⟩ ∧ B ≤ g ∧ g < w.heap.size ∧ ∀ j u, xs[j]? = some u → w.cell? ⟨g, j, none⟩ = some u := by
  rcases h.2 with ⟨_, rfl⟩ | ⟨g, cap', cur, e, hB, hg, _, _, _, htk⟩
  · omega
  · cases e
    refine ⟨g, rfl, hB, (Array.getElem?_eq_some_iff.1 hg).1, fun j u hj => ?_⟩
    have := h.cells (g := g) rfl j u hj
    rwa [Addr.add_lit, Nat.zero_add] at this
def nosL (p : List UInt8) (ls : List (List UInt8)) : List Nat := ls.filterMap (fun s => nof (s.drop p.length))
theorem nosL_lst (p : List UInt8) (L : List Fl) : nosL p (lst p L) = nos p (Pu L) := by
  unfold nosL lst nos nms Pu pu
  rw [List.map_map]
  rfl
theorem nosL_succ {ls : List (List UInt8)} {i : Nat} (h : i < ls.length) (p : List UInt8) : nosL p (ls.take (i + 1)) = nosL p (ls.take i) ++ (match nof (ls[i].drop p.length) with | none => [] | some n => [n]) := by
  unfold nosL
  rw [List.take_succ_eq_append_getElem h, List.filterMap_append]
  congr 1
  cases e : nof (ls[i].drop p.length) <;> simp [e]
theorem nosL_len (p : List UInt8) (ls : List (List UInt8)) : (nosL p ls).length ≤ ls.length := List.length_filterMap_le _ _

set_option maxHeartbeats 400000 in
set_option maxRecDepth 100000 in
theorem wfind_any {k : Wk} {F : List Wf} {v : Value} {m fr N : Nat} {L : List Fl} (w : World) (hW : Wm w k F v) (hD : Dk w k.d m L fr N) (hN : N ≤ 1000000) (hv : ∃ tp q, w.cell? ⟨3, 0, none⟩ = some (.iface tp q)) (h8 : 8 ≤ w.heap.size) :
    Calls Tryz.prog 75 #[.pointer (some ⟨k.g, 0, none⟩)] w fun e w' => ∃ u, e = .returned u ∧ w'.ownsRow w.heap.size 97 3 u (nos k.p (Pu L)).length (abs3 k.p (nos k.p (Pu L))) ∧ Below w.heap.size w w' := by
  obtain ⟨i0, hi, hz0, hz1, hz2⟩ := info_parts Tryz.infoAbout
  obtain ⟨c0, c1, -, -, -⟩ := cells5 hW.blk
  have hgl := (Array.getElem?_eq_some_iff.1 hW.blk).1
  have hLl : (lst k.p L).length ≤ 1000000 := by
    have h1 : (lst k.p L).length ≤ (nms L).length := List.length_filter_le _ _
    have h2 : (nms L).length = L.length := List.length_map _
    have := hD.len
    omega
  have hpre : ∀ s ∈ lst k.p L, k.p.isPrefixOf s = true := fun s hs => (mem_lst.1 hs).2
  go_enter Tryz.func75, Tryz.ntmps75
  go_wp2_with fail
  go_region_held3 (fun w' => w'.cell? ⟨k.g, 0, none⟩ = some (.pointer (some ⟨k.d, 0, none⟩)) ∧ w'.cell? ⟨k.g, 1, none⟩ = some (.string (bstr k.p))) (first | with_reducible exact ⟨c0, c1⟩ | with_reducible exact ⟨d0, d1⟩ | go_keep)
    ((go_at_call 48; refine (List_any k.p _ hD.drew (by omega)).mono ?_; rintro e w1 ⟨u, rfl, own1, hb1⟩; obtain ⟨q1, cap1, rfl⟩ := own_slice own1; have hB1 : Below w.heap.size w w1 := (below_drewN (Below.refl _ _) 1).trans hb1; have hblk1 := (hB1.block _ hgl).trans hW.blk; obtain ⟨d0, d1, -, -, -⟩ := cells5 hblk1))
  have hlst := nosL_lst k.p L
  have HL : Hid _ := hlst
  clear hlst
  generalize lst k.p L = ls at *
  obtain ⟨tp, qv, hvv⟩ := hv
  clear d0 d1 c0 c1
  go_wp2_with fail
  go_loopw [3, 18] (fun s3 s18 wr => ∃ i : Nat, s18 = .int .i64 (i : Int) ∧ i ≤ ls.length ∧ wr.ownsRow w1.heap.size 97 3 s3 (nosL k.p (ls.take i)).length (abs3 k.p (nosL k.p (ls.take i))) ∧ Below w1.heap.size w1 wr) (fun _ s18 _ => ls.length - (intOf s18).toNat)
  case atStart => exact ⟨0, rfl, Nat.zero_le _, World.ownsRow_nil _ _ _ _, Below.refl _ _⟩
  case round =>
    obtain ⟨i, rfl, hi1, hown, hbr⟩ := hrel
    by_cases hl : i < ls.length
    · have own2 := own_belowS own1 hbr
      obtain ⟨g1, rfl, _, _, hcs⟩ := own_at own2 (by omega)
      have a0 : wr.cell? ⟨g1, i, none⟩ = some (.string (bstr ls[i])) := hcs i (encStr ls[i]) (by simp [hl])
      clear hcs
      have hst := nosL_succ hl k.p
      have hlen := nosL_len k.p (ls.take i)
      have htk : (ls.take i).length = i := by rw [List.length_take]; omega
      have hil : (i : Int) < (ls.length : Int) := by omega
      have hp := hpre ls[i] (List.getElem_mem hl)
      have r1 := (cells5 ((hbr.block _ (by have := hB1.size; omega)).trans hblk1)).2.1
      have hpl : k.p.length ≤ ls[i].length := by
        obtain ⟨t, e⟩ := List.isPrefixOf_iff_prefix.1 hp
        rw [← e, List.length_append]; omega
      have hBr : Below w.heap.size w wr := hB1.trans (hbr.mono hB1.size)
      have hnum := numberOf_any (ls[i].drop k.p.length) wr ⟨tp, qv, Bsyn hBr (by omega) hvv⟩ (by have := hBr.size; omega)
      have hsl := fun w : World => run_from (P := Tryz.prog) 9 ls[i] k.p.length hpl w Tryz.underlying9
      cases hno : nof (ls[i].drop k.p.length) with
      | none =>
        rw [hno] at hst hnum
        have hst : nosL k.p (ls.take (i + 1)) = nosL k.p (ls.take i) := by rw [hst]; simp
        have HS : Hid (nosL k.p (ls.take (i + 1)) = nosL k.p (ls.take i)) := hst
        clear hst hno
        go_wp2_with fail
        refine hnum.mono ?_
        rintro e w2 ⟨rfl, hb2⟩
        go_wp2
        go_roundw
        case rel => exact ⟨i + 1, by simp, hl, by rw [HS.out]; exact own_belowS hown hb2, hbr.trans (hb2.mono hbr.size)⟩
        case measure => simp [intOf]; omega
      | some n =>
        rw [hno] at hst hnum
        obtain ⟨hnm, _⟩ := nm_of hp hno
        have HS : Hid (nosL k.p (ls.take (i + 1)) = nosL k.p (ls.take i) ++ [n]) := hst
        have HN : Hid (ls[i] = nm k.p n) := hnm
        clear hst hno hnm
        simp only [Option.getD_some, Option.isSome_some] at hnum
        generalize ls[i] = x at *
        go_wp2_with fail
        refine hnum.mono ?_
        rintro e w2 ⟨rfl, hb2⟩
        have hown2 := own_belowS hown hb2
        go_wp2_with (at_builtin; refine wpList_append_own _ rfl _ _ 120 rfl w1.heap.size 97 i0 (.agg #[.string ⟨#[]⟩, .int .u64 0, .int .i64 0]) 3 32 Tryz.underlying120 hi hz0 hz1 hz2 rfl (by decide) _ _ _ rfl (hown2.alloc _) ⟨w2.heap.size, 0, none⟩ 1 1 [.string (bstr x), .int .u64 (n : Int), .int .i64 0] rfl rfl ?c1 ?c2 ?c3 ?c4 ?c5 ?_)
        case c1 => exact World.news_of_block (cs := #[.string (bstr x), .int .u64 (n : Int), .int .i64 0]) (t := 97) (fr := (0, 0)) (heap_alloc_new w2 _)
        case c2 => simp [Value.oneCell']
        case c3 => unfold maxLen; omega
        case c4 => omega
        case c5 => have := hbr.size; have := hb2.size; simp; omega
        intro v' w5 hown5 hgrow5 _
        go_wp2
        go_roundw
        case rel =>
          refine ⟨i + 1, by simp, hl, ?_, ?_⟩
          · rw [HS.out, abs3_append, List.length_append]
            have e3 : abs3 k.p [n] = [.string (bstr x), .int .u64 (n : Int), .int .i64 0] := by simp [abs3, abV, HN.out]
            rw [e3]
            exact hown5
          · have hB2 : Below w1.heap.size w1 w2 := hbr.trans (hb2.mono hbr.size)
            exact (hB2.alloc hB2.size _).grown hgrow5 (by have := hB2.size; simp; omega) (fun j hj => (hown2.lt j hj).1)
        case measure => simp [intOf]; omega
    · have hil : ¬ (i : Int) < (ls.length : Int) := by omega
      obtain rfl : i = ls.length := by omega
      go_wp2
      go_ret
      rw [List.take_length, HL.out] at hown
      exact ⟨_, rfl, own_lower hown hB1.size, hB1.trans (hbr.mono hB1.size)⟩

end Go.Proofs.YtpldfakfgngaaaaGreatDoor
