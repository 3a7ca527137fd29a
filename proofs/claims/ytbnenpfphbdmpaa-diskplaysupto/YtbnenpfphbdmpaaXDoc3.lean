/-
  The contracts of the document's Crash, List, Same.
-/
import Derived.Test.YtbnenpfphbdmpaaXDoc2
namespace Go.Proofs.Ytbnenpfphbdmpaa
open Go.RowKit
open Go.Sort (Holds grow putRow)
attribute [local go_sem] size_bstr toList_bstr append_bstr

/-- Texts in memory, as an argument. -/
def NArg (w : World) (q : Option Addr) (A : List (List UInt8)) : Prop := 0 < A.length → ∃ b off, q = some ⟨b, off, none⟩ ∧ b < w.heap.size ∧ ∀ i (h : i < A.length), w.cell? ⟨b, off + i, none⟩ = some (.string (bstr A[i]))
theorem NArg.below {w w' : World} {q : Option Addr} {A : List (List UInt8)} (h : NArg w q A) (hb : Below w.heap.size w w') : NArg w' q A := fun h0 => by
  obtain ⟨b, off, h1, h2, h3⟩ := h h0
  exact ⟨b, off, h1, Nat.lt_of_lt_of_le h2 hb.size, fun i hi => (World.cell?_of_block (a := ⟨b, off + i, none⟩) (hb.block b h2)).trans (h3 i hi)⟩
theorem NArg.of_own {w : World} {B : Nat} {v : Value} {A : List (List UInt8)} (h : w.ownsRow B 9 1 v A.length (A.map encStr)) : ∃ q cap, v = .slice q A.length cap ∧ NArg w q A ∧ ∀ i, v.ownBlock = some i → B ≤ i := by
  rcases h.2 with ⟨rfl, h0⟩ | ⟨g, cap, cur, rfl, hbg, hg, hnc, _, _, _⟩
  · exact ⟨none, 0, by rw [h0], fun h1 => by omega, fun i hi => by cases hi⟩
  · refine ⟨_, cap, rfl, fun _ => ⟨g, 0, rfl, (Array.getElem?_eq_some_iff.1 hg).1, fun i hi => ?_⟩, fun i hi => by cases hi; exact hbg⟩
    have := h.cells (g := g) rfl i (encStr A[i]) (by simp [hi])
    rw [Addr.add_lit] at this
    exact this

set_option maxHeartbeats 2000000 in
set_option maxRecDepth 100000 in
theorem RSame_eq (qa qb : Option Addr) (ca cb : Nat) (A : List (List UInt8)) (w : World) (ha : NArg w qa A) (hb : NArg w qb A) (hn : A.length ≤ 1000000) :
    Calls Try.prog 16 #[.slice qa A.length ca, .slice qb A.length cb] w fun e w' => e = .returned (.bool true) ∧ Below w.heap.size w w' := by
  go_enter Try.func16, Try.ntmps16
  go_wp2_with fail
  go_loopw [5] (fun s5 wr => ∃ i : Nat, s5 = .int .i64 (i : Int) ∧ i ≤ A.length ∧ Below w.heap.size w wr) (fun s5 _ => A.length - (intOf s5).toNat)
  case atStart => exact ⟨0, rfl, Nat.zero_le _, Below.refl _ _⟩
  case round =>
    obtain ⟨i, rfl, hi, hbr⟩ := hrel
    by_cases hl : i < A.length
    · obtain ⟨b1, o1, rfl, _, h1⟩ := ha.below hbr (by omega)
      obtain ⟨b2, o2, rfl, _, h2⟩ := hb.below hbr (by omega)
      have k1 := h1 i hl
      have k2 := h2 i hl
      have hil : (i : Int) < (A.length : Int) := by omega
      clear h1 h2
      generalize A[i] = x at *
      go_wp2_with fail
      go_quiet (fail)
      go_wp2
      go_roundw
      case rel => exact ⟨i + 1, by simp, hl, ⟨hbr.os, hbr.tape, hbr.output, hbr.size, hbr.block⟩⟩
      case measure => simp [intOf]; omega
    · have hc : ¬ ((i : Int) < (A.length : Int)) := by omega
      go_wp2
      go_ret
      exact ⟨rfl, hbr⟩

/-- The names that begin so. -/
def lstP (p : List UInt8) (P : List F3) : List (List UInt8) := (P.map (fun f => f.1)).filter (fun x => p.isPrefixOf x)
theorem lstP_Pu (p : List UInt8) (L : List Fl) : lstP p (Pu L) = lst p L := by
  unfold lstP lst Pu nms
  rw [List.map_map]
  rfl
theorem lstP_succ {P : List F3} {i : Nat} (h : i < P.length) (p : List UInt8) : lstP p (P.take (i + 1)) = lstP p (P.take i) ++ (if p.isPrefixOf P[i].1 = true then [P[i].1] else []) := by
  unfold lstP
  rw [List.take_succ_eq_append_getElem h, List.map_append, List.filter_append]
  congr 1
  by_cases hs : p.isPrefixOf P[i].1 = true <;> simp [hs]
theorem lstP_len (p : List UInt8) (P : List F3) : (lstP p P).length ≤ P.length := by
  have := List.length_filter_le (fun x => p.isPrefixOf x) (P.map (fun f => f.1))
  unfold lstP
  rw [List.length_map] at this
  exact this
theorem pre_take (p s : List UInt8) : p.isPrefixOf s = (s.take p.length == p) := by
  rw [Bool.eq_iff_iff, List.isPrefixOf_iff_prefix, beq_iff_eq, List.prefix_iff_eq_take]
  constructor
  · exact fun h => h.symm
  · exact fun h => h.symm
theorem pre_long {p s : List UInt8} (h : ¬ p.length ≤ s.length) : p.isPrefixOf s = false := by
  rw [Bool.eq_false_iff]
  intro hp
  exact h (List.isPrefixOf_iff_prefix.1 hp).length_le

set_option maxHeartbeats 2000000 in
set_option maxRecDepth 100000 in
theorem RList_any (R cap : Nat) (q : Option Addr) (P : List F3) (s : List UInt8) (w : World) (hP : FArg w q cap P) (hn : P.length ≤ 1000000) (hln : ∀ f ∈ P, f.1.length ≤ 64) :
    Calls Try.prog 17 #[rdV R q P.length cap, .string (bstr s)] w fun e w' => ∃ q' cap', e = .returned (.slice q' (lstP s P).length cap') ∧ NArg w' q' (lstP s P) ∧ Below w.heap.size w w' := by
  obtain ⟨i0, hi, hz0, hz1, hz2⟩ := info_parts Try.infoStr
  have hb0 : Below w.heap.size w (w.alloc (.cells #[.int .i64 (R : Int), .slice q P.length cap] 27)) := (Below.refl _ _).alloc (Nat.le_refl _) _
  have hbx := boxed w (.int .i64 (R : Int)) (.slice q P.length cap) 27
  have hP1 := hP.below hb0
  go_enter Try.func17, Try.ntmps17
  go_wp2_with fail
  generalize w.alloc (.cells #[.int .i64 (R : Int), .slice q P.length cap] 27) = W at *
  have hlt0 := (Array.getElem?_eq_some_iff.1 hbx).1
  go_loopw [5, 6] (fun s5 s6 wr => ∃ i : Nat, s6 = .int .i64 (i : Int) ∧ i ≤ P.length ∧ wr.ownsRow W.heap.size 9 1 s5 (lstP s (P.take i)).length ((lstP s (P.take i)).map encStr) ∧ Below W.heap.size W wr) (fun _ s6 _ => P.length - (intOf s6).toNat)
  case atStart => exact ⟨0, rfl, Nat.zero_le _, World.ownsRow_nil _ _ _ _, Below.refl _ _⟩
  case round =>
    obtain ⟨i, rfl, hi1, hown, hbr⟩ := hrel
    have c1 := (cells_block ((hbr.block _ hlt0).trans hbx)).1 1
    by_cases hl : i < P.length
    · have hPr := hP1.below hbr
      obtain ⟨b, off, rfl, _, hR⟩ := hPr.at_ (by omega)
      have a0 := (hR i hl).c0
      have hst := lstP_succ hl s
      have hlen := lstP_len s (P.take i)
      have htk : (P.take i).length = i := by rw [List.length_take]; omega
      have hil : (i : Int) < (P.length : Int) := by omega
      have hn64 := hln P[i] (List.getElem_mem hl)
      clear hR hln
      generalize P[i].1 = nm at *
      by_cases hle : s.length ≤ nm.length
      · have hpt := pre_take s nm
        have hcl : (s.length : Int) ≤ (nm.length : Int) := by omega
        have hhd := fun w : World => run_head (P := Try.prog) 9 nm s.length hle w Try.underlying9
        cases hpx : s.isPrefixOf nm with
        | false =>
          rw [hpx] at hst hpt
          rw [if_neg (by decide), List.append_nil] at hst
          have HS : Hid _ := hst
          have hpt' := hpt.symm
          clear hst hpt
          go_wp2
          go_roundw
          case rel => exact ⟨i + 1, by simp, hl, by rw [HS.out]; exact hown, hbr⟩
          case measure => simp [intOf]; omega
        | true =>
          rw [hpx] at hst hpt
          rw [if_pos rfl] at hst
          have HS : Hid _ := hst
          have hpt' := hpt.symm
          clear hst hpt
          go_wp2_with (at_builtin; refine wpList_append_own _ rfl _ _ 38 rfl W.heap.size 9 i0 (.string ⟨#[]⟩) 1 16 Try.underlying38 hi hz0 hz1 hz2 rfl (by decide) _ _ _ rfl (hown.alloc _) ⟨wr.heap.size, 0, none⟩ 1 1 [Value.string (bstr nm)] rfl rfl ?c1 ?c2 ?c3 ?c4 ?c5 ?_)
          case c1 => exact cell_one_new _ _ _
          case c2 => simp [Value.oneCell']
          case c3 => unfold maxLen; omega
          case c4 => omega
          case c5 => have := hbr.size; simp; omega
          intro v' w5 hown5 hgrow5 _
          go_wp2
          go_roundw
          case rel =>
            refine ⟨i + 1, by simp, hl, ?_, (hbr.alloc hbr.size _).grown hgrow5 (by have := hbr.size; simp; omega) (fun j hj => (hown.lt j hj).1)⟩
            rw [HS.out, List.map_append, List.length_append]
            exact hown5
          case measure => simp [intOf]; omega
      · have hpx := pre_long hle
        have hcl : ¬ (s.length : Int) ≤ (nm.length : Int) := by omega
        rw [hpx, if_neg (by decide), List.append_nil] at hst
        have HS : Hid _ := hst
        clear hst hpx
        go_wp2
        go_roundw
        case rel => exact ⟨i + 1, by simp, hl, by rw [HS.out]; exact hown, hbr⟩
        case measure => simp [intOf]; omega
    · have hie : i = P.length := by omega
      have hc : ¬ ((i : Int) < (P.length : Int)) := by omega
      rw [hie, List.take_length] at hown
      obtain ⟨q', cap', rfl, hF, _⟩ := NArg.of_own hown
      clear hie hown
      go_wp2
      go_ret
      exact ⟨q', ⟨cap', rfl⟩, hF, b_step hb0 hbr (Nat.le_refl _)⟩

/-- A file behind a loss of power. -/
def crO (k : Int) (f : F3) : F3 := (f.1, f.2.1.take (f.2.2 + kn k (f.2.1.length - f.2.2)), f.2.2 + kn k (f.2.1.length - f.2.2))
def crP (ks : List Int) (P : List F3) : List F3 := P.mapIdx (fun j f => crO (kAt ks j) f)
theorem crP_len (ks : List Int) (P : List F3) : (crP ks P).length = P.length := by simp [crP]
theorem crP_succ {P : List F3} {i : Nat} (h : i < P.length) (ks : List Int) : crP ks (P.take (i + 1)) = crP ks (P.take i) ++ [crO (kAt ks i) P[i]] := by
  unfold crP
  have e : (P.take i).length = i := by rw [List.length_take]; omega
  rw [List.take_succ_eq_append_getElem h, List.mapIdx_concat, e]

/-- A row appended to one that the call owns, as a run; what is told of the other blocks. -/
theorem run_append_g {w : World} (ty : TypeId) (base : Nat) (v : Value) (xs : List F3) (hown : w.ownsRow base 35 3 v xs.length (fcells xs))
    (q : Option Addr) (cap : Nat) (ds : List F3) (hA : FArg w q cap ds) (hbytes : (xs.length + ds.length) * 40 ≤ 140737488355328) (hbase : base ≤ w.heap.size) :
    ∃ v' w', (Builtin.append_ #[25, 25] ty #[v, .slice q ds.length cap]).run Try.prog w = .ok v' w' ∧ w'.ownsRow base 35 3 v' (xs ++ ds).length (fcells (xs ++ ds)) ∧ Below base w w' ∧ ∀ i, i < w.heap.size → v.ownBlock ≠ some i → w'.heap[i]? = w.heap[i]? := by
  obtain ⟨i0, hi, hz0, hz1, hz2⟩ := info_parts Try.infoFile
  cases q with
  | none =>
    obtain ⟨rfl, rfl⟩ := hA.nil rfl
    refine ⟨v, w, run_append_owned_none (P := Try.prog) (w := w) base 25 ty 35 i0 3 Try.underlying25 hi v _ _ hown, ?_, Below.refl _ _, fun _ _ _ => rfl⟩
    rw [List.append_nil]
    exact hown
  | some ad =>
    have hnews : ∀ j u, (fcells ds)[j]? = some u → w.cell? (ad.add j) = some u := by
      intro j u hj
      have h0 : 0 < ds.length := by
        by_cases h : 0 < ds.length
        · exact h
        · have : ds = [] := List.eq_nil_of_length_eq_zero (by omega)
          subst this
          simp [fcells] at hj
      obtain ⟨b, off, e, _, hR⟩ := hA.at_ h0
      cases e
      exact hR.cells j u hj
    obtain ⟨v', w', hr, h2, h3, _⟩ := run_append_own (P := Try.prog) w base 25 ty 35 i0 (.agg #[.string ⟨#[]⟩, .string ⟨#[]⟩, .int .i64 0]) 3 40 Try.underlying25 hi hz0 hz1 hz2 rfl (by decide) v _ _ hown ad ds.length cap (fcells ds) (fcells_length ds) hnews (fcells_one ds) (by unfold maxLen; omega) hbytes hbase
    refine ⟨v', w', hr, ?_, (Below.refl _ _).grown h3 hbase (fun k hk => (hown.lt k hk).1), fun i hi hne => h3.block i hi hne.symm⟩
    rw [List.length_append, fcells_append]
    exact h2
theorem crO_lit (k : Int) (nm bs : List UInt8) (sy z : Nat) (hz : kn k (bs.length - sy) = z) : crO k (nm, bs, sy) = (nm, bs.take (sy + z), sy + z) := by subst hz; rfl
theorem kn_zero (u : Nat) : kn 0 u = 0 := by simp [kn]

set_option maxHeartbeats 4000000 in
set_option maxRecDepth 100000 in
theorem RCrash_any (R cap kc : Nat) (q kq : Option Addr) (P : List F3) (ks : List Int) (w : World) (hP : FArg w q cap P) (hn : P.length ≤ 1000000) (hsy : ∀ f ∈ P, f.2.2 ≤ f.2.1.length ∧ f.2.1.length ≤ 140737488355328) (hk : IAt w w.heap.size kq ks) :
    Calls Try.prog 31 #[rdV R q P.length cap, .slice kq ks.length kc] w fun e w' => ∃ q' cap', e = .returned (rdV R q' (crP ks P).length cap') ∧ FArg w' q' cap' (crP ks P) ∧ Below w.heap.size w w' := by
  obtain ⟨hb0, b0, b1⟩ := two_blocks w R q P.length cap
  have hT : Two w _ R q P.length cap := ⟨hb0, b0, b1⟩
  have hP0 := hP.below hb0
  clear b0 b1
  go_enter Try.func31, Try.ntmps31
  go_wp2_with fail
  generalize (w.alloc (.cells #[.int .i64 (R : Int), .slice q P.length cap] 27)).alloc (.cells #[.int .i64 0, .slice none 0 0] 27) = W at *
  go_loopw [5, 6] (fun s5 s6 wr => ∃ i : Nat, s6 = .int .i64 (i : Int) ∧ i ≤ P.length ∧ wr.ownsRow W.heap.size 35 3 s5 (crP ks (P.take i)).length (fcells (crP ks (P.take i))) ∧ Below W.heap.size W wr) (fun _ s6 _ => P.length - (intOf s6).toNat)
  case atStart => exact ⟨0, rfl, Nat.zero_le _, World.ownsRow_nil _ _ _ _, Below.refl _ _⟩
  case round =>
    obtain ⟨i, rfl, hi, hown, hbr⟩ := hrel
    have hTr := hT.step hbr
    obtain ⟨c0, c1, g0, g1, d0, d1⟩ := hTr.facts
    by_cases hl : i < P.length
    · have hPr := hP0.below hbr
      obtain ⟨b, off, rfl, _, hR⟩ := hPr.at_ (by omega)
      have hx := hR i hl
      have hst := crP_succ hl ks
      have htk : (crP ks (P.take i)).length = i := by rw [crP_len, List.length_take]; omega
      have hil : (i : Int) < (P.length : Int) := by omega
      obtain ⟨hs1, hs2⟩ := hsy P[i] (List.getElem_mem hl)
      clear hR
      generalize P[i] = x at *
      obtain ⟨nm, bs, sy⟩ := x
      obtain ⟨a0, a1, a2⟩ := hx
      simp only at a0 a1 a2 hs1 hs2
      have hbA : Below W.heap.size W (wr.alloc (.cells #[.string (bstr nm), .string (bstr bs), .int .i64 (sy : Int)] 35)) := hbr.alloc hbr.size _
      have hownA := hown.alloc (.cells #[.string (bstr nm), .string (bstr bs), .int .i64 (sy : Int)] 35 (0, 0))
      have hbxA := heap_alloc_new wr (.cells #[.string (bstr nm), .string (bstr bs), .int .i64 (sy : Int)] 35 (0, 0))
      have f0 := (cells_block hbxA).1 0
      have f1 := (cells_block hbxA).1 1
      have f2 := (cells_block hbxA).1 2
      have hgA : wr.heap.size < (wr.alloc (.cells #[.string (bstr nm), .string (bstr bs), .int .i64 (sy : Int)] 35)).heap.size := by simp
      have hnb : ∀ k, u5.ownBlock = some k → k ≠ wr.heap.size := fun k hk he => by have := (hown.lt k hk).2; omega
      have hle := kn_le (kAt ks i) (bs.length - sy)
      have hu : (((bs.length - sy : Nat) : Int)) = (bs.length : Int) - (sy : Int) := by omega
      clear hsy hTr g0 g1 d0 d1 hown hbr hbxA
      by_cases hki : i < ks.length
      · obtain ⟨kb, ko, rfl, hkb, hkc⟩ := hk (by omega)
        have ck := hkc i hki
        have hkat : kAt ks i = ks[i] := by unfold kAt; rw [List.getD_eq_getElem?_getD, List.getElem?_eq_getElem hki]; rfl
        have hkil : (i : Int) < (ks.length : Int) := by omega
        have ckA : (wr.alloc (.cells #[.string (bstr nm), .string (bstr bs), .int .i64 (sy : Int)] 35)).cell? ⟨kb, ko + i, none⟩ = some (.int .i64 ks[i]) := (World.cell?_of_block (a := ⟨kb, ko + i, none⟩) ((b_step hb0 hbA (Nat.le_refl _)).block kb hkb)).trans ck
        rw [hkat] at hst hle
        clear ck hkc hkat
        generalize ks[i] = k at *
        by_cases hneg : k.tmod (((bs.length - sy : Nat) : Int) + 1) < 0
        · have hkn := kn_neg hneg
          rw [hu] at hneg hkn
          go_wp2_with fail
          have hkn2 : k.tmod ((bs.length : Int) - (sy : Int) + 1) + ((bs.length : Int) - (sy : Int)) + 1 = ((kn k (bs.length - sy) : Nat) : Int) := by omega
          simp only [hkn2]
          generalize hz : kn k (bs.length - sy) = z at *
          have HS : Hid (crP ks (P.take (i + 1)) = crP ks (P.take i) ++ [(nm, bs.take (sy + z), sy + z)]) := by rw [hst, crO_lit _ _ _ _ _ hz]; rfl
          clear hst hz hkn hkn2 hneg
          generalize wr.alloc (.cells #[.string (bstr nm), .string (bstr bs), .int .i64 (sy : Int)] 35) = A at *
          have hsl : ∀ w : World, (Instr.slice 9 (.string (bstr bs)) none (some (.int .i64 ((sy : Int) + (z : Int)))) none).run Try.prog w = .ok (.string (bstr (bs.take (sy + z)))) w := fun w => by
            have := run_head (P := Try.prog) 9 bs (sy + z) (by omega) w Try.underlying9
            rw [Int.natCast_add] at this
            exact this
          have hwr : IntKind.i64.wrap ((sy : Int) + (z : Int)) = ((sy : Int) + (z : Int)) := by rw [IntKind.wrap_i64]; omega
          have hI1 : (0 : Int) ≤ ((sy : Int) + (z : Int)) := by omega
          have hI2 : ((sy : Int) + (z : Int)) ≤ (bs.length : Int) := by omega
          obtain ⟨v', w', hrun, hv', hb', hk'⟩ := run_append_g (w := A.drew.alloc (.cells #[.string (bstr nm), .string (bstr (bs.take (sy + z))), .int .i64 (((sy + z) : Nat) : Int)] 35)) 25 W.heap.size u5 (crP ks (P.take i)) ((hownA.drew).alloc _) _ 1 [(nm, bs.take (sy + z), (sy + z))] (FArg.one A.drew (nm, bs.take (sy + z), (sy + z))) (by rw [htk]; simp only [List.length_cons, List.length_nil]; omega) (by have := hbA.size; simp; omega)
          rw [← HS.out] at hv'
          rw [Int.natCast_add] at hrun
          have hbV : Below A.heap.size A (A.drew.alloc (.cells #[.string (bstr nm), .string (bstr (bs.take (sy + z))), .int .i64 ((sy : Int) + (z : Int))] 35)) := ((Below.refl _ _).drew).alloc (Nat.le_refl _) _
          have hbW : Below W.heap.size W w' := (b_step hbA hbV (Nat.le_refl _)).trans hb'
          have kv : ∀ o, (A.drew.alloc (.cells #[.string (bstr nm), .string (bstr (bs.take (sy + z))), .int .i64 ((sy : Int) + (z : Int))] 35)).cell? ⟨wr.heap.size, o, none⟩ = A.cell? ⟨wr.heap.size, o, none⟩ := fun o => World.cell?_of_block (a := ⟨wr.heap.size, o, none⟩) (hbV.block _ hgA)
          have kw : ∀ o, w'.cell? ⟨wr.heap.size, o, none⟩ = A.cell? ⟨wr.heap.size, o, none⟩ := fun o => (World.cell?_of_block (a := ⟨wr.heap.size, o, none⟩) (hk' _ (Nat.lt_of_lt_of_le hgA hbV.size) (fun he => hnb _ he rfl))).trans (kv o)
          have m0 := (kv 0).trans f0
          have m1 := (kv 1).trans f1
          have m2 := (kv 2).trans f2
          have n0 := (kw 0).trans f0
          have n1 := (kw 1).trans f1
          have n2 := (kw 2).trans f2
          clear kv kw hk' hb' hbV hownA
          have HV : Hid _ := hv'
          clear hv'
          go_region_held3 (fun w' => w'.cell? ⟨wr.heap.size, 0, none⟩ = some (.string (bstr nm)) ∧ w'.cell? ⟨wr.heap.size, 1, none⟩ = some (.string (bstr bs)) ∧ w'.cell? ⟨wr.heap.size, 2, none⟩ = some (.int .i64 (sy : Int))) (first | with_reducible exact ⟨f0, f1, f2⟩ | with_reducible exact ⟨m0, m1, m2⟩ | with_reducible exact ⟨n0, n1, n2⟩ | go_keep)
            ((refine step_app_f (by rfl) _ _ (by rfl) _ _ (by rfl) (by rfl) _ _ hrun ?_))
          go_wp2
          go_roundw
          case rel => exact ⟨i + 1, by simp, hl, HV.out, hbW⟩
          case measure => simp [intOf]; omega
        · have hkn := kn_pos hneg
          rw [hu] at hneg hkn
          go_wp2_with fail
          simp only [← hkn]
          generalize hz : kn k (bs.length - sy) = z at *
          have HS : Hid (crP ks (P.take (i + 1)) = crP ks (P.take i) ++ [(nm, bs.take (sy + z), sy + z)]) := by rw [hst, crO_lit _ _ _ _ _ hz]; rfl
          clear hst hz hkn hneg
          generalize wr.alloc (.cells #[.string (bstr nm), .string (bstr bs), .int .i64 (sy : Int)] 35) = A at *
          have hsl : ∀ w : World, (Instr.slice 9 (.string (bstr bs)) none (some (.int .i64 ((sy : Int) + (z : Int)))) none).run Try.prog w = .ok (.string (bstr (bs.take (sy + z)))) w := fun w => by
            have := run_head (P := Try.prog) 9 bs (sy + z) (by omega) w Try.underlying9
            rw [Int.natCast_add] at this
            exact this
          have hwr : IntKind.i64.wrap ((sy : Int) + (z : Int)) = ((sy : Int) + (z : Int)) := by rw [IntKind.wrap_i64]; omega
          have hI1 : (0 : Int) ≤ ((sy : Int) + (z : Int)) := by omega
          have hI2 : ((sy : Int) + (z : Int)) ≤ (bs.length : Int) := by omega
          obtain ⟨v', w', hrun, hv', hb', hk'⟩ := run_append_g (w := A.drew.alloc (.cells #[.string (bstr nm), .string (bstr (bs.take (sy + z))), .int .i64 (((sy + z) : Nat) : Int)] 35)) 25 W.heap.size u5 (crP ks (P.take i)) ((hownA.drew).alloc _) _ 1 [(nm, bs.take (sy + z), (sy + z))] (FArg.one A.drew (nm, bs.take (sy + z), (sy + z))) (by rw [htk]; simp only [List.length_cons, List.length_nil]; omega) (by have := hbA.size; simp; omega)
          rw [← HS.out] at hv'
          rw [Int.natCast_add] at hrun
          have hbV : Below A.heap.size A (A.drew.alloc (.cells #[.string (bstr nm), .string (bstr (bs.take (sy + z))), .int .i64 ((sy : Int) + (z : Int))] 35)) := ((Below.refl _ _).drew).alloc (Nat.le_refl _) _
          have hbW : Below W.heap.size W w' := (b_step hbA hbV (Nat.le_refl _)).trans hb'
          have kv : ∀ o, (A.drew.alloc (.cells #[.string (bstr nm), .string (bstr (bs.take (sy + z))), .int .i64 ((sy : Int) + (z : Int))] 35)).cell? ⟨wr.heap.size, o, none⟩ = A.cell? ⟨wr.heap.size, o, none⟩ := fun o => World.cell?_of_block (a := ⟨wr.heap.size, o, none⟩) (hbV.block _ hgA)
          have kw : ∀ o, w'.cell? ⟨wr.heap.size, o, none⟩ = A.cell? ⟨wr.heap.size, o, none⟩ := fun o => (World.cell?_of_block (a := ⟨wr.heap.size, o, none⟩) (hk' _ (Nat.lt_of_lt_of_le hgA hbV.size) (fun he => hnb _ he rfl))).trans (kv o)
          have m0 := (kv 0).trans f0
          have m1 := (kv 1).trans f1
          have m2 := (kv 2).trans f2
          have n0 := (kw 0).trans f0
          have n1 := (kw 1).trans f1
          have n2 := (kw 2).trans f2
          clear kv kw hk' hb' hbV hownA
          have HV : Hid _ := hv'
          clear hv'
          go_region_held3 (fun w' => w'.cell? ⟨wr.heap.size, 0, none⟩ = some (.string (bstr nm)) ∧ w'.cell? ⟨wr.heap.size, 1, none⟩ = some (.string (bstr bs)) ∧ w'.cell? ⟨wr.heap.size, 2, none⟩ = some (.int .i64 (sy : Int))) (first | with_reducible exact ⟨f0, f1, f2⟩ | with_reducible exact ⟨m0, m1, m2⟩ | with_reducible exact ⟨n0, n1, n2⟩ | go_keep)
            ((refine step_app_f (by rfl) _ _ (by rfl) _ _ (by rfl) (by rfl) _ _ hrun ?_))
          go_wp2
          go_roundw
          case rel => exact ⟨i + 1, by simp, hl, HV.out, hbW⟩
          case measure => simp [intOf]; omega
      · have hkil : ¬ (i : Int) < (ks.length : Int) := by omega
        have hkat : kAt ks i = 0 := by unfold kAt; rw [List.getD_eq_getElem?_getD, List.getElem?_eq_none (by omega)]; rfl
        rw [hkat] at hst hle
        have hz0 := kn_zero (bs.length - sy)
        go_wp2_with fail
        have HS : Hid (crP ks (P.take (i + 1)) = crP ks (P.take i) ++ [(nm, bs.take sy, sy)]) := by rw [hst, crO_lit _ _ _ _ _ hz0]; rfl
        clear hst hz0
        generalize wr.alloc (.cells #[.string (bstr nm), .string (bstr bs), .int .i64 (sy : Int)] 35) = A at *
        have hsl : ∀ w : World, (Instr.slice 9 (.string (bstr bs)) none (some (.int .i64 (sy : Int))) none).run Try.prog w = .ok (.string (bstr (bs.take sy))) w := fun w => by
          have := run_head (P := Try.prog) 9 bs sy (by omega) w Try.underlying9
          exact this
        have hwr : IntKind.i64.wrap (sy : Int) = (sy : Int) := by rw [IntKind.wrap_i64]; omega
        have hI1 : (0 : Int) ≤ (sy : Int) := by omega
        have hI2 : (sy : Int) ≤ (bs.length : Int) := by omega
        obtain ⟨v', w', hrun, hv', hb', hk'⟩ := run_append_g (w := A.drew.alloc (.cells #[.string (bstr nm), .string (bstr (bs.take sy)), .int .i64 ((sy : Nat) : Int)] 35)) 25 W.heap.size u5 (crP ks (P.take i)) ((hownA.drew).alloc _) _ 1 [(nm, bs.take sy, sy)] (FArg.one A.drew (nm, bs.take sy, sy)) (by rw [htk]; simp only [List.length_cons, List.length_nil]; omega) (by have := hbA.size; simp; omega)
        rw [← HS.out] at hv'
        have hrun2 := hrun
        have hbV : Below A.heap.size A (A.drew.alloc (.cells #[.string (bstr nm), .string (bstr (bs.take sy)), .int .i64 (sy : Int)] 35)) := ((Below.refl _ _).drew).alloc (Nat.le_refl _) _
        have hbW : Below W.heap.size W w' := (b_step hbA hbV (Nat.le_refl _)).trans hb'
        have kv : ∀ o, (A.drew.alloc (.cells #[.string (bstr nm), .string (bstr (bs.take sy)), .int .i64 (sy : Int)] 35)).cell? ⟨wr.heap.size, o, none⟩ = A.cell? ⟨wr.heap.size, o, none⟩ := fun o => World.cell?_of_block (a := ⟨wr.heap.size, o, none⟩) (hbV.block _ hgA)
        have kw : ∀ o, w'.cell? ⟨wr.heap.size, o, none⟩ = A.cell? ⟨wr.heap.size, o, none⟩ := fun o => (World.cell?_of_block (a := ⟨wr.heap.size, o, none⟩) (hk' _ (Nat.lt_of_lt_of_le hgA hbV.size) (fun he => hnb _ he rfl))).trans (kv o)
        have m0 := (kv 0).trans f0
        have m1 := (kv 1).trans f1
        have m2 := (kv 2).trans f2
        have n0 := (kw 0).trans f0
        have n1 := (kw 1).trans f1
        have n2 := (kw 2).trans f2
        clear kv kw hk' hb' hbV hownA
        have HV : Hid _ := hv'
        clear hv'
        go_region_held3 (fun w' => w'.cell? ⟨wr.heap.size, 0, none⟩ = some (.string (bstr nm)) ∧ w'.cell? ⟨wr.heap.size, 1, none⟩ = some (.string (bstr bs)) ∧ w'.cell? ⟨wr.heap.size, 2, none⟩ = some (.int .i64 (sy : Int))) (first | with_reducible exact ⟨f0, f1, f2⟩ | with_reducible exact ⟨m0, m1, m2⟩ | with_reducible exact ⟨n0, n1, n2⟩ | go_keep)
          ((refine step_app_f (by rfl) _ _ (by rfl) _ _ (by rfl) (by rfl) _ _ hrun ?_))
        go_wp2
        go_roundw
        case rel => exact ⟨i + 1, by simp, hl, HV.out, hbW⟩
        case measure => simp [intOf]; omega
    · have hie : i = P.length := by omega
      have hc : ¬ ((i : Int) < (P.length : Int)) := by omega
      rw [hie, List.take_length] at hown
      obtain ⟨q', cap', rfl, hF, _⟩ := FArg.of_own hown
      have g0' := g0
      have g1' := g1
      obtain ⟨r0, r1, HR⟩ := hTr.fin hF 0
      clear hie hown hF g0' g1'
      go_wp2
      refine bodyPost_ret (v := rdV R q' (crP ks P).length cap') ?_ ?_ ?_
      · simp [results, Try.results31, go_sem, r0, r1]
      · rfl
      · obtain ⟨⟨q2, cap2, e2, hF2⟩, hb2⟩ := HR.out
        injection e2 with e2
        injection e2 with e2
        have e3 := congrArg (fun a : Array Value => a[0]?) e2
        simp at e3
        obtain ⟨rfl, rfl⟩ := e3
        exact ⟨q', cap', rfl, hF2, hb2⟩

end Go.Proofs.Ytbnenpfphbdmpaa
