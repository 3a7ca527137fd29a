/-
  The contract of cells.Decode.
  How a block's bytes are read, cell by cell: what was read so far is the only beginning that a block of these bytes can have.
  The contract of block.Read.
-/
import Derived.Test.YtmpnofbhbglfpaaGreatDoorGELay
import Derived.Test.YtmpnofbhbglfpaaGreatDoorGETke
import Derived.Test.YtmpnofbhbglfpaaGreatDoorGEBld
namespace Go.Proofs.YtmpnofbhbglfpaaGreatDoor
open Go.RowKit Go.BigFrame Go.Sort
attribute [local go_sem] size_bstr toList_bstr ls_def

/-- A row stays where one block below its own changes. -/
theorem own_grown {w w' : World} {B e size n g : Nat} {v : Value} {xs : List Value} (h : w.ownsRow B e size v n xs) (hg : w.grownBy w' (some g)) (hB : g < B) : w'.ownsRow B e size v n xs := by
  rcases h.2 with h0 | ⟨g', cap, cur, hv, hbg, hg', r⟩
  · exact ⟨h.1, .inl h0⟩
  · exact ⟨h.1, .inr ⟨g', cap, cur, hv, hbg, (hg.block g' (lt_of_block hg') (fun e => by cases e; omega)).trans hg', r⟩⟩
theorem lay_pos (c : Cl) : 1 ≤ (layL c).length := by
  have := Lib.uvarint_pos c.row.length
  simp [layL, txt]
  omega

end Go.Proofs.YtmpnofbhbglfpaaGreatDoor

namespace Go.Proofs.YtmpnofbhbglfpaaGreatDoor
open Go.RowKit

theorem tk_row (a l : List UInt8) : tkOk a l = true → rawB 32768 32768 32768 a l = true ∧ cmn a (tkC a l).row = nV l ∧ okC (tkC a l) = true := by
  intro h
  unfold tkOk at h
  rw [Bool.and_eq_true, Bool.and_eq_true, decide_eq_true_eq] at h
  exact ⟨h.1.1, h.1.2, h.2⟩
/-- What was read, and what is left. -/
structure Rs (b : List UInt8) (L : List Cl) (l : List UInt8) : Prop where
  eq : b = body L ++ l
  ok : L.all okC = true
  asc : Asc L
  goes : Goes b L l
theorem Rs.start (b : List UInt8) : Rs b [] b := ⟨rfl, rfl, List.Pairwise.nil, Goes.start b⟩
theorem Rs.next {b : List UInt8} {L : List Cl} {l : List UInt8} (h : Rs b L l) (hl : l ≠ []) {cs : List Cl} (g : Good cs) (e : body cs = b) :
    tkOk (ahd L) l = true ∧ ∃ ds, cs = L ++ tkC (ahd L) l :: ds := by
  obtain ⟨c, ds, h1, h2, h3, h4, h5, h6⟩ := h.goes.next (m := 32768) (k := 32768) (z := 32768) hl (by omega) (by omega) (by omega) g e
  refine ⟨?_, ds, by rw [h1, ← h4]⟩
  unfold tkOk
  rw [h3, show tkC (ahd L) l = c from h4, h2, h5]
  simp
theorem Rs.no_take {b : List UInt8} {L : List Cl} {l : List UInt8} (h : Rs b L l) (hl : l ≠ []) (hk : tkOk (ahd L) l = false) : ∀ cs, Good cs → body cs ≠ b := by
  intro cs g e
  have := (h.next hl g e).1
  rw [hk] at this
  cases this
theorem Rs.no_ord {b : List UInt8} {L : List Cl} {l : List UInt8} (h : Rs b L l) (hl : l ≠ []) (h0 : 0 < L.length) (hc : ¬ ccl (L[L.length - 1]'(by omega)) (tkC (ahd L) l) < 0) : ∀ cs, Good cs → body cs ≠ b := by
  intro cs g e
  obtain ⟨_, ds, h1⟩ := h.next hl g e
  have ha := g.asc
  rw [h1] at ha
  exact hc ((List.pairwise_append.1 ha).2.2 _ (List.getElem_mem (by omega)) _ (by simp))
theorem Rs.step {b : List UInt8} {L : List Cl} {l : List UInt8} (h : Rs b L l) (hl : l ≠ []) (hk : tkOk (ahd L) l = true) (ho : ∀ (h0 : 0 < L.length), ccl (L[L.length - 1]'(by omega)) (tkC (ahd L) l) < 0) :
    Rs b (L ++ [tkC (ahd L) l]) (q6 32768 32768 32768 l) := by
  obtain ⟨k1, k2, k3⟩ := tk_row _ _ hk
  have hb := cell_back k1 k2
  refine ⟨?_, ?_, ?_, h.goes.step hl (by omega) (by omega) (by omega)⟩
  · rw [body_snoc, List.append_assoc, ← hb]
    exact h.eq
  · rw [List.all_append, h.ok]
    simp [k3]
  · refine h.asc.snoc fun x hx => ?_
    have hne : L ≠ [] := by rintro rfl; simp at hx
    have h0 : 0 < L.length := List.length_pos_iff.2 hne
    rw [List.getLast?_eq_some_getLast hne, Option.mem_def, Option.some.injEq, List.getLast_eq_getElem] at hx
    rw [← hx]
    exact ho h0
theorem Rs.less {b : List UInt8} {L : List Cl} {l : List UInt8} (_h : Rs b L l) (hk : tkOk (ahd L) l = true) : (q6 32768 32768 32768 l).length + 1 ≤ l.length := q6_len (tk_row _ _ hk).1
theorem Rs.many {b : List UInt8} {L : List Cl} {l : List UInt8} (h : Rs b L l) : 6 * L.length + l.length ≤ b.length := by
  have := body_many L h.ok
  rw [h.eq, List.length_append]
  omega
theorem Rs.place {b : List UInt8} {L : List Cl} {l : List UInt8} (h : Rs b L l) : (b.length : Int) - (l.length : Int) = ((body L).length : Int) := by
  rw [h.eq, List.length_append]
  omega
theorem Rs.row {b : List UInt8} {L : List Cl} {l : List UInt8} (h : Rs b L l) : (ahd L).length ≤ 32 := by
  unfold ahd
  split
  · simp
  · rename_i h8
    have h0 : 0 < L.length := by omega
    have := lastR_get [] L (L.length - 1) (by omega)
    rw [show L.length - 1 + 1 = L.length by omega, List.take_length] at this
    rw [this]
    exact (okC_len (all_get h.ok (i := L.length - 1) (by omega))).1
theorem ahd_last {L : List Cl} (h8 : ¬ L.length % 8 = 0) : ahd L = (L[L.length - 1]'(by omega)).row := by
  have := lastR_get [] L (L.length - 1) (by omega)
  rw [show L.length - 1 + 1 = L.length by omega, List.take_length] at this
  rw [ahd_not h8, this]
/-- The bytes of a block, parted where its cells end. -/
theorem Good.body_of {cs : List Cl} {s : List UInt8} {m : Nat} (g : Good cs) (e : blkB cs = s) (hm : m + tl2 s = s.length) : body cs = s.take m ∧ s.drop m = tailB (whl cs) := by
  obtain ⟨p1, p2, p3, p4, p5⟩ := g.parts
  rw [e] at p2 p3
  have : s.length - tl2 s = m := by omega
  rw [this] at p2 p3
  exact ⟨p2.symm, p3⟩
theorem Rs.no_tail {s : List UInt8} {m : Nat} {L : List Cl} (h : Rs (s.take m) L []) (hm : m + tl2 s = s.length) (ht : s.drop m ≠ tailB (whl L)) : ∀ cs, Good cs → blkB cs ≠ s := by
  intro cs g e
  obtain ⟨e1, e2⟩ := g.body_of e hm
  have := h.goes.end_ g e1
  rw [this] at e2
  exact ht e2
theorem Rs.yes {s : List UInt8} {m : Nat} {L : List Cl} (h : Rs (s.take m) L []) (hs : s.length ≤ 32768) (ht : s.drop m = tailB (whl L)) : Good L ∧ blkB L = s := by
  have e : blkB L = s := by
    unfold blkB
    have := h.eq
    rw [List.append_nil] at this
    rw [← this, ← ht, List.take_append_drop]
  exact ⟨⟨h.ok, h.asc, by rw [e]; exact hs⟩, e⟩
theorem no_blk {s : List UInt8} {m : Nat} (hm : m + tl2 s = s.length) (h : ∀ cs, Good cs → body cs ≠ s.take m) : ∀ cs, Good cs → blkB cs ≠ s := fun cs g e => h cs g (g.body_of e hm).1
/-- A row keeps what it has, if another row, of another kind, is written. -/
theorem own_apart {w w' : World} {B B2 e e2 size size2 n n2 : Nat} {v v2 : Value} {xs ys : List Value} (h : w.ownsRow B e size v n xs) (h2 : w.ownsRow B2 e2 size2 v2 n2 ys) (hne : e ≠ e2) (hg : w.grownBy w' v2.ownBlock) : w'.ownsRow B e size v n xs := by
  rcases h.2 with h0 | ⟨g, cap, cur, hv, hbg, hgc, hnc, hcm, hcs, htake⟩
  · exact ⟨h.1, .inl h0⟩
  · have hnot : v2.ownBlock ≠ some g := by
      intro hs
      rcases h2.2 with ⟨hv2, _⟩ | ⟨g2, cap2, cur2, hv2, _, hgc2, _⟩
      · rw [hv2] at hs
        exact absurd hs (by simp [Value.ownBlock])
      · rw [hv2] at hs
        have : g2 = g := by simpa [Value.ownBlock] using hs
        rw [this, hgc] at hgc2
        have := Option.some.inj hgc2
        injection this with _ h5 _
        exact hne h5
    exact h.kept hg (.inr (by rw [hv]; exact fun heq => hnot heq.symm))
theorem Rd.other {w w' : World} {g B e size n : Nat} {s : ByteArray} {v : Value} {xs : List Value} (h : Rd w g s) (h2 : w.ownsRow B e size v n xs) (hB : g < B) (hg : w.grownBy w' v.ownBlock) : Rd w' g s :=
  (hg.block g h.lt (fun hs => by have := (h2.lt g hs.symm).1; omega)).trans h

end Go.Proofs.YtmpnofbhbglfpaaGreatDoor

namespace Go.Proofs.YtmpnofbhbglfpaaGreatDoor
open Go.RowKit Go.BigFrame Go.Sort
attribute [local go_sem] size_bstr toList_bstr ls_def

/-- What Read answers: the cells, in new memory; or that the bytes are no block's. -/
def RdQ (w : World) (s : List UInt8) (e : Ending) (w' : World) : Prop :=
  (∃ L q c, e = .returned (.tuple #[.slice q L.length c, .int .i64 0]) ∧ Good L ∧ blkB L = s ∧ w'.ownsRow w.heap.size 39 5 (.slice q L.length c) L.length (ccells L)) ∨
    (e = .returned (.tuple #[.slice none 0 0, .int .i64 4]) ∧ ∀ L, Good L → blkB L ≠ s)

theorem own_base {w : World} {B B' e size n : Nat} {v : Value} {xs : List Value} (h : w.ownsRow B e size v n xs) (hB : B' ≤ B) : w.ownsRow B' e size v n xs := by
  rcases h.2 with h0 | ⟨g, cap, cur, hv, hbg, r⟩
  · exact ⟨h.1, .inl h0⟩
  · exact ⟨h.1, .inr ⟨g, cap, cur, hv, Nat.le_trans hB hbg, r⟩⟩
/-- How many bytes a reader has left. -/
def rdLeft (W : World) (g : Nat) : Nat := match W.cell? ⟨g, 0, none⟩ with
  | some (.string s) => s.size
  | _ => 0
theorem rdLeft_of {W : World} {g : Nat} {l : List UInt8} (h : Rd W g (bstr l)) : rdLeft W g = l.length := by
  unfold rdLeft
  rw [h.cell0]
  exact size_bstr l

set_option maxHeartbeats 8000000 in
set_option maxRecDepth 100000 in
theorem Read_any (s : List UInt8) (w : World) (hs : s.length ≤ 9223372036854775807) :
    Calls Tryz.prog 73 #[.string (bstr s)] w fun e w' => RdQ w s e w' ∧ RowKit.Below w.heap.size w w' := by
  go_enter Tryz.func73, Tryz.ntmps73
  go_wp2_with fail
  refine (bodyEnd_any s w hs).mono ?_
  rintro e w1 ⟨⟨b, n, rfl, hE1, hE2⟩, hb1⟩
  cases b with
  | false =>
    have HN : Hid (∀ L, Good L → blkB L ≠ s) := by
      intro L hL he
      obtain ⟨p1, p2, p3, p4, p5⟩ := hL.parts
      have := hL.len
      rw [he] at this p4 p5
      have := hE1.2 ⟨p5, this, p4⟩
      cases this
    clear hE1 hE2
    go_wp2
    go_ret2
    exact ⟨.inr ⟨rfl, HN.out⟩, hb1⟩
  | true =>
    obtain ⟨h2, h3, h4⟩ := hE1.1 rfl
    have hn := hE2 rfl
    obtain ⟨m, hm⟩ : ∃ m : Nat, m + tl2 s = s.length := ⟨s.length - tl2 s, by omega⟩
    have hnm : n = (m : Int) := by omega
    subst hnm
    have hml : m ≤ s.length := by omega
    have hsl := fun W => erun_head (P := Tryz.prog) 9 .i64 s m hml W Tryz.underlying9
    clear hn hE1 hE2
    go_wp2_with fail
    refine (New_any (bstr (s.take m)) w1).mono ?_
    rintro e w2 ⟨rfl, hr2, hb2⟩
    obtain ⟨i0, hi0, hz0, hz1, hz2⟩ := info_parts Tryz.infoIntE
    obtain ⟨j0, hj0, hy0, hy1, hy2⟩ := info_parts Tryz.infoCell
    go_wp2
    have hbw2 := below2 hb1 hb2
    have hGw : w.heap.size ≤ w1.heap.size := hb1.size
    have hs2 : w1.heap.size + 1 ≤ w2.heap.size := hr2.lt
    clear hb2 hb1 hsl
    obtain ⟨G, hG⟩ : ∃ G, w1.heap.size = G := ⟨_, rfl⟩
    rw [hG] at hr2 hGw hs2
    rw [hG]
    clear hG
    go_loopw [7, 8] (fun s7 s8 W => ∃ (L : List Cl) (l : List UInt8) (q7 : Option Addr) (c7 : Nat) (q8 : Option Addr) (c8 m8 : Nat), s7 = .slice q7 L.length c7 ∧ s8 = .slice q8 m8 c8 ∧ Hid ((whl L).length = m8) ∧ Hid (Rs (s.take m) L l) ∧ Rd W G (bstr l) ∧ W.ownsRow (G + 1) 39 5 (.slice q7 L.length c7) L.length (ccells L) ∧ Hid (W.ownsRow (G + 1) 3 1 (.slice q8 m8 c8) m8 (nCells (whl L))) ∧ RowKit.Below w.heap.size w W ∧ G + 1 ≤ W.heap.size) (fun _ _ W => rdLeft W G)
    case atStart => exact ⟨[], s.take m, none, 0, none, 0, 0, rfl, rfl, rfl, Rs.start _, hr2, World.ownsRow_nil _ _ _ _, World.ownsRow_nil _ _ _ _, hbw2, hs2⟩
    case round =>
      obtain ⟨L, l, q7, c7, q8, c8, m8, rfl, rfl, HW8, HS, hr, hOL, hOW, hbel, hsz⟩ := hrel
      clear hr2 hbw2 hs2
      have HRL : Hid (rdLeft wr G = l.length) := rdLeft_of hr
      have hmn := HS.out.many
      rw [List.length_take, Nat.min_eq_left hml] at hmn
      have hm8 : m8 ≤ 10000 := by rw [← HW8.out, whl_len]; omega
      go_wp2_with fail
      refine (Left_any G l wr hr).mono ?_
      rintro e wr ⟨rfl, rfl⟩
      by_cases hl : l.length = 0
      · have hle : l = [] := List.eq_nil_of_length_eq_zero hl
        subst hle
        have hl0 : ((0 : Nat) : Int) = 0 := rfl
        clear HRL hl
        obtain ⟨g8, hg8⟩ := own_nrow hOW.out
        have hwl := whl_le L
        have hbb : (body L).length ≤ m := by
          have := congrArg List.length HS.out.eq
          rw [List.append_nil, List.length_take, Nat.min_eq_left hml] at this
          omega
        have htl := fun W (hb : RowKit.Below wr.heap.size wr W) => tail_any q8 g8 0 c8 (whl L) W (fun h => ⟨(hg8 h).1, (hg8 h).2.1.step hb (hg8 h).2.2, Nat.lt_of_lt_of_le (hg8 h).2.2 hb.size⟩) (by rw [HW8.out]; omega) (fun p hp => by have := hwl p hp; omega)
        rw [HW8.out] at htl
        have hsl := fun W => erun_from (P := Tryz.prog) 9 s m hml W Tryz.underlying9
        by_cases he : s.drop m = tailB (whl L)
        · obtain ⟨hgood, hblk⟩ := HS.out.yes h3 he
          have HG : Hid _ := And.intro hgood hblk
          clear hg8 hwl hbb hgood hblk
          rw [← he] at htl
          clear he
          generalize s.drop m = t at *
          go_wp2_with fail
          have htq : ∀ d os, Calls Tryz.prog 97 #[.slice q8 m8 c8] (grow (redrawn wr d) os) _ := fun d os => htl _ (below_regrown wr d os)
          refine wp_region_quiet_below (by kernel_rfl) (by kernel_rfl) ?_
          repeat (go_big_quiet_step (first | (go_at_call 97; exact Calls.regrown_of (htq _ _))))
          refine wpQuiet_nil ?_
          intro _ hw'
          obtain ⟨⟨dq, osq⟩, hw''⟩ := hw'
          subst hw''
          have hb5 := below_regrown wr dq osq
          have hbe5 := below2 hbel hb5
          have hO5 := own_step hOL hb5
          clear hb5 hbel hOL htq htl hsl hr hOW
          generalize grow (redrawn wr dq) osq = W5 at *
          go_wp2
          go_ret2
          exact ⟨.inl ⟨L, q7, c7, rfl, HG.out.1, HG.out.2, own_base hO5 (by omega)⟩, hbe5⟩
        · have HNO : Hid (∀ cs, Good cs → blkB cs ≠ s) := HS.out.no_tail hm he
          have hne : (s.drop m == tailB (whl L)) = false := by
            rw [beq_eq_false_iff_ne]
            exact he
          clear hg8 hwl hbb he
          generalize s.drop m = t at *
          generalize tailB (whl L) = t2 at *
          go_wp2_with fail
          have htq : ∀ d os, Calls Tryz.prog 97 #[.slice q8 m8 c8] (grow (redrawn wr d) os) _ := fun d os => htl _ (below_regrown wr d os)
          refine wp_region_quiet_below (by kernel_rfl) (by kernel_rfl) ?_
          repeat (go_big_quiet_step (first | (go_at_call 97; exact Calls.regrown_of (htq _ _))))
          refine wpQuiet_nil ?_
          intro _ hw'
          obtain ⟨⟨dq, osq⟩, hw''⟩ := hw'
          subst hw''
          have hb5 := below_regrown wr dq osq
          have hbe5 := below2 hbel hb5
          have hO5 := own_step hOL hb5
          clear hb5 hbel hOL htq htl hsl hr hOW
          generalize grow (redrawn wr dq) osq = W5 at *
          go_wp2
          go_ret2
          exact ⟨.inr ⟨rfl, HNO.out⟩, hbe5⟩
      · have hl0 : l ≠ [] := by intro h; rw [h] at hl; exact hl rfl
        have hlp : (0 : Int) < (l.length : Int) := by omega
        by_cases h8 : L.length % 8 = 0
        · have hah : ahd L = [] := ahd_whole h8
          have hmod : ((L.length : Int) % 8 == 0) = true := by rw [beq_iff_eq]; omega
          have hpl := HS.out.place
          rw [List.length_take, Nat.min_eq_left hml] at hpl
          go_wp2_with fail
          refine (Left_any G l wr hr).mono ?_
          rintro e wr ⟨rfl, rfl⟩
          go_wp2_with (at_builtin; refine wpList_append_own _ rfl _ _ 134 rfl (G + 1) 3 i0 (.int .i64 0) 1 8 Tryz.underlying134 hi0 hz0 hz1 hz2 rfl (by decide) _ _ _ rfl (hOW.out.alloc _) ⟨wr.heap.size, 0, none⟩ 1 1 [Value.int .i64 ((body L).length : Int)] rfl rfl (news_one' _ _ _) (one_i64 _) (by unfold maxLen; omega) (by omega) (by simp; omega) ?_)
          intro v8 W2 hW2 hgrow _
          have hal : RowKit.Below wr.heap.size wr (wr.alloc (.cells #[.int .i64 ((body L).length : Int)] 3)) := (RowKit.Below.refl _ _).alloc (Nat.le_refl _) _
          have hr2 := (hr.below hal hr.lt).other (hOW.out.alloc _) (Nat.lt_succ_self _) hgrow
          have hO2 := own_apart (own_step hOL hal) (hOW.out.alloc _) (by decide) hgrow
          have hbe2 : RowKit.Below w.heap.size w W2 := (below2 hbel hal).grown hgrow (by have := hbel.size; simp; omega) (fun k hk => Nat.le_trans (by omega) (hOW.out.lt k hk).1)
          have hsz2 : G + 1 ≤ W2.heap.size := Nat.le_trans hsz (Nat.le_trans hal.size hgrow.size)
          rw [← nCells_snoc] at hW2
          obtain ⟨q8', c8', rfl⟩ := own_shape hW2
          clear hal hgrow hr hOL hOW hbel hsz hpl
          go_wp2_with fail
          refine (btake_any G [] l W2 hr2 (by omega) (by simp)).mono ?_
          rintro e w3 ⟨hy, hno, hg3⟩
          have hO3 := own_grown hO2 hg3 (Nat.lt_succ_self _)
          have hW3 := own_grown hW2 hg3 (Nat.lt_succ_self _)
          have hbe3 : RowKit.Below w.heap.size w w3 := hbe2.grown hg3 hbe2.size (fun k hk => by cases hk; exact hGw)
          have hsz3 : G + 1 ≤ w3.heap.size := Nat.le_trans hsz2 hg3.size
          clear hr2 hO2 hW2 hbe2 hsz2
          cases hk : tkOk [] l with
          | false =>
            have HNO : Hid (∀ cs, Good cs → body cs ≠ s.take m) := HS.out.no_take hl0 (by rw [hah]; exact hk)
            obtain rfl := hno hk
            clear hno hy hk hg3 hO3 hW3
            have hB3 : RowKit.Below w3.heap.size w3 (w3.alloc (.cells #[.string (bstr []), .string (bstr []), .int .u64 0, .bool false, .string (bstr [])] 39)) := (RowKit.Below.refl _ _).alloc (Nat.le_refl _) _
            go_wp2_with fail
            generalize w3.alloc (.cells #[.string (bstr []), .string (bstr []), .int .u64 0, .bool false, .string (bstr [])] 39) = W4 at *
            have hbe4 := below2 hbe3 hB3
            refine wp_region_quiet_below (by kernel_rfl) (by kernel_rfl) ?_
            repeat (go_big_quiet_step (first | fail))
            refine wpQuiet_nil ?_
            intro _ hw'
            obtain ⟨⟨dq, osq⟩, hw''⟩ := hw'
            subst hw''
            have hb5 := below_regrown W4 dq osq
            have hbe5 := below2 hbe4 hb5
            clear hb5 hB3 hbe3 hbe4
            generalize grow (redrawn W4 dq) osq = W5 at *
            go_wp2
            go_ret2
            exact ⟨.inr ⟨rfl, no_blk hm HNO.out⟩, hbe5⟩
          | true =>
            obtain ⟨rfl, hr3⟩ := hy hk
            have hless := HS.out.less (by rw [hah]; exact hk)
            have HSTEP := HS.out.step hl0 (by rw [hah]; exact hk)
            have HNORD := HS.out.no_ord hl0
            rw [hah] at HSTEP HNORD
            clear hy hno hk hg3
            generalize q6 32768 32768 32768 l = l2 at *
            generalize tkC [] l = c at *
            have HSTEP' : Hid _ := HSTEP
            have HNORD' : Hid _ := HNORD
            have HWL : Hid ((whl (L ++ [c])).length = m8 + 1) := by show _ = _; rw [whl_snoc, if_pos h8]; rw [List.length_append, HW8.out]; rfl
            have HWT : Hid (whl (L ++ [c]) = whl L ++ [(body L).length]) := by show _ = _; rw [whl_snoc, if_pos h8]
            clear HSTEP HNORD
            by_cases h0 : 0 < L.length
            · have hd0 : decide ((0 : Int) < (L.length : Int)) = true := by rw [decide_eq_true_eq]; omega
              have i1 : (L.length : Int) - 1 = ((L.length - 1 : Nat) : Int) := by omega
              obtain ⟨g7, cap7, hv7, _, hg7, hc7, hc7m, hCR, _⟩ := own_crow hO3 (by intro h; rw [h] at h0; simp at h0)
              cases hv7
              have hAp := hCR (L.length - 1) (by omega)
              rw [Nat.zero_add] at hAp
              have hcm := Cmp_any (L[L.length - 1]'(by omega)).row (L[L.length - 1]'(by omega)).col (L[L.length - 1]'(by omega)).ver (L[L.length - 1]'(by omega)).gone (L[L.length - 1]'(by omega)).val c.row c.col c.ver c.gone c.val
              by_cases hd : ccl (L[L.length - 1]'(by omega)) c < 0
              · have HS2 : Hid (Rs (s.take m) (L ++ [c]) l2) := HSTEP'.out fun _ => hd
                change cc (L[L.length - 1]'(by omega)).row (L[L.length - 1]'(by omega)).col (L[L.length - 1]'(by omega)).ver c.row c.col c.ver < 0 at hd
                generalize cc (L[L.length - 1]'(by omega)).row (L[L.length - 1]'(by omega)).col (L[L.length - 1]'(by omega)).ver c.row c.col c.ver = d at *
                clear HSTEP' HNORD' hCR
                generalize (L[L.length - 1]'(by omega)) = p at *
                obtain ⟨r, k, v, z, x⟩ := c
                obtain ⟨r', k', v', z', x'⟩ := p
                obtain ⟨p0, p1, p2, p3, p4⟩ := hAp
                simp only at hcm p0 p1 p2 p3 p4
                have hB3 : RowKit.Below w3.heap.size w3 (w3.alloc (.cells #[.string (bstr r), .string (bstr k), .int .u64 v, .bool z, .string (bstr x)] 39)) := (RowKit.Below.refl _ _).alloc (Nat.le_refl _) _
                have hN4 := CellAt.new w3 39 r k v z x
                have hP4 : At5 (w3.alloc (.cells #[.string (bstr r), .string (bstr k), .int .u64 v, .bool z, .string (bstr x)] 39)) g7 ((L.length - 1) * 5) ⟨r', k', v', z', x'⟩ := (At5.mk p0 p1 p2 p3 p4).step hB3 hg7
                go_wp2_with fail
                generalize w3.alloc (.cells #[.string (bstr r), .string (bstr k), .int .u64 v, .bool z, .string (bstr x)] 39) = W4 at *
                have hO4 := own_step hO3 hB3
                have hW4 := own_step hW3 hB3
                have hr4 := hr3.below hB3 hr3.lt
                have hbe4 := below2 hbe3 hB3
                have hsz4 : G + 1 ≤ W4.heap.size := Nat.le_trans hsz3 hB3.size
                clear p0 p1 p2 p3 p4 hB3 hO3 hW3 hr3 hbe3 hsz3
                obtain ⟨p0, p1, p2, p3, p4⟩ := hP4
                simp only at p0 p1 p2 p3 p4
                have n0 := fun d os => cell_regrown hN4.c0 d os
                have n1 := fun d os => cell_regrown hN4.c1 d os
                have n2 := fun d os => cell_regrown hN4.c2 d os
                have n3 := fun d os => cell_regrown hN4.c3 d os
                have n4 := fun d os => cell_regrown hN4.c4 d os
                have m0 := fun d os => cell_regrown p0 d os
                have m1 := fun d os => cell_regrown p1 d os
                have m2 := fun d os => cell_regrown p2 d os
                have m3 := fun d os => cell_regrown p3 d os
                have m4 := fun d os => cell_regrown p4 d os
                refine wp_region_quiet_below (by kernel_rfl) (by kernel_rfl) ?_
                repeat (go_big_quiet_step (first
                  | (go_at_call 48; with_reducible exact Calls.regrown_of (hcm _))))
                refine wpQuiet_nil ?_
                intro _ hw'
                obtain ⟨⟨dq, osq⟩, hw''⟩ := hw'
                subst hw''
                have hb5 := below_regrown W4 dq osq
                have hO5 := own_step hO4 hb5
                have hW5 := own_step hW4 hb5
                have hr5 := hr4.below hb5 hr4.lt
                have hbe5 := below2 hbe4 hb5
                have hsz5 := Nat.le_trans hsz4 hb5.size
                have hN5 := hN4.step hb5
                clear n0 n1 n2 n3 n4 m0 m1 m2 m3 m4 p0 p1 p2 p3 p4 hcm hb5 hO4 hW4 hr4 hbe4 hsz4 hN4
                generalize grow (redrawn W4 dq) osq = W5 at *
                obtain ⟨d0, d1, d2, d3, d4⟩ := id hN5
                have hnews := cell_news W5 ⟨r, k, v, z, x⟩ 39
                go_wp2_with (at_builtin; refine wpList_append_own _ rfl _ _ 22 rfl (G + 1) 39 j0 (.agg #[.string ⟨#[]⟩, .string ⟨#[]⟩, .int .u64 0, .bool false, .string ⟨#[]⟩]) 5 64 Tryz.underlying22 hj0 hy0 hy1 hy2 rfl (by decide) _ _ _ rfl (hO5.alloc _) ⟨W5.heap.size, 0, none⟩ 1 1 (encC ⟨r, k, v, z, x⟩) rfl rfl hnews (encC_one _) (by unfold maxLen; omega) (by omega) (by simp; omega) ?_)
                intro v' w6 hO6 hgrow _
                have hal : RowKit.Below W5.heap.size W5 (W5.alloc (.cells #[.string (bstr r), .string (bstr k), .int .u64 v, .bool z, .string (bstr x)] 39)) := (RowKit.Below.refl _ _).alloc (Nat.le_refl _) _
                have hr6 := (hr5.below hal hr5.lt).other (hO5.alloc _) (Nat.lt_succ_self _) hgrow
                have hW6 := own_apart (own_step hW5 hal) (hO5.alloc _) (by decide) hgrow
                have hbe6 : RowKit.Below w.heap.size w w6 := (below2 hbe5 hal).grown hgrow (by have := hbe5.size; simp; omega) (fun k hk => Nat.le_trans (by omega) (hO5.lt k hk).1)
                have hsz6 : G + 1 ≤ w6.heap.size := Nat.le_trans hsz5 (Nat.le_trans hal.size hgrow.size)
                have hO7 : w6.ownsRow (G + 1) 39 5 v' (L ++ [Cl.mk r k v z x]).length (ccells (L ++ [Cl.mk r k v z x])) := by
                  rw [List.length_append, ccells_append]
                  exact hO6
                obtain ⟨q9, c9, rfl⟩ := own_shape hO7
                clear hO6 hgrow hO5 hW5 hr5 hbe5 hsz5 hN5 d0 d1 d2 d3 d4 hnews hal
                go_wp2
                go_roundw
                case rel => exact ⟨L ++ [⟨r, k, v, z, x⟩], l2, q9, c9, _, _, m8 + 1, rfl, rfl, HWL, HS2, hr6, hO7, by show World.ownsRow _ _ _ _ _ _ _; rw [HWT.out]; exact hW6, hbe6, hsz6⟩
                case measure => rw [rdLeft_of hr6, HRL.out]; omega
              · have HNO : Hid (∀ cs, Good cs → body cs ≠ s.take m) := HNORD'.out h0 hd
                have hd' : 0 ≤ cc (L[L.length - 1]'(by omega)).row (L[L.length - 1]'(by omega)).col (L[L.length - 1]'(by omega)).ver c.row c.col c.ver := Int.not_lt.1 hd
                generalize cc (L[L.length - 1]'(by omega)).row (L[L.length - 1]'(by omega)).col (L[L.length - 1]'(by omega)).ver c.row c.col c.ver = d at *
                clear HSTEP' HNORD' hCR hd
                generalize (L[L.length - 1]'(by omega)) = p at *
                obtain ⟨r, k, v, z, x⟩ := c
                obtain ⟨r', k', v', z', x'⟩ := p
                obtain ⟨p0, p1, p2, p3, p4⟩ := hAp
                simp only at hcm p0 p1 p2 p3 p4
                have hB3 : RowKit.Below w3.heap.size w3 (w3.alloc (.cells #[.string (bstr r), .string (bstr k), .int .u64 v, .bool z, .string (bstr x)] 39)) := (RowKit.Below.refl _ _).alloc (Nat.le_refl _) _
                have hN4 := CellAt.new w3 39 r k v z x
                have hP4 : At5 (w3.alloc (.cells #[.string (bstr r), .string (bstr k), .int .u64 v, .bool z, .string (bstr x)] 39)) g7 ((L.length - 1) * 5) ⟨r', k', v', z', x'⟩ := (At5.mk p0 p1 p2 p3 p4).step hB3 hg7
                go_wp2_with fail
                generalize w3.alloc (.cells #[.string (bstr r), .string (bstr k), .int .u64 v, .bool z, .string (bstr x)] 39) = W4 at *
                have hO4 := own_step hO3 hB3
                have hW4 := own_step hW3 hB3
                have hr4 := hr3.below hB3 hr3.lt
                have hbe4 := below2 hbe3 hB3
                have hsz4 : G + 1 ≤ W4.heap.size := Nat.le_trans hsz3 hB3.size
                clear p0 p1 p2 p3 p4 hB3 hO3 hW3 hr3 hbe3 hsz3
                obtain ⟨p0, p1, p2, p3, p4⟩ := hP4
                simp only at p0 p1 p2 p3 p4
                have n0 := fun d os => cell_regrown hN4.c0 d os
                have n1 := fun d os => cell_regrown hN4.c1 d os
                have n2 := fun d os => cell_regrown hN4.c2 d os
                have n3 := fun d os => cell_regrown hN4.c3 d os
                have n4 := fun d os => cell_regrown hN4.c4 d os
                have m0 := fun d os => cell_regrown p0 d os
                have m1 := fun d os => cell_regrown p1 d os
                have m2 := fun d os => cell_regrown p2 d os
                have m3 := fun d os => cell_regrown p3 d os
                have m4 := fun d os => cell_regrown p4 d os
                refine wp_region_quiet_below (by kernel_rfl) (by kernel_rfl) ?_
                repeat (go_big_quiet_step (first
                  | (go_at_call 48; with_reducible exact Calls.regrown_of (hcm _))))
                refine wpQuiet_nil ?_
                intro _ hw'
                obtain ⟨⟨dq, osq⟩, hw''⟩ := hw'
                subst hw''
                have hb5 := below_regrown W4 dq osq
                have hbe5 := below2 hbe4 hb5
                clear n0 n1 n2 n3 n4 m0 m1 m2 m3 m4 p0 p1 p2 p3 p4 hcm hb5 hO4 hW4 hr4 hbe4 hsz4 hN4
                generalize grow (redrawn W4 dq) osq = W5 at *
                go_wp2
                go_ret2
                exact ⟨.inr ⟨rfl, no_blk hm HNO.out⟩, hbe5⟩
            · have hd0 : decide ((0 : Int) < (L.length : Int)) = false := by rw [decide_eq_false_iff_not]; omega
              have HS2 : Hid (Rs (s.take m) (L ++ [c]) l2) := HSTEP'.out fun h => absurd h h0
              clear HSTEP' HNORD'
              obtain ⟨r, k, v, z, x⟩ := c
              have hB3 : RowKit.Below w3.heap.size w3 (w3.alloc (.cells #[.string (bstr r), .string (bstr k), .int .u64 v, .bool z, .string (bstr x)] 39)) := (RowKit.Below.refl _ _).alloc (Nat.le_refl _) _
              have hN4 := CellAt.new w3 39 r k v z x
              go_wp2_with fail
              generalize w3.alloc (.cells #[.string (bstr r), .string (bstr k), .int .u64 v, .bool z, .string (bstr x)] 39) = W4 at *
              have hO4 := own_step hO3 hB3
              have hW4 := own_step hW3 hB3
              have hr4 := hr3.below hB3 hr3.lt
              have hbe4 := below2 hbe3 hB3
              have hsz4 : G + 1 ≤ W4.heap.size := Nat.le_trans hsz3 hB3.size
              clear hB3 hO3 hW3 hr3 hbe3 hsz3
              have n0 := fun d os => cell_regrown hN4.c0 d os
              have n1 := fun d os => cell_regrown hN4.c1 d os
              have n2 := fun d os => cell_regrown hN4.c2 d os
              have n3 := fun d os => cell_regrown hN4.c3 d os
              have n4 := fun d os => cell_regrown hN4.c4 d os
              refine wp_region_quiet_below (by kernel_rfl) (by kernel_rfl) ?_
              repeat (go_big_quiet_step (first | fail))
              refine wpQuiet_nil ?_
              intro _ hw'
              obtain ⟨⟨dq, osq⟩, hw''⟩ := hw'
              subst hw''
              have hb5 := below_regrown W4 dq osq
              have hO5 := own_step hO4 hb5
              have hW5 := own_step hW4 hb5
              have hr5 := hr4.below hb5 hr4.lt
              have hbe5 := below2 hbe4 hb5
              have hsz5 := Nat.le_trans hsz4 hb5.size
              have hN5 := hN4.step hb5
              clear n0 n1 n2 n3 n4 hb5 hO4 hW4 hr4 hbe4 hsz4 hN4
              generalize grow (redrawn W4 dq) osq = W5 at *
              obtain ⟨d0, d1, d2, d3, d4⟩ := id hN5
              have hnews := cell_news W5 ⟨r, k, v, z, x⟩ 39
              go_wp2_with (at_builtin; refine wpList_append_own _ rfl _ _ 22 rfl (G + 1) 39 j0 (.agg #[.string ⟨#[]⟩, .string ⟨#[]⟩, .int .u64 0, .bool false, .string ⟨#[]⟩]) 5 64 Tryz.underlying22 hj0 hy0 hy1 hy2 rfl (by decide) _ _ _ rfl (hO5.alloc _) ⟨W5.heap.size, 0, none⟩ 1 1 (encC ⟨r, k, v, z, x⟩) rfl rfl hnews (encC_one _) (by unfold maxLen; omega) (by omega) (by simp; omega) ?_)
              intro v' w6 hO6 hgrow _
              have hal : RowKit.Below W5.heap.size W5 (W5.alloc (.cells #[.string (bstr r), .string (bstr k), .int .u64 v, .bool z, .string (bstr x)] 39)) := (RowKit.Below.refl _ _).alloc (Nat.le_refl _) _
              have hr6 := (hr5.below hal hr5.lt).other (hO5.alloc _) (Nat.lt_succ_self _) hgrow
              have hW6 := own_apart (own_step hW5 hal) (hO5.alloc _) (by decide) hgrow
              have hbe6 : RowKit.Below w.heap.size w w6 := (below2 hbe5 hal).grown hgrow (by have := hbe5.size; simp; omega) (fun k hk => Nat.le_trans (by omega) (hO5.lt k hk).1)
              have hsz6 : G + 1 ≤ w6.heap.size := Nat.le_trans hsz5 (Nat.le_trans hal.size hgrow.size)
              have hO7 : w6.ownsRow (G + 1) 39 5 v' (L ++ [Cl.mk r k v z x]).length (ccells (L ++ [Cl.mk r k v z x])) := by
                rw [List.length_append, ccells_append]
                exact hO6
              obtain ⟨q9, c9, rfl⟩ := own_shape hO7
              clear hO6 hgrow hO5 hW5 hr5 hbe5 hsz5 hN5 d0 d1 d2 d3 d4 hnews hal
              go_wp2
              go_roundw
              case rel => exact ⟨L ++ [⟨r, k, v, z, x⟩], l2, q9, c9, _, _, m8 + 1, rfl, rfl, HWL, HS2, hr6, hO7, by show World.ownsRow _ _ _ _ _ _ _; rw [HWT.out]; exact hW6, hbe6, hsz6⟩
              case measure => rw [rdLeft_of hr6, HRL.out]; omega
        · have hah := ahd_last h8
          have hmod : ((L.length : Int) % 8 == 0) = false := by rw [beq_eq_false_iff_ne]; omega
          have i1 : (L.length : Int) - 1 = ((L.length - 1 : Nat) : Int) := by omega
          obtain ⟨g7, cap7, hv7, _, hg7, hc7, hc7m, hCR, _⟩ := own_crow hOL (by intro h; rw [h] at h8; simp at h8)
          injection hv7 with hv7a _ hv7b
          subst hv7a hv7b
          have p0 := (hCR (L.length - 1) (by omega)).c0
          rw [Nat.zero_add] at p0
          have hal := HS.out.row
          rw [hah] at hal
          clear hCR
          generalize (L[L.length - 1]'(by omega)).row = pr at *
          have hW2 := hOW.out
          clear hOW
          rename RowKit.Below w.heap.size w wr => hbe2
          rename Rd wr G (bstr l) => hr2
          rename World.ownsRow wr _ _ _ _ _ (ccells L) => hO2
          have hsz2 := hsz
          clear hsz
          go_wp2_with fail
          clear p0
          refine (btake_any G pr l wr hr2 (by omega) (by omega)).mono ?_
          rintro e w3 ⟨hy, hno, hg3⟩
          have hO3 := own_grown hO2 hg3 (Nat.lt_succ_self _)
          have hW3 := own_grown hW2 hg3 (Nat.lt_succ_self _)
          have hbe3 : RowKit.Below w.heap.size w w3 := hbe2.grown hg3 hbe2.size (fun k hk => by cases hk; exact hGw)
          have hsz3 : G + 1 ≤ w3.heap.size := Nat.le_trans hsz2 hg3.size
          clear hr2 hO2 hW2 hbe2 hsz2
          cases hk : tkOk pr l with
          | false =>
            have HNO : Hid (∀ cs, Good cs → body cs ≠ s.take m) := HS.out.no_take hl0 (by rw [hah]; exact hk)
            obtain rfl := hno hk
            clear hno hy hk hg3 hO3 hW3
            have hB3 : RowKit.Below w3.heap.size w3 (w3.alloc (.cells #[.string (bstr []), .string (bstr []), .int .u64 0, .bool false, .string (bstr [])] 39)) := (RowKit.Below.refl _ _).alloc (Nat.le_refl _) _
            go_wp2_with fail
            generalize w3.alloc (.cells #[.string (bstr []), .string (bstr []), .int .u64 0, .bool false, .string (bstr [])] 39) = W4 at *
            have hbe4 := below2 hbe3 hB3
            refine wp_region_quiet_below (by kernel_rfl) (by kernel_rfl) ?_
            repeat (go_big_quiet_step (first | fail))
            refine wpQuiet_nil ?_
            intro _ hw'
            obtain ⟨⟨dq, osq⟩, hw''⟩ := hw'
            subst hw''
            have hb5 := below_regrown W4 dq osq
            have hbe5 := below2 hbe4 hb5
            clear hb5 hB3 hbe3 hbe4
            generalize grow (redrawn W4 dq) osq = W5 at *
            go_wp2
            go_ret2
            exact ⟨.inr ⟨rfl, no_blk hm HNO.out⟩, hbe5⟩
          | true =>
            obtain ⟨rfl, hr3⟩ := hy hk
            have hless := HS.out.less (by rw [hah]; exact hk)
            have HSTEP := HS.out.step hl0 (by rw [hah]; exact hk)
            have HNORD := HS.out.no_ord hl0
            rw [hah] at HSTEP HNORD
            clear hy hno hk hg3
            generalize q6 32768 32768 32768 l = l2 at *
            generalize tkC pr l = c at *
            have HSTEP' : Hid _ := HSTEP
            have HNORD' : Hid _ := HNORD
            have HWL : Hid ((whl (L ++ [c])).length = m8) := by show _ = _; rw [whl_snoc, if_neg h8]; exact HW8.out
            have HWT : Hid (whl (L ++ [c]) = whl L) := by show _ = _; rw [whl_snoc, if_neg h8]
            clear HSTEP HNORD
            by_cases h0 : 0 < L.length
            · have hd0 : decide ((0 : Int) < (L.length : Int)) = true := by rw [decide_eq_true_eq]; omega
              have i1 : (L.length : Int) - 1 = ((L.length - 1 : Nat) : Int) := by omega
              obtain ⟨g7, cap7, hv7, _, hg7, hc7, hc7m, hCR, _⟩ := own_crow hO3 (by intro h; rw [h] at h0; simp at h0)
              cases hv7
              have hAp := hCR (L.length - 1) (by omega)
              rw [Nat.zero_add] at hAp
              have hcm := Cmp_any (L[L.length - 1]'(by omega)).row (L[L.length - 1]'(by omega)).col (L[L.length - 1]'(by omega)).ver (L[L.length - 1]'(by omega)).gone (L[L.length - 1]'(by omega)).val c.row c.col c.ver c.gone c.val
              by_cases hd : ccl (L[L.length - 1]'(by omega)) c < 0
              · have HS2 : Hid (Rs (s.take m) (L ++ [c]) l2) := HSTEP'.out fun _ => hd
                change cc (L[L.length - 1]'(by omega)).row (L[L.length - 1]'(by omega)).col (L[L.length - 1]'(by omega)).ver c.row c.col c.ver < 0 at hd
                generalize cc (L[L.length - 1]'(by omega)).row (L[L.length - 1]'(by omega)).col (L[L.length - 1]'(by omega)).ver c.row c.col c.ver = d at *
                clear HSTEP' HNORD' hCR
                generalize (L[L.length - 1]'(by omega)) = p at *
                obtain ⟨r, k, v, z, x⟩ := c
                obtain ⟨r', k', v', z', x'⟩ := p
                obtain ⟨p0, p1, p2, p3, p4⟩ := hAp
                simp only at hcm p0 p1 p2 p3 p4
                have hB3 : RowKit.Below w3.heap.size w3 (w3.alloc (.cells #[.string (bstr r), .string (bstr k), .int .u64 v, .bool z, .string (bstr x)] 39)) := (RowKit.Below.refl _ _).alloc (Nat.le_refl _) _
                have hN4 := CellAt.new w3 39 r k v z x
                have hP4 : At5 (w3.alloc (.cells #[.string (bstr r), .string (bstr k), .int .u64 v, .bool z, .string (bstr x)] 39)) g7 ((L.length - 1) * 5) ⟨r', k', v', z', x'⟩ := (At5.mk p0 p1 p2 p3 p4).step hB3 hg7
                go_wp2_with fail
                generalize w3.alloc (.cells #[.string (bstr r), .string (bstr k), .int .u64 v, .bool z, .string (bstr x)] 39) = W4 at *
                have hO4 := own_step hO3 hB3
                have hW4 := own_step hW3 hB3
                have hr4 := hr3.below hB3 hr3.lt
                have hbe4 := below2 hbe3 hB3
                have hsz4 : G + 1 ≤ W4.heap.size := Nat.le_trans hsz3 hB3.size
                clear p0 p1 p2 p3 p4 hB3 hO3 hW3 hr3 hbe3 hsz3
                obtain ⟨p0, p1, p2, p3, p4⟩ := hP4
                simp only at p0 p1 p2 p3 p4
                have n0 := fun d os => cell_regrown hN4.c0 d os
                have n1 := fun d os => cell_regrown hN4.c1 d os
                have n2 := fun d os => cell_regrown hN4.c2 d os
                have n3 := fun d os => cell_regrown hN4.c3 d os
                have n4 := fun d os => cell_regrown hN4.c4 d os
                have m0 := fun d os => cell_regrown p0 d os
                have m1 := fun d os => cell_regrown p1 d os
                have m2 := fun d os => cell_regrown p2 d os
                have m3 := fun d os => cell_regrown p3 d os
                have m4 := fun d os => cell_regrown p4 d os
                refine wp_region_quiet_below (by kernel_rfl) (by kernel_rfl) ?_
                repeat (go_big_quiet_step (first
                  | (go_at_call 48; with_reducible exact Calls.regrown_of (hcm _))))
                refine wpQuiet_nil ?_
                intro _ hw'
                obtain ⟨⟨dq, osq⟩, hw''⟩ := hw'
                subst hw''
                have hb5 := below_regrown W4 dq osq
                have hO5 := own_step hO4 hb5
                have hW5 := own_step hW4 hb5
                have hr5 := hr4.below hb5 hr4.lt
                have hbe5 := below2 hbe4 hb5
                have hsz5 := Nat.le_trans hsz4 hb5.size
                have hN5 := hN4.step hb5
                clear n0 n1 n2 n3 n4 m0 m1 m2 m3 m4 p0 p1 p2 p3 p4 hcm hb5 hO4 hW4 hr4 hbe4 hsz4 hN4
                generalize grow (redrawn W4 dq) osq = W5 at *
                obtain ⟨d0, d1, d2, d3, d4⟩ := id hN5
                have hnews := cell_news W5 ⟨r, k, v, z, x⟩ 39
                go_wp2_with (at_builtin; refine wpList_append_own _ rfl _ _ 22 rfl (G + 1) 39 j0 (.agg #[.string ⟨#[]⟩, .string ⟨#[]⟩, .int .u64 0, .bool false, .string ⟨#[]⟩]) 5 64 Tryz.underlying22 hj0 hy0 hy1 hy2 rfl (by decide) _ _ _ rfl (hO5.alloc _) ⟨W5.heap.size, 0, none⟩ 1 1 (encC ⟨r, k, v, z, x⟩) rfl rfl hnews (encC_one _) (by unfold maxLen; omega) (by omega) (by simp; omega) ?_)
                intro v' w6 hO6 hgrow _
                have hal : RowKit.Below W5.heap.size W5 (W5.alloc (.cells #[.string (bstr r), .string (bstr k), .int .u64 v, .bool z, .string (bstr x)] 39)) := (RowKit.Below.refl _ _).alloc (Nat.le_refl _) _
                have hr6 := (hr5.below hal hr5.lt).other (hO5.alloc _) (Nat.lt_succ_self _) hgrow
                have hW6 := own_apart (own_step hW5 hal) (hO5.alloc _) (by decide) hgrow
                have hbe6 : RowKit.Below w.heap.size w w6 := (below2 hbe5 hal).grown hgrow (by have := hbe5.size; simp; omega) (fun k hk => Nat.le_trans (by omega) (hO5.lt k hk).1)
                have hsz6 : G + 1 ≤ w6.heap.size := Nat.le_trans hsz5 (Nat.le_trans hal.size hgrow.size)
                have hO7 : w6.ownsRow (G + 1) 39 5 v' (L ++ [Cl.mk r k v z x]).length (ccells (L ++ [Cl.mk r k v z x])) := by
                  rw [List.length_append, ccells_append]
                  exact hO6
                obtain ⟨q9, c9, rfl⟩ := own_shape hO7
                clear hO6 hgrow hO5 hW5 hr5 hbe5 hsz5 hN5 d0 d1 d2 d3 d4 hnews hal
                go_wp2
                go_roundw
                case rel => exact ⟨L ++ [⟨r, k, v, z, x⟩], l2, q9, c9, _, _, m8, rfl, rfl, HWL, HS2, hr6, hO7, by show World.ownsRow _ _ _ _ _ _ _; rw [HWT.out]; exact hW6, hbe6, hsz6⟩
                case measure => rw [rdLeft_of hr6, HRL.out]; omega
              · have HNO : Hid (∀ cs, Good cs → body cs ≠ s.take m) := HNORD'.out h0 hd
                have hd' : 0 ≤ cc (L[L.length - 1]'(by omega)).row (L[L.length - 1]'(by omega)).col (L[L.length - 1]'(by omega)).ver c.row c.col c.ver := Int.not_lt.1 hd
                generalize cc (L[L.length - 1]'(by omega)).row (L[L.length - 1]'(by omega)).col (L[L.length - 1]'(by omega)).ver c.row c.col c.ver = d at *
                clear HSTEP' HNORD' hCR hd
                generalize (L[L.length - 1]'(by omega)) = p at *
                obtain ⟨r, k, v, z, x⟩ := c
                obtain ⟨r', k', v', z', x'⟩ := p
                obtain ⟨p0, p1, p2, p3, p4⟩ := hAp
                simp only at hcm p0 p1 p2 p3 p4
                have hB3 : RowKit.Below w3.heap.size w3 (w3.alloc (.cells #[.string (bstr r), .string (bstr k), .int .u64 v, .bool z, .string (bstr x)] 39)) := (RowKit.Below.refl _ _).alloc (Nat.le_refl _) _
                have hN4 := CellAt.new w3 39 r k v z x
                have hP4 : At5 (w3.alloc (.cells #[.string (bstr r), .string (bstr k), .int .u64 v, .bool z, .string (bstr x)] 39)) g7 ((L.length - 1) * 5) ⟨r', k', v', z', x'⟩ := (At5.mk p0 p1 p2 p3 p4).step hB3 hg7
                go_wp2_with fail
                generalize w3.alloc (.cells #[.string (bstr r), .string (bstr k), .int .u64 v, .bool z, .string (bstr x)] 39) = W4 at *
                have hO4 := own_step hO3 hB3
                have hW4 := own_step hW3 hB3
                have hr4 := hr3.below hB3 hr3.lt
                have hbe4 := below2 hbe3 hB3
                have hsz4 : G + 1 ≤ W4.heap.size := Nat.le_trans hsz3 hB3.size
                clear p0 p1 p2 p3 p4 hB3 hO3 hW3 hr3 hbe3 hsz3
                obtain ⟨p0, p1, p2, p3, p4⟩ := hP4
                simp only at p0 p1 p2 p3 p4
                have n0 := fun d os => cell_regrown hN4.c0 d os
                have n1 := fun d os => cell_regrown hN4.c1 d os
                have n2 := fun d os => cell_regrown hN4.c2 d os
                have n3 := fun d os => cell_regrown hN4.c3 d os
                have n4 := fun d os => cell_regrown hN4.c4 d os
                have m0 := fun d os => cell_regrown p0 d os
                have m1 := fun d os => cell_regrown p1 d os
                have m2 := fun d os => cell_regrown p2 d os
                have m3 := fun d os => cell_regrown p3 d os
                have m4 := fun d os => cell_regrown p4 d os
                refine wp_region_quiet_below (by kernel_rfl) (by kernel_rfl) ?_
                repeat (go_big_quiet_step (first
                  | (go_at_call 48; with_reducible exact Calls.regrown_of (hcm _))))
                refine wpQuiet_nil ?_
                intro _ hw'
                obtain ⟨⟨dq, osq⟩, hw''⟩ := hw'
                subst hw''
                have hb5 := below_regrown W4 dq osq
                have hbe5 := below2 hbe4 hb5
                clear n0 n1 n2 n3 n4 m0 m1 m2 m3 m4 p0 p1 p2 p3 p4 hcm hb5 hO4 hW4 hr4 hbe4 hsz4 hN4
                generalize grow (redrawn W4 dq) osq = W5 at *
                go_wp2
                go_ret2
                exact ⟨.inr ⟨rfl, no_blk hm HNO.out⟩, hbe5⟩
            · exact absurd (show 0 < L.length by omega) h0

end Go.Proofs.YtmpnofbhbglfpaaGreatDoor
