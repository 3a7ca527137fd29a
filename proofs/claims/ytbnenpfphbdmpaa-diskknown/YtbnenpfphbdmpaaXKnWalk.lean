/-
  DiskKnown: the walk.
-/
import Derived.Test.YtbnenpfphbdmpaaXWks
import Derived.Test.YtbnenpfphbdmpaaMade
namespace Go.Proofs.Ytbnenpfphbdmpaa
open Go.RowKit

theorem Stp.far {w w' : World} {d m : Nat} {L L' : List Fl} {x y ge : Nat} (h : Stp w w' d m L L' x y) (h1 : ge < w.heap.size) (h2 : ¬ Ft d m L ge) : w'.heap[ge]? = w.heap[ge]? ∧ ¬ Ft d m L' ge ∧ ge < w'.heap.size :=
  ⟨h.kp.block ge h1 h2, fun hi => by
    rcases h.ft ge hi with a | a
    · exact h2 a
    · omega, Nat.lt_of_lt_of_le h1 h.kp.size⟩
theorem Cr.two {ks : List Int} {f g : Fl} {L' : List Fl} (h : Cr ks 2 [f, g] L') : ∃ v1 v2, L' = [crF (kAt ks 0) f v1, crF (kAt ks 1) g v2] := by
  have hl := h.len
  obtain ⟨x, y, rfl⟩ : ∃ x y, L' = [x, y] := by
    match L', hl with
    | [x, y], _ => exact ⟨x, y, rfl⟩
  obtain ⟨v1, h1⟩ := h.old 0 (by simp) (by simp)
  obtain ⟨v2, h2⟩ := h.old 1 (by simp) (by simp)
  exact ⟨v1, v2, by simpa using ⟨h1, h2⟩⟩
/-- Two files, a and b. -/
structure AB (L : List Fl) (a : List UInt8) (x : Nat) (b : List UInt8) (y : Nat) : Prop where
  has : ∃ f g : Fl, L = [f, g] ∧ f.name = [97] ∧ f.bytes = a ∧ f.syn = x ∧ g.name = [98] ∧ g.bytes = b ∧ g.syn = y
theorem ab_lt : ([97] : List UInt8) < [98] := by decide
theorem AB.lka {L : List Fl} {a b : List UInt8} {x y : Nat} (h : AB L a x b y) : ∃ f, lk [97] L = some f ∧ f.name = [97] ∧ f.bytes = a ∧ f.syn = x := by
  obtain ⟨f, g, rfl, h1, h2, h3, _⟩ := h.has
  exact ⟨f, by simp [lk, h1], h1, h2, h3⟩
theorem AB.lkb {L : List Fl} {a b : List UInt8} {x y : Nat} (h : AB L a x b y) : ∃ f, lk [98] L = some f ∧ f.name = [98] ∧ f.bytes = b ∧ f.syn = y := by
  obtain ⟨f, g, rfl, h1, _, _, h2, h3, h4⟩ := h.has
  exact ⟨g, by simp [lk, h1, h2], h2, h3, h4⟩
theorem AB.tot {L : List Fl} {a b : List UInt8} {x y : Nat} (h : AB L a x b y) : tot L = a.length + b.length := by
  obtain ⟨f, g, rfl, h1, h5, _, h2, h3, h4⟩ := h.has
  simp [Go.Proofs.Ytbnenpfphbdmpaa.tot, h5, h3]
theorem AB.puta {L : List Fl} {a b : List UInt8} {x y : Nat} (h : AB L a x b y) {f' : Fl} (hn : f'.name = [97]) : AB (wth f' L) f'.bytes f'.syn b y := by
  obtain ⟨f, g, rfl, h1, _, _, h2, h3, h4⟩ := h.has
  exact ⟨f', g, by simp [wth, h1, hn], hn, rfl, rfl, h2, h3, h4⟩
theorem AB.crash {L L' : List Fl} {a b : List UInt8} {x y : Nat} (h : AB L a x b y) {ks : List Int} (hC : Cr ks L.length L L') :
    AB L' (a.take (x + kn (kAt ks 0) (a.length - x))) (x + kn (kAt ks 0) (a.length - x)) (b.take (y + kn (kAt ks 1) (b.length - y))) (y + kn (kAt ks 1) (b.length - y)) := by
  obtain ⟨f, g, rfl, h1, h5, h6, h2, h3, h4⟩ := h.has
  obtain ⟨v1, v2, rfl⟩ := Cr.two hC
  subst h5 h6 h3 h4
  exact ⟨_, _, rfl, h1, rfl, rfl, h2, rfl, rfl⟩
theorem AB.nms {L : List Fl} {a b : List UInt8} {x y : Nat} (h : AB L a x b y) : nms L = [[97], [98]] := by
  obtain ⟨f, g, rfl, h1, _, _, h2, _⟩ := h.has
  simp [Go.Proofs.Ytbnenpfphbdmpaa.nms, h1, h2]

set_option maxHeartbeats 8000000 in
set_option maxRecDepth 100000 in
theorem known_any (w : World) :
    Calls Try.prog 7 #[] w fun e w' => e = .returned (.bool true) ∧ Below w.heap.size w w' := by
  go_enter Try.func7, Try.ntmps7
  go_wp2_with fail
  refine (New_any 5 _).mono ?_
  rintro e w1 ⟨d, m, rfl, hD, hb, hft⟩
  have h1 : Dw w.heap.size w w1 d m [] 5 0 := Dw.made (Nat.le_refl _) (Below.refl _ _) hD hb hft
  clear hD hb hft
  go_wp2_with fail
  refine (Append_ok [97] [97, 98, 99] _ h1.dk (by decide) (by decide) (by decide) (by decide) (by decide)).mono ?_
  rintro e w2 ⟨rfl, f1, n1, b1, s1, hS⟩
  replace h1 := h1.step hS
  clear hS
  have e1 : wth f1 [] = [f1] := rfl
  rw [e1] at h1
  simp only [lk, List.find?_nil, by_, syN, List.nil_append] at b1 s1
  have fe : (5 - ([97, 98, 99] : List UInt8).length : Nat) = 2 := by decide
  rw [fe] at h1
  clear fe e1
  go_wp2_with fail
  refine (Append_full [98] [120, 121, 122] _ h1.dk (by decide) (by decide)).mono ?_
  intro e w3 he
  obtain ⟨rfl, hw3⟩ := he
  rw [hw3]
  clear hw3
  have t1 : tot [f1] = 3 := by simp [tot, b1]
  go_wp2_with fail
  refine (Append_ok [98] [120] _ h1.dk (by decide) (by decide) (by rw [t1]; decide) (by decide) (by decide)).mono ?_
  have e2 : lk [98] [f1] = none := by simp [lk, n1]
  rw [e2]
  rintro e w4 ⟨rfl, f2, n2, b2, s2, hS⟩
  replace h1 := h1.step hS
  clear hS
  simp only [by_, syN, List.nil_append] at b2 s2
  have hAB : AB (wth f2 [f1]) [97, 98, 99] 0 [120] 0 := ⟨f1, f2, by simp [wth, n1, n2, ab_lt], n1, b1, s1, n2, b2, s2⟩
  have fe : (2 - ([120] : List UInt8).length : Nat) = 1 := by decide
  rw [fe] at h1
  generalize wth f2 [f1] = L at *
  clear e2 n1 b1 s1 n2 b2 s2 t1 fe
  go_wp2_with fail
  refine (Free_any _ h1.dk).mono ?_
  intro e w5 he
  obtain ⟨rfl, hw5⟩ := he
  rw [hw5]
  clear hw5
  obtain ⟨fa, ka, na, ba, sa⟩ := hAB.lka
  go_wp2_with fail
  refine (Sync_any [97] _ h1.dk (by decide)).mono ?_
  rw [ka]
  simp only [fc]
  rintro e w6 ⟨rfl, hS⟩
  replace h1 := h1.step hS
  clear hS
  have e3 : synL [97] L = wth { fa with syn := fa.bytes.length } L := by simp [synL, ka]
  obtain ⟨f2, hf2, n2, b2, s2⟩ : ∃ f2 : Fl, { fa with syn := fa.bytes.length } = f2 ∧ f2.name = [97] ∧ f2.bytes = [97, 98, 99] ∧ f2.syn = 3 := ⟨_, rfl, na, ba, by show fa.bytes.length = 3; rw [ba]; rfl⟩
  rw [e3, hf2] at h1
  replace hAB := hAB.puta n2
  rw [b2, s2] at hAB
  generalize wth f2 L = L at *
  clear ka na ba sa e3 hf2 n2 b2 s2
  obtain ⟨fa, ka, na, ba, sa⟩ := hAB.lka
  have ht := hAB.tot
  go_wp2_with fail
  refine (Append_ok [97] [100] _ h1.dk (by decide) (by decide) (by rw [ht]; decide) (by decide) (by decide)).mono ?_
  rw [ka]
  rintro e w7 ⟨rfl, f2, n2, b2, s2, hS⟩
  replace h1 := h1.step hS
  clear hS
  simp only [by_, syN, ba, sa] at b2 s2
  replace hAB := hAB.puta n2
  rw [b2, s2] at hAB
  have fe : (1 - ([100] : List UInt8).length : Nat) = 0 := by decide
  rw [fe] at h1
  generalize wth f2 L = L at *
  clear ka na ba sa n2 b2 s2 ht fe
  have ht := hAB.tot
  go_wp2_with fail
  refine (Crash_any none 0 [] _ h1.dk (by decide) (karg_nil _ _ _) (by rw [ht]; decide) (by rw [ht]; decide)).mono ?_
  rintro e w8 ⟨rfl, L2, fr2, hC, hsum, hS⟩
  replace h1 := h1.step hS
  replace hAB := hAB.crash hC
  have k0 : ∀ j, kAt [] j = 0 := fun j => rfl
  have k1 : kn 0 (([97, 98, 99] ++ [100] : List UInt8).length - 3) = 0 := by decide
  have k2 : kn 0 (([120] : List UInt8).length - 0) = 0 := by decide
  simp only [k0, k1, k2] at hAB
  have ht2 := hAB.tot
  have fe : fr2 = 2 := by
    rw [ht, ht2] at hsum
    have c1 : ([97, 98, 99] ++ [100] : List UInt8).length = 4 := by decide
    have c2 : (List.take (3 + 0) ([97, 98, 99] ++ [100] : List UInt8)).length = 3 := by decide
    have c3 : (List.take (0 + 0) ([120] : List UInt8)).length = 0 := by decide
    have c4 : ([120] : List UInt8).length = 1 := by decide
    omega
  subst fe
  have a1 : List.take (3 + 0) ([97, 98, 99] ++ [100] : List UInt8) = [97, 98, 99] := by decide
  have a2 : List.take (0 + 0) ([120] : List UInt8) = [] := by decide
  rw [a1, a2] at hAB
  clear hS hC hsum k0 k1 k2 ht ht2 a1 a2
  obtain ⟨fa, ka, na, ba, sa⟩ := hAB.lka
  obtain ⟨fb, kb, nb, bb, sb⟩ := hAB.lkb
  go_wp2_with fail
  refine (Read_any [97] _ h1.dk (by decide)).mono ?_
  rw [ka]
  simp only [by_, fc, ba]
  intro e w9 he
  obtain ⟨rfl, hw9⟩ := he
  rw [hw9]
  clear hw9
  go_wp2_with fail
  refine (Read_any [98] _ h1.dk (by decide)).mono ?_
  rw [kb]
  simp only [by_, fc, bb]
  intro e w9 he
  obtain ⟨rfl, hw9⟩ := he
  rw [hw9]
  clear hw9
  go_wp2_with fail
  refine (List_any [] _ h1.dk (by decide)).mono ?_
  rw [lst_nil, hAB.nms]
  rintro e w9 ⟨v1, rfl, hr, hb9⟩
  replace h1 := h1.on hb9
  clear hb9
  rcases hr.2 with ⟨_, h0⟩ | ⟨gl, capl, cur, rfl, _, hgl, hc1, _, _, hc2⟩
  · simp at h0
  have cl : ∀ j (hj : j < 2), w9.cell? ⟨gl, j, none⟩ = some (.string (bstr (([[97], [98]] : List (List UInt8))[j]'hj))) := fun j hj => by
    have := hr.cells (g := gl) rfl j (encStr (([[97], [98]] : List (List UInt8))[j]'hj)) (by rw [List.getElem?_map, List.getElem?_eq_getElem hj]; rfl)
    rw [Addr.add_lit, Nat.zero_add] at this
    exact this
  have cl0 := cl 0 (by decide)
  have cl1 := cl 1 (by decide)
  simp only [List.getElem_cons_zero, List.getElem_cons_succ] at cl0 cl1
  have z1 : ((bstr [97, 98, 99]).toList == [97, 98, 99]) = true := by rw [toList_bstr]; decide
  have z2 : ((bstr ([] : List UInt8)).toList == ([] : List UInt8)) = true := by rw [toList_bstr]; decide
  have z3 : ((bstr [97]).toList == [97]) = true := by rw [toList_bstr]; decide
  have z4 : ((bstr [98]).toList == [98]) = true := by rw [toList_bstr]; decide
  clear hr cl hgl hc1 hc2
  have ht := hAB.tot
  go_wp2_with fail
  refine (Append_ok [97] [100, 101] _ h1.dk (by decide) (by decide) (by rw [ht]; decide) (by decide) (by decide)).mono ?_
  rw [ka]
  rintro e w10 ⟨rfl, f2, n2, b2, s2, hS⟩
  replace h1 := h1.step hS
  simp only [by_, syN, ba, sa] at b2 s2
  replace hAB := hAB.puta n2
  rw [b2, s2] at hAB
  have fe : (2 - ([100, 101] : List UInt8).length : Nat) = 0 := by decide
  rw [fe] at h1
  generalize wth f2 L2 = L at *
  clear hS ka na ba sa kb nb bb sb n2 b2 s2 ht fe cl0 cl1 z1 z2 z3 z4
  have ht := hAB.tot
  go_wp2_with fail
  have h5 := h1.on ((Below.refl w10.heap.size w10).alloc (Nat.le_refl _) (.cells #[.int .i64 (-1)] 3))
  refine (Crash_any (some ⟨w10.heap.size, 0, none⟩) 1 [-1] _ h5.dk (by decide) (karg_one h1.dk (-1) _) (by rw [ht]; decide) (by rw [ht]; decide)).mono ?_
  rintro e w11 ⟨rfl, L3, fr3, hC, hsum, hS⟩
  replace h5 := h5.step hS
  clear h1 hS
  replace hAB := hAB.crash hC
  have k0 : kAt [-1] 0 = -1 := rfl
  have k3 : kAt [-1] 1 = 0 := rfl
  have k1 : kn (-1) (([97, 98, 99] ++ [100, 101] : List UInt8).length - 3) = 2 := by decide
  have k2 : kn 0 (([] : List UInt8).length - (0 + 0)) = 0 := by decide
  rw [k0, k3, k1, k2] at hAB
  have ht2 := hAB.tot
  have a1 : List.take (3 + 0 + 2) ([97, 98, 99] ++ [100, 101] : List UInt8) = [97, 98, 99, 100, 101] := by decide
  have a2 : List.take (0 + 0 + 0) ([] : List UInt8) = [] := by decide
  rw [a1, a2] at hAB ht2
  have fe : fr3 = 0 := by
    rw [ht, ht2] at hsum
    have c1 : ([97, 98, 99] ++ [100, 101] : List UInt8).length = 5 := by decide
    have c2 : ([97, 98, 99, 100, 101] : List UInt8).length = 5 := by decide
    omega
  subst fe
  clear hC hsum k0 k1 k2 k3 ht a1 a2
  obtain ⟨fa, ka, na, ba, sa⟩ := hAB.lka
  obtain ⟨fb, kb, nb, bb, sb⟩ := hAB.lkb
  have z1 : ((bstr [97, 98, 99, 100, 101]).toList == [97, 98, 99, 100, 101]) = true := by rw [toList_bstr]; decide
  go_wp2_with fail
  refine (Read_any [97] _ h5.dk (by decide)).mono ?_
  rw [ka]
  simp only [by_, fc, ba]
  intro e w9 he
  obtain ⟨rfl, hw9⟩ := he
  rw [hw9]
  clear hw9
  go_wp2_with fail
  refine (Synced_any [97] _ h5.dk (by decide)).mono ?_
  rw [ka]
  simp only [sy, sa]
  intro e w9 he
  obtain ⟨rfl, hw9⟩ := he
  rw [hw9]
  clear hw9
  go_wp2_with fail
  refine (Rename_ok [97] [98] _ h5.dk (by decide) ka (by decide) (by decide) (by rw [ht2]; decide) (by decide)).mono ?_
  rw [kb]
  rintro e w12 ⟨rfl, hS⟩
  replace h5 := h5.step hS
  simp only [by_, bb] at h5
  have e5 : ∃ f : Fl, wth { fa with name := [98] } (wto [97] (wto [98] L3)) = [f] ∧ f.name = [98] ∧ f.bytes = [97, 98, 99, 100, 101] ∧ f.syn = 5 := by
    obtain ⟨f, g, rfl, q1, q2, q3, q4, _⟩ := hAB.has
    have e1 : some f = some fa := by rw [← ka]; simp [lk, q1]
    have e0 : f = fa := by simpa using e1
    subst e0
    refine ⟨{ f with name := [98] }, ?_, rfl, q2, q3⟩
    have a1 : wto [98] [f, g] = [f] := by simp [wto, q1, q4]
    have a2 : wto [97] [f] = [] := by simp [wto, q1]
    rw [a1, a2]; rfl
  obtain ⟨f, ef, nf, bf, sf⟩ := e5
  rw [ef] at h5
  clear hS ef ka na ba sa kb nb bb sb hAB ht2
  have fe : (0 + ([] : List UInt8).length : Nat) = 0 := by decide
  rw [fe] at h5
  clear fe
  have kb : lk [98] [f] = some f := by simp [lk, nf]
  have ka : lk [97] [f] = none := by simp [lk, nf]
  go_wp2_with fail
  refine (Read_any [98] _ h5.dk (by decide)).mono ?_
  rw [kb]
  simp only [by_, fc, bf]
  intro e w9 he
  obtain ⟨rfl, hw9⟩ := he
  rw [hw9]
  clear hw9
  go_wp2_with fail
  refine (Read_any [97] _ h5.dk (by decide)).mono ?_
  rw [ka]
  simp only [by_, fc]
  intro e w9 he
  obtain ⟨rfl, hw9⟩ := he
  rw [hw9]
  clear hw9
  have hmk : ∀ w : World, (Instr.makeSlice 58 (.int .i64 65) (.int .i64 65)).run Try.prog w = .ok (.slice (some ⟨w.heap.size, 0, none⟩) 65 65) (w.alloc (.cells (zs 65) 5)) := fun w => make_run .i64 65 (by decide) w
  have hcv := made_run 65 (by decide) w12
  have hok : okN (zeros 65) = false := by rw [okN, zeros_length]; rfl
  have h6 := (h5.on ((Below.refl _ _).alloc (Nat.le_refl _) (.cells (zs 65) 5))).on ((Below.refl _ _).alloc (Nat.le_refl _) (.cells #[.int .i64 0, .map none] 61))
  have hge : ((w12.alloc (.cells (zs 65) 5)).alloc (.cells #[.int .i64 0, .map none] 61)).heap[w12.heap.size + 1]? = some (.cells #[.int .i64 0, .map none] 61 (0, 0)) := by
    have := heap_alloc_new (w12.alloc (.cells (zs 65) 5)) (.cells #[.int .i64 0, .map none] 61 (0, 0))
    simpa using this
  have hnf : ¬ Ft d m [f] (w12.heap.size + 1) := fun hi => by have := h5.dk.lt hi; omega
  generalize zs 65 = Z at *
  generalize zeros 65 = wd at *
  clear h5
  go_wp2_with fail
  generalize hW : (w12.alloc (.cells Z 5)).alloc (.cells #[.int .i64 0, .map none] 61) = W at *
  generalize w12.heap.size + 1 = ge at *
  clear hW hmk hcv
  have c1 : W.cell? ⟨ge, 1, none⟩ = some (.map none) := (cells_block hge).1 1
  have hlt : ge < W.heap.size := (Array.getElem?_eq_some_iff.1 hge).1
  refine (Read_nil [97] _).mono ?_
  intro e w9 he
  obtain ⟨rfl, hw9⟩ := he
  rw [hw9]
  clear hw9
  go_wp2_with fail
  refine (Crash_nil none 0 0 _).mono ?_
  intro e w9 he
  obtain ⟨rfl, hw9⟩ := he
  rw [hw9]
  clear hw9
  go_wp2_with fail
  have b1 : (W.alloc (.cells #[.int .i64 1] 3)).heap[ge]? = W.heap[ge]? := (MapKept.heap_alloc W _).2 ge hlt
  have hlt2 : ge < (W.alloc (.cells #[.int .i64 1] 3)).heap.size := by simp; omega
  have h7 := h6.on ((Below.refl W.heap.size W).alloc (Nat.le_refl _) (.cells #[.int .i64 1] 3))
  refine (Crash_zero ge _ _ _ _ ((World.cell?_of_block (a := ⟨ge, 1, none⟩) b1).trans c1)).mono ?_
  intro e w9 he
  obtain ⟨rfl, hw9⟩ := he
  rw [hw9]
  clear hw9 h6
  replace hge := b1.trans hge
  clear c1 b1 hlt
  generalize W.alloc (.cells #[.int .i64 1] 3) = W1 at *
  go_wp2_with fail
  refine (works_any _).mono ?_
  rintro e W2 ⟨rfl, hbw⟩
  replace h7 := h7.on hbw
  replace hge := (hbw.block ge hlt2).trans hge
  have hlt3 : ge < W2.heap.size := Nat.lt_of_lt_of_le hlt2 hbw.size
  clear hbw hlt2
  have t1 : tot [f] = 5 := by simp [tot, bf]
  go_wp2_with fail
  refine (Remove_any [98] _ h7.dk (by decide) (by rw [t1]; decide)).mono ?_
  rw [kb]
  simp only [fc]
  rintro e W3 ⟨rfl, hS⟩
  replace h7 := h7.step hS
  obtain ⟨x1, x2, x3⟩ := hS.far hlt3 hnf
  replace hge := x1.trans hge
  have e8 : wto [98] [f] = [] := by simp [wto, nf]
  rw [e8] at h7 x2
  simp only [by_, bf] at h7
  clear hS x1 hlt3 hnf e8 kb ka
  have fe : (0 + ([97, 98, 99, 100, 101] : List UInt8).length : Nat) = 5 := by decide
  rw [fe] at h7
  clear fe
  go_wp2_with fail
  refine (Remove_any [98] _ h7.dk (by decide) (by decide)).mono ?_
  rintro e W4 ⟨rfl, hS⟩
  replace h7 := h7.step hS
  obtain ⟨y1, y2, y3⟩ := hS.far x3 x2
  replace hge := y1.trans hge
  have e8 : wto [98] [] = [] := rfl
  have e9 : (5 + (by_ (lk [98] [])).length : Nat) = 5 := rfl
  have e10 : fc (lk [98] []) = 5 := rfl
  rw [e8, e9] at h7
  rw [e8] at y2
  rw [e10]
  clear hS y1 x2 x3 e8 e9
  go_wp2_with fail
  refine (Sync_any [98] _ h7.dk (by decide)).mono ?_
  rw [e10]
  rintro e W5 ⟨rfl, hS⟩
  replace h7 := h7.step hS
  obtain ⟨x1, x2, x3⟩ := hS.far y3 y2
  replace hge := x1.trans hge
  have e8 : synL [98] [] = [] := rfl
  rw [e8] at h7 x2
  clear hS x1 y2 y3 e8
  go_wp2_with fail
  refine (Rename_none [98] [99] _ h7.dk (by decide) rfl).mono ?_
  intro e w9 he
  obtain ⟨rfl, hw9⟩ := he
  rw [hw9]
  clear hw9
  go_wp2_with fail
  refine (Append_arg [] [120] _ h7.dk (by decide)).mono ?_
  intro e w9 he
  obtain ⟨rfl, hw9⟩ := he
  rw [hw9]
  clear hw9
  go_wp2_with fail
  refine (Append_arg wd [120] _ h7.dk hok).mono ?_
  intro e w9 he
  obtain ⟨rfl, hw9⟩ := he
  rw [hw9]
  clear hw9
  go_wp2_with fail
  refine (New_any (-3) _).mono ?_
  rintro e W6 ⟨d2, m2, rfl, hD2, hb6, hft6⟩
  replace h7 := h7.on hb6
  replace hge := (hb6.block ge x3).trans hge
  have c1 : W6.cell? ⟨ge, 1, none⟩ = some (.map none) := (cells_block hge).1 1
  have e11 : (-3 : Int).toNat = 0 := rfl
  rw [e11] at hD2
  clear hb6 hft6 x2 x3 hge
  go_wp2_with fail
  refine (Free_any _ hD2).mono ?_
  intro e w9 he
  obtain ⟨rfl, hw9⟩ := he
  rw [hw9]
  clear hw9
  go_wp2_with fail
  refine (Append_nil [97] [120] _).mono ?_
  intro e w9 he
  obtain ⟨rfl, hw9⟩ := he
  rw [hw9]
  clear hw9
  go_wp2_with fail
  refine (Append_zero ge [97] [120] _ c1).mono ?_
  intro e w9 he
  obtain ⟨rfl, hw9⟩ := he
  rw [hw9]
  clear hw9
  go_wp2_with fail
  refine (Sync_zero ge [97] _ c1).mono ?_
  intro e w9 he
  obtain ⟨rfl, hw9⟩ := he
  rw [hw9]
  clear hw9
  go_wp2_with fail
  refine (Rename_nil [97] [98] _).mono ?_
  intro e w9 he
  obtain ⟨rfl, hw9⟩ := he
  rw [hw9]
  clear hw9
  go_wp2_with fail
  refine (Remove_nil [97] _).mono ?_
  intro e w9 he
  obtain ⟨rfl, hw9⟩ := he
  rw [hw9]
  clear hw9
  go_wp2_with fail
  refine (Free_nil _).mono ?_
  intro e w9 he
  obtain ⟨rfl, hw9⟩ := he
  rw [hw9]
  clear hw9
  go_wp2_with fail
  refine (List_zero ge [] _ c1).mono ?_
  intro e w9 he
  obtain ⟨rfl, hw9⟩ := he
  rw [hw9]
  clear hw9
  go_wp2_with fail
  refine (Synced_nil [97] _).mono ?_
  intro e w9 he
  obtain ⟨rfl, hw9⟩ := he
  rw [hw9]
  clear hw9
  go_wp2_with fail
  refine (Copy_nil _).mono ?_
  intro e w9 he
  obtain ⟨rfl, hw9⟩ := he
  rw [hw9]
  clear hw9
  go_wp2_with fail
  refine (Copy_zero ge _ c1).mono ?_
  intro e w9 he
  obtain ⟨rfl, hw9⟩ := he
  rw [hw9]
  clear hw9
  go_wp2
  go_ret
  exact ⟨by rfl, h7.bel⟩

end Go.Proofs.Ytbnenpfphbdmpaa
