/-
  The contract of disk.Copy.
-/
import Derived.Test.YtbnenpfphbdmpaaXCra
namespace Go.Proofs.Ytbnenpfphbdmpaa
open Go.RowKit

/-- What a file tells. -/
def pu (f : Fl) : List UInt8 × List UInt8 × Nat := (f.name, f.bytes, f.syn)
def Pu (L : List Fl) : List (List UInt8 × List UInt8 × Nat) := L.map pu
theorem Pu_lk : ∀ {L L2 : List Fl}, Pu L2 = Pu L → ∀ s, (lk s L2).map pu = (lk s L).map pu
  | [], [], _, _ => rfl
  | [], _ :: _, h, _ => by simp [Pu] at h
  | _ :: _, [], h, _ => by simp [Pu] at h
  | a :: r, b :: t, h, s => by
    simp only [Pu, List.map_cons, List.cons.injEq] at h
    have ih := Pu_lk (L := r) (L2 := t) h.2 s
    have hn : b.name = a.name := congrArg Prod.fst h.1
    simp only [lk, List.find?_cons, hn] at ih ⊢
    cases a.name == s
    · exact ih
    · simp [h.1]
/-- Two disks that tell the same of each name tell the same. -/
theorem Pu_of_lk {L L2 : List Fl} (h : Srt L) (h2 : Srt L2) (e : ∀ s, (lk s L2).map pu = (lk s L).map pu) : Pu L2 = Pu L := by
  have hs : ∀ s, (lk s L2).isSome = (lk s L).isSome := fun s => by have := congrArg Option.isSome (e s); simpa using this
  have hn : nms L2 = nms L := by
    have p : (nms L2).Perm (nms L) := (List.perm_ext_iff_of_nodup ((nms_srt h2).imp fun h => lt_ne h) ((nms_srt h).imp fun h => lt_ne h)).2 fun s => by rw [mem_nms, mem_nms, hs]
    exact List.Perm.eq_of_pairwise (le := fun a b => a < b) (fun a b _ _ h1 h3 => absurd (lt_tr h1 h3) (lt_irr a)) (nms_srt h2) (nms_srt h) p
  have hl : L2.length = L.length := by have := congrArg List.length hn; simpa [nms] using this
  apply List.ext_getElem
  · simp [Pu, hl]
  · intro j h1 h3
    have hj2 : j < L2.length := by simpa [Pu] using h1
    have hj : j < L.length := by simpa [Pu] using h3
    simp only [Pu, List.getElem_map]
    have hnj : L2[j].name = L[j].name := by
      have e1 : (nms L2)[j]'(by simpa [nms] using hj2) = (nms L)[j]'(by simpa [nms] using hj) := by simp only [hn]
      simpa [nms] using e1
    have k1 := srt_at h2 hj2
    have k2 := srt_at h hj
    have := e L[j].name
    rw [k2, ← hnj, k1] at this
    simpa using this
theorem Pu_tot {L L2 : List Fl} (h : Pu L2 = Pu L) : tot L2 = tot L := by
  have : ∀ l : List Fl, tot l = ((Pu l).map (fun x => x.2.1.length)).sum := fun l => by simp [tot, Pu, pu, Function.comp_def]
  rw [this, this, h]
theorem Pu_nms {L L2 : List Fl} (h : Pu L2 = Pu L) : nms L2 = nms L := by
  have : ∀ l : List Fl, nms l = (Pu l).map (fun x => x.1) := fun l => by simp [nms, Pu, pu, Function.comp_def]
  rw [this, this, h]

/-- What has been copied on the way. -/
def Cop (D : DataW Unit) (left : Lit → Bool) (L L2 : List Fl) : Prop := ∀ s, (lk s L2).map pu = if Maps.has D (.string s) = true ∧ left (.string s) = false then (lk s L).map pu else none
theorem Cop.start (D : DataW Unit) (L : List Fl) : Cop D (Maps.has D) L [] := fun s => by
  cases h : Maps.has D (.string s) <;> simp [lk]
theorem Cop.step {D : DataW Unit} {left : Lit → Bool} {L L2 : List Fl} (h : Cop D left L L2) (hs : Srt L2) {f f2 : Fl} (hf : lk f.name L = some f) (hp : pu f2 = pu f) (hh : Maps.has D (.string f.name) = true) :
    Cop D (fun z => left z && !z.sameKey (.string f.name)) L (wth f2 L2) := fun s => by
  have hn : f2.name = f.name := congrArg Prod.fst hp
  by_cases e : s = f.name
  · subst e
    have := lk_wth_same hs f2
    rw [hn] at this
    rw [this, hf]
    simp [hp, hh, Lit.sameKey]
  · rw [lk_wth_other hs (by rw [hn]; exact e), h s]
    simp [Lit.sameKey, e]
theorem Cop.done {D : DataW Unit} {left : Lit → Bool} {L L2 : List Fl} (h : Cop D left L L2) (hM : Mp D L) (hs : Srt L) (hs2 : Srt L2) (hl : ∀ kl, left kl = false) : Pu L2 = Pu L := Pu_of_lk hs hs2 fun s => by
  rw [h s, hM.2, hl]
  cases lk s L <;> simp

/-- What a map's block is. -/
def MpB (w : World) (m : Nat) (o : Obj) : Prop := w.heap[m]? = some o
theorem MpB.below {w w' : World} {m : Nat} {o : Obj} (h : MpB w m o) (hb : Below w.heap.size w w') : MpB w' m o := (hb.block m (Array.getElem?_eq_some_iff.1 h).1).trans h
theorem MpB.alloc {w : World} {m : Nat} {o : Obj} (h : MpB w m o) (x : Obj) : MpB (w.alloc x) m o := h.below ((Below.refl _ _).alloc (Nat.le_refl _) x)
theorem MpB.drew {w : World} {m : Nat} {o : Obj} (h : MpB w m o) : MpB w.drew m o := h
/-- 'c.files[name] = f', in each world in which the map is what it was. -/
theorem stores_all {w : World} {m n : Nat} {D : DataW Unit} {L : List Fl} (hM : Mp D L) (hs : Srt L) (h : w.ownsMap Try.prog 9 ptrElem m n D) (hn : n < maxLen) (x : List UInt8) (hl : x.length ≤ maxLen) :
    ∃ (o : Obj) (U : World → Nat → World), MpB w m o ∧ ∀ w' g, MpB w' m o → (Instr.mapUpdate 59 (.map (some m)) (.string (bstr x)) (.pointer (some ⟨g, 0, none⟩))).run Try.prog w' = .ok () (U w' g) ∧ w'.mapTurned (U w' g) m ∧
      ∀ f : Fl, f.name = x → f.g = g → ∃ D', (U w' g).ownsMap Try.prog 9 ptrElem m (n + 1) D' ∧ Mp D' (wth f L) := by
  obtain ⟨es, ck, hb, hrest⟩ := h
  have hex : ∀ w' : World, ∀ g : Nat, ∃ w'' : World, MpB w' m (.map es ck) → (Instr.mapUpdate 59 (.map (some m)) (.string (bstr x)) (.pointer (some ⟨g, 0, none⟩))).run Try.prog w' = .ok () w'' ∧ w'.mapTurned w'' m ∧
      ∀ f : Fl, f.name = x → f.g = g → ∃ D', w''.ownsMap Try.prog 9 ptrElem m (n + 1) D' ∧ Mp D' (wth f L) := by
    intro w' g
    by_cases hB : MpB w' m (.map es ck)
    · have h2 : w'.ownsMap Try.prog 9 ptrElem m n D := ⟨es, ck, hB, hrest⟩
      obtain ⟨w'', hrun, r1, r2⟩ := h2.store keyT Try.underlying59 hn (key_mk hl) (ptr_at g)
      refine ⟨w'', fun _ => ⟨hrun, r2, fun f h3 h4 => ⟨_, r1, ?_⟩⟩⟩
      subst h3 h4
      exact hM.put hs h2.isMap f
    · exact ⟨w', fun h => absurd h hB⟩
  obtain ⟨U, hU⟩ := Classical.skolem.1 fun w' => Classical.skolem.1 (hex w')
  exact ⟨.map es ck, U, hb, fun w' g hB => hU w' g hB⟩

theorem own_base {w : World} {B B' e : Nat} {v : Value} {n : Nat} {xs : List Value} (h : w.ownsRow B e 1 v n xs) (hB : B' ≤ B) : w.ownsRow B' e 1 v n xs := by
  refine ⟨h.1, ?_⟩
  rcases h.2 with a | ⟨g, cap, cur, a1, a2, a3⟩
  · exact Or.inl a
  · exact Or.inr ⟨g, cap, cur, a1, Nat.le_trans hB a2, a3⟩
theorem own_below {w w' : World} {B e : Nat} {v : Value} {n : Nat} {xs : List Value} (h : w.ownsRow B e 1 v n xs) (hb : Below w.heap.size w w') : w'.ownsRow B e 1 v n xs := by
  refine ⟨h.1, ?_⟩
  rcases h.2 with a | ⟨g, cap, cur, a1, a2, a3, a4⟩
  · exact Or.inl a
  · exact Or.inr ⟨g, cap, cur, a1, a2, (hb.block g (Array.getElem?_eq_some_iff.1 a3).1).trans a3, a4⟩

set_option maxHeartbeats 8000000 in
set_option maxRecDepth 100000 in
theorem Copy_any {d m fr N : Nat} {L : List Fl} (w : World) (h : Dk w d m L fr N) (hN : N ≤ 1099511627776) (hb : tot L ≤ 140737488355328) :
    Calls Try.prog 23 #[.pointer (some ⟨d, 0, none⟩)] w fun e w' => ∃ c m2 L2, e = .returned (.pointer (some ⟨c, 0, none⟩)) ∧ Pu L2 = Pu L ∧ Dk w' c m2 L2 fr N ∧ Below w.heap.size w w' ∧ ∀ i, Ft c m2 L2 i → w.heap.size ≤ i := by
  have hn := none_any w h
  have d0 : w.cell? ⟨d, 0, none⟩ = some (.int .i64 (fr : Int)) := (cells_block h.blk).1 0
  have hm := h.lt (Or.inr (Or.inl rfl))
  obtain ⟨n, D, hnN, hown, hM⟩ := h.mp
  have hsz := hown.size_le
  go_enter Try.func23, Try.ntmps23
  go_wp2_with fail
  refine hn.mono ?_
  rintro e w1 ⟨rfl, rfl⟩
  go_wp2_with fail
  refine (New_any (fr : Int) _).mono ?_
  rintro e w2 ⟨c, m2, rfl, hDc, hb2, hft⟩
  rw [Int.toNat_natCast] at hDc
  have h2 := h.below hb2
  have d1 : w2.cell? ⟨d, 1, none⟩ = some (.map (some m)) := (cells_block h2.blk).1 1
  have hown2 := owns_kept hown (hb2.block m hm)
  have hs2 := hb2.size
  clear hn d0
  go_wp2_with (first
    | (at_range; refine wpList_range_own _ rfl _ 59 rfl 9 72 keyT Try.underlying59 _ m n _ rfl hown2 ?_; intro w0 hrg0 hg0 hs0)
    | go_in)
  go_frame
  have hb0 : Below w2.heap.size w2 w0 := (Below.refl _ _).grown hg0 (Nat.le_refl _) (fun j hj => by cases hj)
  go_loopw [18] (fun _ wr => ∃ (left : Lit → Bool) (cnt : Nat) (L2 : List Fl), wr.ranges Try.prog 9 ptrElem m w2.heap.size n D left cnt ∧ cnt ≤ Maps.size D ∧ Cop D left L L2 ∧ Dk wr c m2 L2 fr (Maps.size D - cnt) ∧ Below w1.heap.size w1 wr ∧ (∀ i, Ft c m2 L2 i → w1.heap.size ≤ i) ∧ w2.heap.size < wr.heap.size)
    (fun _ wr => wr.rangeLeft m w2.heap.size)
  case atStart =>
    exact ⟨_, _, [], hrg0, Nat.le_refl _, Cop.start D L, (hDc.below hb0).mono (Nat.zero_le _), b_step hb2 hb0 (Nat.le_refl _), hft, by omega⟩
  case round =>
    obtain ⟨left, cnt, L2, hrg, hcs, hC, hDr, hbr, hfr, hsr⟩ := hrel
    clear hrg0 hg0 hs0 hb0 hft hDc h2 d1 hown2
    go_wp2_with (first
      | (at_next; refine wpList_next_ranges _ rfl _ rfl 9 keyT ptrElem (fun x : List UInt8 => .string (bstr x)) Value.pointer key_inv ptr_shape m w2.heap.size n _ _ _ rfl hrg ?_ ?_)
      | go_in)
    · intro hc0 hl0
      go_wp2
      go_ret
      exact ⟨c, m2, L2, rfl, hC.done hM h.srt hDr.srt hl0, hDr.mono (by omega), hbr, hfr⟩
    · intro x cc kl y1 y2 w3 cnt1 hkey hlx hpy hat hrg1 hlt1 hg1 hs1 hen
      obtain ⟨rfl, hxl⟩ := key_of hkey
      have hhas : Maps.has D (.string x) = true := Maps.has_true_of_atKey hat
      have hlk : ∃ f, lk x L = some f := by
        have := hM.2 x
        rw [hhas] at this
        cases e : lk x L with
        | none => rw [e] at this; cases this
        | some f => exact ⟨f, rfl⟩
      obtain ⟨f, hlk⟩ := hlk
      have hcc : Value.pointer cc = .pointer (some ⟨f.g, 0, none⟩) := by
        have h1 := hat .nil
        rw [hM.1, hlk] at h1
        rw [← h1] at hpy
        exact pv_of (o := some f) hpy
      injection hcc with hcc
      subst hcc
      obtain ⟨hfm, rfl⟩ := lk_some hlk
      have hb3 : Below w1.heap.size w1 w3 := hbr.grown hg1 hbr.size (fun j hj => by cases hj; exact hs2)
      have hF1 := h.fl f hfm
      have hfl := (Array.getElem?_eq_some_iff.1 hF1.blk).1
      have hF3 : FlAt w3 f := hF1.kept (hb3.block _ hfl) (fun i hi => by
        obtain ⟨cur, hc⟩ := own_lt hF1.own hi
        exact hb3.block i (Array.getElem?_eq_some_iff.1 hc).1)
      have hD3 : Dk w3 c m2 L2 fr (Maps.size D - cnt) := hDr.kept fun i hi => hg1.block i (hDr.lt hi) (fun e => by
        cases e
        obtain ⟨es, ck, since, seen, c0, _, _, _, _, hit, _⟩ := hrg
        rcases hDr.what hi with ⟨es', c', e'⟩ | ⟨cur, t, e', _⟩ <;> rw [e'] at hit <;> cases hit)
      have hf3 : ∀ i, Ft c m2 L2 i → i < w3.heap.size := fun i hi => hD3.lt hi
      obtain ⟨n2, D2, hn2, how2, hM2⟩ := hD3.mp
      obtain ⟨o, U, hB0, hU⟩ := stores_all hM2 hD3.srt how2 (by unfold maxLen; omega) f.name hxl
      obtain ⟨q, cap, hv⟩ := own_shape hF3.own
      have hbl : f.bytes.length ≤ 140737488355328 := by have := tot_mem hfm; omega
      have facts : ∀ w', Below w3.heap.size w3 w' → w'.cell? ⟨c, 1, none⟩ = some (.map (some m2)) ∧ w'.cell? ⟨f.g, 0, none⟩ = some (.slice q f.bytes.length cap) ∧ w'.cell? ⟨f.g, 1, none⟩ = some (.int .i64 f.syn) ∧ MpB w' m2 o ∧ (∀ x, MpB (w'.alloc x) m2 o) ∧ BArg w' q f.bytes := fun w' hb' => by
        have k1 := (cells_block ((hb'.block c (hD3.lt (Or.inl rfl))).trans hD3.blk)).1 1
        have k2 := cells_block ((hb'.block f.g (Array.getElem?_eq_some_iff.1 hF3.blk).1).trans hF3.blk)
        have k3 := MpB.below hB0 hb'
        have k4 := own_below hF3.own hb'
        rw [hv] at k4
        obtain ⟨q', cap', e1, _, _, _, e2, _⟩ := own_barg k4
        injection e1 with e3 e4 e5
        subst e3
        exact ⟨k1, by rw [k2.1 0, ← hv]; rfl, k2.1 1, k3, fun x => k3.alloc x, BArg.of_own e2⟩
      have fin : ∀ (Wl : World) (g2 : Nat) (v2 : Value), Below w3.heap.size w3 Wl → Wl.ownsRow w3.heap.size 5 1 v2 f.bytes.length (Lib.byteCells f.bytes) → w3.heap.size ≤ g2 ∧ Wl.heap[g2]? = some (.cells #[v2, .int .i64 f.syn] 76 (0, 0)) →
          ∃ L3, (U Wl g2).ranges Try.prog 9 ptrElem m w2.heap.size n D (fun z => left z && !z.sameKey (.string f.name)) cnt1 ∧ cnt1 ≤ Maps.size D ∧ Cop D (fun z => left z && !z.sameKey (.string f.name)) L L3 ∧ Dk (U Wl g2) c m2 L3 fr (Maps.size D - cnt1) ∧ Below w1.heap.size w1 (U Wl g2) ∧ (∀ i, Ft c m2 L3 i → w1.heap.size ≤ i) ∧ w2.heap.size < (U Wl g2).heap.size := fun Wl g2 v2 hb' ho' hg2 => by
        obtain ⟨hrun, ht, hm'⟩ := hU Wl g2 (facts Wl hb').2.2.2.1
        have hDl := hD3.below hb'
        obtain ⟨D', hm1, hm2⟩ := hm' ⟨f.name, f.bytes, f.syn, g2, v2⟩ rfl rfl
        have hne : Cop D left L L2 := hC
        have hnone : lk f.name L2 = none := by
          have := hC f.name
          rw [hlx] at this
          simpa using this
        have hDn := hDl.add ⟨f.name, f.bytes, f.syn, g2, v2⟩ hnone ⟨hg2.2, own_base ho' (Nat.zero_le _), hF3.syn, hF3.nm⟩ (fun y hy => ⟨fun e => ?_, ?_⟩) ht ⟨n2 + 1, D', Nat.succ_le_succ hn2, hm1, hm2⟩
        · have g' := ht.grown
          have hm2lt := hD3.lt (Or.inr (Or.inl rfl))
          have hrl := hrg1.lt
          have hml := hrg1.owns.lt
          have hm2w : w1.heap.size ≤ m2 := hfr m2 (Or.inr (Or.inl rfl))
          have hrg3 := (hrg1.kept (row := none) ⟨hb'.os, hb'.tape, hb'.output, hb'.size, fun i hi _ => hb'.block i hi⟩ (by simp) (by simp)).kept g' (fun e => by cases e; omega) (fun e => by
            cases e
            obtain ⟨es, ck, since, seen, c0, _, _, _, _, hit, _⟩ := hrg1
            obtain ⟨es', c', e', _⟩ := how2
            rw [e'] at hit
            cases hit)
          refine ⟨wth ⟨f.name, f.bytes, f.syn, g2, v2⟩ L2, hrg3, by omega, hC.step (f2 := ⟨f.name, f.bytes, f.syn, g2, v2⟩) hD3.srt hlk rfl hhas, hDn.mono (by omega), (b_step hb3 (hb'.mono (by have := hb3.size; omega)) (Nat.le_refl _) : Below w1.heap.size w1 Wl).grown g' (Nat.le_trans hb3.size hb'.size) (fun j hj => by cases hj; exact hm2w), fun i hi => ?_, by have := hb'.size; have := g'.size; omega⟩
          rcases Ft.add hD3.srt hi with a | a | a
          · exact hfr i a
          · have := hb3.size; simp only at a; omega
          · have := (ho'.lt i a).1; have := hb3.size; omega
        · have := hf3 _ (Or.inr (Or.inr ⟨y, hy, Or.inl rfl⟩)); simp only at e; omega
        · refine (Classical.em (v2.ownBlock = none)).imp id (fun h1 e => ?_)
          cases e2 : v2.ownBlock with
          | none => exact h1 e2
          | some j =>
            have a1 := (ho'.lt j e2).1
            rw [e2] at e
            have := hf3 j (Or.inr (Or.inr ⟨y, hy, Or.inr e.symm⟩))
            omega
      have hUr : ∀ w' g, MpB w' m2 o → (Instr.mapUpdate 59 (.map (some m2)) (.string (bstr f.name)) (.pointer (some ⟨g, 0, none⟩))).run Try.prog w' = .ok () (U w' g) := fun w' g hB => (hU w' g hB).1
      have hUk : ∀ w' g, MpB w' m2 o → (w'.cell? ⟨c, 1, none⟩ = some (.map (some m2)) ∧ w'.cell? ⟨f.g, 0, none⟩ = some (.slice q f.bytes.length cap) ∧ w'.cell? ⟨f.g, 1, none⟩ = some (.int .i64 f.syn)) → ((U w' g).cell? ⟨c, 1, none⟩ = some (.map (some m2)) ∧ (U w' g).cell? ⟨f.g, 0, none⟩ = some (.slice q f.bytes.length cap) ∧ (U w' g).cell? ⟨f.g, 1, none⟩ = some (.int .i64 f.syn)) := fun w' g hB hc => by
        have g' := (hU w' g hB).2.1.grown
        have n1 : c ≠ m2 := hD3.ne
        have n2' : f.g ≠ m2 := fun e => by
          have := hfr m2 (Or.inr (Or.inl rfl))
          omega
        exact ⟨g'.cell hc.1 (by simpa using n1), g'.cell hc.2.1 (by simpa using n2'), g'.cell hc.2.2 (by simpa using n2')⟩
      have hx64 : f.name.length ≤ 281474976710656 := by have := hF3.nm.2; omega
      have hB : Below w3.heap.size w3 w3.drew := (Below.refl _ _).drew
      obtain ⟨c1, g0, g1, hO, hOA, hBA⟩ := facts _ hB
      clear hF3 hF1 hD3 hrg1 hM2 how2 hU hC hDr hbr hfr hsr hB0 hg1 hf3 hat hpy hkey hown hb3 hfm hfl hM h hs2 hb2
      generalize hgg : f.g = gg at *
      go_wp2_with fail
      go_region_held3 (fun w' => w'.cell? ⟨c, 1, none⟩ = some (.map (some m2)) ∧ w'.cell? ⟨gg, 0, none⟩ = some (.slice q f.bytes.length cap) ∧ w'.cell? ⟨gg, 1, none⟩ = some (.int .i64 f.syn)) (first | with_reducible exact ⟨c1, g0, g1⟩ | exact hUk _ _ (by first | exact hO | exact hOA _) (by assumption) | go_keep)
        (first
          | (go_at_call 35; refine (CClone_any f.name _ hx64).mono ?_; rintro e wa ⟨rfl, hba⟩; have hBn : Below w3.heap.size w3 wa := (by first | exact b_step hB hba (Nat.le_refl _) | exact b_step (hB.alloc hB.size _) hba (Nat.le_refl _)); clear c1 g0 g1 hO hOA hBA hB; obtain ⟨c1, g0, g1, hO, hOA, hBA⟩ := facts _ hBn; have hB := hBn; clear hBn)
          | (go_at_call 40; refine (Clone_any q cap f.bytes _ hBA hbl).mono ?_; rintro e wb ⟨v2, rfl, hv2, hbb⟩; have hBn : Below w3.heap.size w3 wb := b_step hB hbb (Nat.le_refl _); replace hv2 := own_base hv2 hB.size; obtain ⟨q2, cap2, rfl⟩ := own_shape (own_base hv2 (Nat.zero_le _)); clear c1 g0 g1 hO hOA hBA hB; obtain ⟨c1, g0, g1, hO, hOA, hBA⟩ := facts _ hBn; have hB := hBn; clear hBn))
      obtain ⟨L3, r1, r2, r3, r4, r5, r6, r7⟩ := fin (wb.alloc (.cells #[.slice q2 f.bytes.length cap2, .int .i64 f.syn] 76)) wb.heap.size (.slice q2 f.bytes.length cap2) (hB.alloc hB.size _) (hv2.alloc _) ⟨hB.size, heap_alloc_new wb _⟩
      clear fin hUr hUk facts c1 g0 g1 hO hOA hBA hB hv2 hba hbb
      go_wp2
      go_roundw
      case rel => exact ⟨_, cnt1, L3, r1, r2, r3, r4, r5, r6, r7⟩
      case measure => rw [r1.left_eq, hrg.left_eq]; exact hlt1

set_option maxHeartbeats 1000000 in
theorem Copy_nil (w : World) :
    Calls Try.prog 23 #[.pointer none] w fun e w' => e = .returned (.pointer none) ∧ w' = w := by
  go_enter Try.func23, Try.ntmps23
  go_wp2_with fail
  refine (none_nil _).mono ?_
  rintro e w1 ⟨rfl, rfl⟩
  go_wp2
  go_ret
  exact ⟨rfl, rfl⟩

set_option maxHeartbeats 1000000 in
theorem Copy_zero (d : Nat) (w : World) (c1 : w.cell? ⟨d, 1, none⟩ = some (.map none)) :
    Calls Try.prog 23 #[.pointer (some ⟨d, 0, none⟩)] w fun e w' => e = .returned (.pointer none) ∧ w' = w := by
  go_enter Try.func23, Try.ntmps23
  go_wp2_with fail
  refine (none_zero d _ c1).mono ?_
  rintro e w1 ⟨rfl, rfl⟩
  go_wp2
  go_ret
  exact ⟨rfl, rfl⟩

set_option maxHeartbeats 1000000 in
theorem Crash_nil (q : Option Addr) (n cap : Nat) (w : World) :
    Calls Try.prog 22 #[.pointer none, .slice q n cap] w fun e w' => e = .returned (.tuple #[]) ∧ w' = w := by
  go_enter Try.func22, Try.ntmps22
  go_wp2_with fail
  refine (List_nil [] _).mono ?_
  rintro e w1 ⟨rfl, rfl⟩
  go_wp2_with fail
  refine wp_loop_rounds 1 ?_
  rw [rounds_succ]
  go_wp2
  go_end0
  exact ⟨rfl, rfl⟩

set_option maxHeartbeats 1000000 in
theorem Crash_zero (d : Nat) (q : Option Addr) (n cap : Nat) (w : World) (c1 : w.cell? ⟨d, 1, none⟩ = some (.map none)) :
    Calls Try.prog 22 #[.pointer (some ⟨d, 0, none⟩), .slice q n cap] w fun e w' => e = .returned (.tuple #[]) ∧ w' = w := by
  go_enter Try.func22, Try.ntmps22
  go_wp2_with fail
  refine (List_zero d [] _ c1).mono ?_
  rintro e w1 ⟨rfl, rfl⟩
  go_wp2_with fail
  refine wp_loop_rounds 1 ?_
  rw [rounds_succ]
  go_wp2
  go_end0
  exact ⟨rfl, rfl⟩

end Go.Proofs.Ytbnenpfphbdmpaa
