/-
  The contract of disk.Copy.
  The law's own 'works' over disk.
  DiskKeeps: the law's walk.
  What a step makes of a disk, whatever it answers; steps in memory.
-/
import Derived.Test.YtpldfakfgngaaaaGreatDoorXCra
namespace Go.Proofs.YtpldfakfgngaaaaGreatDoor
open Go.RowKit

/-- What a file tells. -/
def pu (f : Fl) : List UInt8 × List UInt8 × Nat := (f.name, f.bytes, f.syn)
def Pu (L : List Fl) : List (List UInt8 × List UInt8 × Nat) := L.map pu
theorem Pu_lk : ∀ {L L2 : List Fl}, Pu L2 = Pu L → ∀ s, (lk s L2).map pu = (lk s L).map pu
  | [], [], _, _ => rfl
  | [], _ :: _, h, _ => by simp [Pu] at h
  | _ :: _, [], h, _ => by simp [Pu] at h
  | a :: r, b :: t, h, s => by
    simp only [Pu, List.map_cons, List.cons.injEq] at h
    have ih := Pu_lk (L := r) (L2 := t) h.2 s
    have hn : b.name = a.name := congrArg Prod.fst h.1
    simp only [lk, List.find?_cons, hn] at ih ⊢
    cases a.name == s
    · exact ih
    · simp [h.1]
/-- Two disks that tell the same of each name tell the same. -/
theorem Pu_of_lk {L L2 : List Fl} (h : Srt L) (h2 : Srt L2) (e : ∀ s, (lk s L2).map pu = (lk s L).map pu) : Pu L2 = Pu L := by
  have hs : ∀ s, (lk s L2).isSome = (lk s L).isSome := fun s => by have := congrArg Option.isSome (e s); simpa using this
  have hn : nms L2 = nms L := by
    have p : (nms L2).Perm (nms L) := (List.perm_ext_iff_of_nodup ((nms_srt h2).imp fun h => lt_ne h) ((nms_srt h).imp fun h => lt_ne h)).2 fun s => by rw [mem_nms, mem_nms, hs]
    exact List.Perm.eq_of_pairwise (le := fun a b => a < b) (fun a b _ _ h1 h3 => absurd (lt_tr h1 h3) (lt_irr a)) (nms_srt h2) (nms_srt h) p
  have hl : L2.length = L.length := by have := congrArg List.length hn; simpa [nms] using this
  apply List.ext_getElem
  · simp [Pu, hl]
  · intro j h1 h3
    have hj2 : j < L2.length := by simpa [Pu] using h1
    have hj : j < L.length := by simpa [Pu] using h3
    simp only [Pu, List.getElem_map]
    have hnj : L2[j].name = L[j].name := by
      have e1 : (nms L2)[j]'(by simpa [nms] using hj2) = (nms L)[j]'(by simpa [nms] using hj) := by simp only [hn]
      simpa [nms] using e1
    have k1 := srt_at h2 hj2
    have k2 := srt_at h hj
    have := e L[j].name
    rw [k2, ← hnj, k1] at this
    simpa using this
theorem Pu_tot {L L2 : List Fl} (h : Pu L2 = Pu L) : tot L2 = tot L := by
  have : ∀ l : List Fl, tot l = ((Pu l).map (fun x => x.2.1.length)).sum := fun l => by simp [tot, Pu, pu, Function.comp_def]
  rw [this, this, h]
theorem Pu_nms {L L2 : List Fl} (h : Pu L2 = Pu L) : nms L2 = nms L := by
  have : ∀ l : List Fl, nms l = (Pu l).map (fun x => x.1) := fun l => by simp [nms, Pu, pu, Function.comp_def]
  rw [this, this, h]

/-- What has been copied on the way. -/
def Cop (D : DataW Unit) (left : Lit → Bool) (L L2 : List Fl) : Prop := ∀ s, (lk s L2).map pu = if Maps.has D (.string s) = true ∧ left (.string s) = false then (lk s L).map pu else none
theorem Cop.start (D : DataW Unit) (L : List Fl) : Cop D (Maps.has D) L [] := fun s => by
  cases h : Maps.has D (.string s) <;> simp [lk]
theorem Cop.step {D : DataW Unit} {left : Lit → Bool} {L L2 : List Fl} (h : Cop D left L L2) (hs : Srt L2) {f f2 : Fl} (hf : lk f.name L = some f) (hp : pu f2 = pu f) (hh : Maps.has D (.string f.name) = true) :
    Cop D (fun z => left z && !z.sameKey (.string f.name)) L (wth f2 L2) := fun s => by
  have hn : f2.name = f.name := congrArg Prod.fst hp
  by_cases e : s = f.name
  · subst e
    have := lk_wth_same hs f2
    rw [hn] at this
    rw [this, hf]
    simp [hp, hh, Lit.sameKey]
  · rw [lk_wth_other hs (by rw [hn]; exact e), h s]
    simp [Lit.sameKey, e]
theorem Cop.done {D : DataW Unit} {left : Lit → Bool} {L L2 : List Fl} (h : Cop D left L L2) (hM : Mp D L) (hs : Srt L) (hs2 : Srt L2) (hl : ∀ kl, left kl = false) : Pu L2 = Pu L := Pu_of_lk hs hs2 fun s => by
  rw [h s, hM.2, hl]
  cases lk s L <;> simp

/-- What a map's block is. -/
def MpB (w : World) (m : Nat) (o : Obj) : Prop := w.heap[m]? = some o
theorem MpB.below {w w' : World} {m : Nat} {o : Obj} (h : MpB w m o) (hb : Below w.heap.size w w') : MpB w' m o := (hb.block m (Array.getElem?_eq_some_iff.1 h).1).trans h
theorem MpB.alloc {w : World} {m : Nat} {o : Obj} (h : MpB w m o) (x : Obj) : MpB (w.alloc x) m o := h.below ((Below.refl _ _).alloc (Nat.le_refl _) x)
theorem MpB.drew {w : World} {m : Nat} {o : Obj} (h : MpB w m o) : MpB w.drew m o := h
/-- 'c.files[name] = f', in each world in which the map is what it was. -/
theorem stores_all {w : World} {m n : Nat} {D : DataW Unit} {L : List Fl} (hM : Mp D L) (hs : Srt L) (h : w.ownsMap Tryz.prog 9 ptrElem m n D) (hn : n < maxLen) (x : List UInt8) (hl : x.length ≤ maxLen) :
    ∃ (o : Obj) (U : World → Nat → World), MpB w m o ∧ ∀ w' g, MpB w' m o → (Instr.mapUpdate 106 (.map (some m)) (.string (bstr x)) (.pointer (some ⟨g, 0, none⟩))).run Tryz.prog w' = .ok () (U w' g) ∧ w'.mapTurned (U w' g) m ∧
      ∀ f : Fl, f.name = x → f.g = g → ∃ D', (U w' g).ownsMap Tryz.prog 9 ptrElem m (n + 1) D' ∧ Mp D' (wth f L) := by
  obtain ⟨es, ck, hb, hrest⟩ := h
  have hex : ∀ w' : World, ∀ g : Nat, ∃ w'' : World, MpB w' m (.map es ck) → (Instr.mapUpdate 106 (.map (some m)) (.string (bstr x)) (.pointer (some ⟨g, 0, none⟩))).run Tryz.prog w' = .ok () w'' ∧ w'.mapTurned w'' m ∧
      ∀ f : Fl, f.name = x → f.g = g → ∃ D', w''.ownsMap Tryz.prog 9 ptrElem m (n + 1) D' ∧ Mp D' (wth f L) := by
    intro w' g
    by_cases hB : MpB w' m (.map es ck)
    · have h2 : w'.ownsMap Tryz.prog 9 ptrElem m n D := ⟨es, ck, hB, hrest⟩
      obtain ⟨w'', hrun, r1, r2⟩ := h2.store keyT Tryz.underlying106 hn (key_mk hl) (ptr_at g)
      refine ⟨w'', fun _ => ⟨hrun, r2, fun f h3 h4 => ⟨_, r1, ?_⟩⟩⟩
      subst h3 h4
      exact hM.put hs h2.isMap f
    · exact ⟨w', fun h => absurd h hB⟩
  obtain ⟨U, hU⟩ := Classical.skolem.1 fun w' => Classical.skolem.1 (hex w')
  exact ⟨.map es ck, U, hb, fun w' g hB => hU w' g hB⟩

theorem own_base {w : World} {B B' e : Nat} {v : Value} {n : Nat} {xs : List Value} (h : w.ownsRow B e 1 v n xs) (hB : B' ≤ B) : w.ownsRow B' e 1 v n xs := by
  refine ⟨h.1, ?_⟩
  rcases h.2 with a | ⟨g, cap, cur, a1, a2, a3⟩
  · exact Or.inl a
  · exact Or.inr ⟨g, cap, cur, a1, Nat.le_trans hB a2, a3⟩
theorem own_below {w w' : World} {B e : Nat} {v : Value} {n : Nat} {xs : List Value} (h : w.ownsRow B e 1 v n xs) (hb : Below w.heap.size w w') : w'.ownsRow B e 1 v n xs := by
  refine ⟨h.1, ?_⟩
  rcases h.2 with a | ⟨g, cap, cur, a1, a2, a3, a4⟩
  · exact Or.inl a
  · exact Or.inr ⟨g, cap, cur, a1, a2, (hb.block g (Array.getElem?_eq_some_iff.1 a3).1).trans a3, a4⟩

set_option maxHeartbeats 1000000 in
theorem Crash_nil (q : Option Addr) (n cap : Nat) (w : World) :
    Calls Tryz.prog 24 #[.pointer none, .slice q n cap] w fun e w' => e = .returned (.tuple #[]) ∧ w' = w := by
  go_enter Tryz.func24, Tryz.ntmps24
  go_wp2_with fail
  refine (List_nil [] _).mono ?_
  rintro e w1 ⟨rfl, rfl⟩
  go_wp2_with fail
  refine wp_loop_rounds 1 ?_
  rw [rounds_succ]
  go_wp2
  go_end0
  exact ⟨rfl, rfl⟩

set_option maxHeartbeats 1000000 in
theorem Crash_zero (d : Nat) (q : Option Addr) (n cap : Nat) (w : World) (c1 : w.cell? ⟨d, 1, none⟩ = some (.map none)) :
    Calls Tryz.prog 24 #[.pointer (some ⟨d, 0, none⟩), .slice q n cap] w fun e w' => e = .returned (.tuple #[]) ∧ w' = w := by
  go_enter Tryz.func24, Tryz.ntmps24
  go_wp2_with fail
  refine (List_zero d [] _ c1).mono ?_
  rintro e w1 ⟨rfl, rfl⟩
  go_wp2_with fail
  refine wp_loop_rounds 1 ?_
  rw [rounds_succ]
  go_wp2
  go_end0
  exact ⟨rfl, rfl⟩

end Go.Proofs.YtpldfakfgngaaaaGreatDoor

namespace Go.Proofs.YtpldfakfgngaaaaGreatDoor
open Go.RowKit

/-- A disk that lies behind the block B; below B nothing has turned since w0. -/
structure Dw (B : Nat) (w0 w : World) (d m : Nat) (L : List Fl) (fr N : Nat) : Prop where
  dk : Dk w d m L fr N
  ge : ∀ i, Ft d m L i → B ≤ i
  bel : Below B w0 w
  hB : B ≤ w0.heap.size
theorem Dw.step {B : Nat} {w0 w w' : World} {d m : Nat} {L L' : List Fl} {fr N fr' N' : Nat} (h : Dw B w0 w d m L fr N) (hs : Stp w w' d m L L' fr' N') : Dw B w0 w' d m L' fr' N' :=
  ⟨hs.dk, fun i hi => by
    rcases hs.ft i hi with a | a
    · exact h.ge i a
    · exact Nat.le_trans h.hB (Nat.le_trans h.bel.size a), h.bel.trans (hs.kp.below (Nat.le_trans h.hB h.bel.size) h.ge), h.hB⟩
theorem Dw.on {B : Nat} {w0 w w' : World} {d m : Nat} {L : List Fl} {fr N : Nat} (h : Dw B w0 w d m L fr N) (hb : Below w.heap.size w w') : Dw B w0 w' d m L fr N :=
  ⟨h.dk.below hb, h.ge, b_step h.bel hb h.hB, h.hB⟩
theorem Dw.made {B : Nat} {w0 w w' : World} {d m fr N : Nat} {L : List Fl} (hB : B ≤ w0.heap.size) (h0 : Below B w0 w) (h : Dk w' d m L fr N) (hb : Below w.heap.size w w') (hft : ∀ i, Ft d m L i → w.heap.size ≤ i) : Dw B w0 w' d m L fr N :=
  ⟨h, fun i hi => Nat.le_trans (Nat.le_trans hB h0.size) (hft i hi), b_step h0 hb hB, hB⟩
theorem Cr.one {ks : List Int} {f : Fl} {L' : List Fl} (h : Cr ks 1 [f] L') : ∃ v', L' = [crF (kAt ks 0) f v'] := by
  obtain ⟨x, rfl⟩ := List.length_eq_one_iff.1 h.len
  obtain ⟨v', hv'⟩ := h.old 0 (by simp) (by simp)
  exact ⟨v', by simpa using hv'⟩
theorem karg_nil (w : World) (q : Option Addr) (S : Nat → Prop) : KArg w q [] S := fun h => absurd h (by simp)
theorem karg_one {w : World} {d m fr N : Nat} {L : List Fl} (h : Dk w d m L fr N) (x : Int) (t : TypeId) : KArg (w.alloc (.cells #[.int .i64 x] t)) (some ⟨w.heap.size, 0, none⟩) [x] (Ft d m L) := fun _ => by
  refine ⟨w.heap.size, 0, rfl, by simp, fun hi => Nat.lt_irrefl _ (h.lt hi), fun i hi => ?_⟩
  have : i = 0 := by simpa using hi
  subst this
  simp

end Go.Proofs.YtpldfakfgngaaaaGreatDoor

namespace Go.Proofs.YtpldfakfgngaaaaGreatDoor
open Go.RowKit

/-- The law's four names. -/
def nmK : Nat → List UInt8
  | 0 => [97]
  | 1 => [98]
  | 2 => [97, 98]
  | _ => [99]
theorem nmK_inj {j k : Nat} (hj : j < 4) (hk : k < 4) (e : nmK j = nmK k) : j = k := by
  have : ∀ a, a < 4 → ∀ b, b < 4 → nmK a = nmK b → a = b := by decide
  exact this j hj k hk e
theorem nmK_ok {k : Nat} (hk : k < 4) : okN (nmK k) = true := by
  have : ∀ a, a < 4 → okN (nmK a) = true := by decide
  exact this k hk
theorem nmK_len {k : Nat} (hk : k < 4) : (nmK k).length ≤ maxLen := by
  have : ∀ a, a < 4 → (nmK a).length ≤ 2 := by decide
  have := this k hk
  unfold maxLen; omega
/-- Texts in a block. -/
def SB (w : World) (g : Nat) (xs : List (List UInt8)) : Prop := w.heap[g]? = some (.cells (xs.map fun l => Value.string (bstr l)).toArray 9 (0, 0))
theorem SB.cell {w : World} {g : Nat} {xs : List (List UInt8)} (h : SB w g xs) {k : Nat} (hk : k < xs.length) : w.cell? ⟨g, k, none⟩ = some (.string (bstr xs[k])) := by
  rw [(cells_block h).1 k]
  simp [hk]
theorem SB.set {w : World} {g : Nat} {xs : List (List UInt8)} (h : SB w g xs) (k : Nat) (l : List UInt8) : SB (w.setCell ⟨g, k, none⟩ (.string (bstr l))) g (xs.set k l) := by
  unfold SB
  rw [block_set h k]
  simp [List.map_set]
theorem SB.kept {w w' : World} {d m fr N : Nat} {L : List Fl} (hD : Dk w d m L fr N) (hk : Kp w w' (Ft d m L)) {g : Nat} {xs : List (List UInt8)} (h : SB w g xs) : SB w' g xs :=
  (hk.block g (Array.getElem?_eq_some_iff.1 h).1 (hD.other h (by decide))).trans h
theorem SB.below {w w' : World} {g : Nat} {xs : List (List UInt8)} (h : SB w g xs) (hb : Below w.heap.size w w') : SB w' g xs := (hb.block g (Array.getElem?_eq_some_iff.1 h).1).trans h
/-- A slice of texts, as an argument: it lies below the block B. -/
def SArg (w : World) (B : Nat) (q : Option Addr) (ls : List (List UInt8)) : Prop := 0 < ls.length → ∃ b off, q = some ⟨b, off, none⟩ ∧ b < B ∧ ∀ i (h : i < ls.length), w.cell? ⟨b, off + i, none⟩ = some (.string (bstr ls[i]))
/-- What there is when so many texts have been put. -/
structure KI (i : Nat) (L : List Fl) (A S : List (List UInt8)) : Prop where
  la : A.length = 4
  ls : S.length = 4
  had : ∀ k (h : k < 4), k < i → ∃ f, lk (nmK k) L = some f ∧ f.bytes = A[k] ∧ f.syn = S[k].length ∧ S[k] = A[k].take f.syn
  not : ∀ k (h : k < 4), i ≤ k → lk (nmK k) L = none ∧ A[k] = [] ∧ S[k] = []
theorem KI.start : KI 0 [] [[], [], [], []] [[], [], [], []] := ⟨rfl, rfl, fun _ _ h => absurd h (Nat.not_lt_zero _), fun k h _ => by
  have : ∀ a, (h : a < 4) → ([[], [], [], []] : List (List UInt8))[a] = [] := by decide
  exact ⟨rfl, this k h, this k h⟩⟩
theorem KI.at {i : Nat} {L : List Fl} {A S : List (List UInt8)} (h : KI i L A S) {k : Nat} (hk : k < 4) : by_ (lk (nmK k) L) = A[k]'(by rw [h.la]; exact hk) ∧ syN (lk (nmK k) L) = (S[k]'(by rw [h.ls]; exact hk)).length ∧ S[k]'(by rw [h.ls]; exact hk) = (A[k]'(by rw [h.la]; exact hk)).take (syN (lk (nmK k) L)) := by
  by_cases hi : k < i
  · obtain ⟨f, h1, h2, h3, h4⟩ := h.had k hk hi
    rw [h1]
    exact ⟨h2, h3, h4⟩
  · obtain ⟨h1, h2, h3⟩ := h.not k hk (by omega)
    rw [h1]
    exact ⟨h2.symm, by rw [h3]; rfl, by rw [h3, h2]; rfl⟩
/-- A text is put. -/
theorem KI.put {i : Nat} {L : List Fl} {A S : List (List UInt8)} (h : KI i L A S) (hs : Srt L) {f' : Fl} {t : List UInt8} (h1 : f'.name = nmK (i % 4)) (h2 : f'.bytes = by_ (lk (nmK (i % 4)) L) ++ t) (h3 : f'.syn = syN (lk (nmK (i % 4)) L)) :
    KI (i + 1) (wth f' L) (A.set (i % 4) (f'.bytes)) S := by
  have hk4 : i % 4 < 4 := Nat.mod_lt _ (by decide)
  have hla := h.la
  have hls := h.ls
  refine ⟨by rw [List.length_set]; exact hla, hls, fun k hk hlt => ?_, fun k hk hle => ?_⟩
  · by_cases e : k = i % 4
    · subst e
      obtain ⟨a1, a2, a3⟩ := h.at hk
      have hl := lk_wth_same hs f'
      rw [h1] at hl
      refine ⟨f', hl, by simp, by rw [h3, a2], ?_⟩
      simp only [List.getElem_set_self]
      rw [h2, h3, a1, List.take_append_of_le_length]
      · exact a3
      · rw [a2, a3, List.length_take]; omega
    · have hki : k < i := by omega
      obtain ⟨f, b1, b2, b3, b4⟩ := h.had k hk hki
      refine ⟨f, ?_, ?_, b3, ?_⟩
      · rw [lk_wth_other hs (by rw [h1]; exact fun e2 => e (nmK_inj hk hk4 e2))]; exact b1
      · rw [List.getElem_set_ne (fun e2 => e e2.symm)]; exact b2
      · rw [List.getElem_set_ne (fun e2 => e e2.symm)]; exact b4
  · have e : k ≠ i % 4 := by omega
    obtain ⟨b1, b2, b3⟩ := h.not k hk (by omega)
    refine ⟨?_, ?_, b3⟩
    · rw [lk_wth_other hs (by rw [h1]; exact fun e2 => e (nmK_inj hk hk4 e2))]; exact b1
    · rw [List.getElem_set_ne (fun e2 => e e2.symm)]; exact b2
/-- It is synced. -/
theorem KI.sync {i : Nat} {L : List Fl} {A S : List (List UInt8)} (h : KI (i + 1) L A S) (hs : Srt L) : KI (i + 1) (synL (nmK (i % 4)) L) A (S.set (i % 4) (A[i % 4]'(by rw [h.la]; exact Nat.mod_lt _ (by decide)))) := by
  have hk4 : i % 4 < 4 := Nat.mod_lt _ (by decide)
  have hla := h.la
  have hls := h.ls
  obtain ⟨f, c1, c2, c3, c4⟩ := h.had (i % 4) hk4 (by omega)
  obtain ⟨hm, hn⟩ := lk_some c1
  have hsy : synL (nmK (i % 4)) L = wth { f with syn := f.bytes.length } L := by simp [synL, c1]
  obtain ⟨f2, hf2, n2, b2, s2⟩ : ∃ f2 : Fl, { f with syn := f.bytes.length } = f2 ∧ f2.name = nmK (i % 4) ∧ f2.bytes = f.bytes ∧ f2.syn = f.bytes.length := ⟨_, rfl, hn, rfl, rfl⟩
  rw [hsy, hf2]
  refine ⟨hla, by rw [List.length_set]; exact hls, fun k hk hlt => ?_, fun k hk hle => ?_⟩
  · by_cases e : k = i % 4
    · subst e
      have hl := lk_wth_same hs f2
      rw [n2] at hl
      refine ⟨f2, hl, by rw [b2, c2], ?_, ?_⟩
      · simp only [List.getElem_set_self]; rw [s2, c2]
      · simp only [List.getElem_set_self]
        rw [s2, c2, List.take_length]
    · obtain ⟨g, b1, b5, b3, b4⟩ := h.had k hk hlt
      refine ⟨g, ?_, b5, ?_, ?_⟩
      · rw [lk_wth_other hs (by rw [n2]; exact fun e2 => e (nmK_inj hk hk4 e2))]; exact b1
      · rw [List.getElem_set_ne (fun e2 => e e2.symm)]; exact b3
      · rw [List.getElem_set_ne (fun e2 => e e2.symm)]; exact b4
  · have e : k ≠ i % 4 := by omega
    obtain ⟨b1, b5, b3⟩ := h.not k hk hle
    refine ⟨?_, b5, ?_⟩
    · rw [lk_wth_other hs (by rw [n2]; exact fun e2 => e (nmK_inj hk hk4 e2))]; exact b1
    · rw [List.getElem_set_ne (fun e2 => e e2.symm)]; exact b3
/-- What a loss of power leaves of a file. -/
theorem Cr.at {ks : List Int} {L L' : List Fl} (h : Cr ks L.length L L') (hs' : Srt L') {s : List UInt8} {f : Fl} (hf : lk s L = some f) : ∃ k v', lk s L' = some (crF k f v') := by
  obtain ⟨hm, hn⟩ := lk_some hf
  obtain ⟨j, hj, e⟩ := List.getElem_of_mem hm
  obtain ⟨v', e2⟩ := h.old j hj hj
  refine ⟨kAt ks j, v', ?_⟩
  have := srt_at hs' (i := j) (by rw [h.len]; exact hj)
  rw [e2, e] at this
  have hn2 : (crF (kAt ks j) f v').name = s := hn
  rw [hn2] at this
  exact this

end Go.Proofs.YtpldfakfgngaaaaGreatDoor

namespace Go.Proofs.YtpldfakfgngaaaaGreatDoor
open Go.RowKit

structure Rs (w w' : World) (d m : Nat) (L : List Fl) (fr N t : Nat) (x : Int) (L' : List Fl) (fr' : Nat) : Prop where
  stp : Stp w w' d m L L' fr' (N + 1)
  sum : fr' + tot L' = fr + tot L
  le : tot L' ≤ tot L + t
  ref : x ≠ 0 → L' = L ∧ fr' = fr
theorem Rs.same {w : World} {d m fr N : Nat} {L : List Fl} (h : Dk w d m L fr N) (t : Nat) (x : Int) : Rs w w d m L fr N t x L fr := ⟨⟨h.mono (Nat.le_succ _), Kp.refl _ _, fun _ h => Or.inl h⟩, rfl, Nat.le_add_right _ _, fun _ => ⟨rfl, rfl⟩⟩
theorem tot_app {L : List Fl} (h : Srt L) {f' : Fl} {s t : List UInt8} (a1 : f'.name = s) (a2 : f'.bytes = by_ (lk s L) ++ t) : tot (wth f' L) = tot L + t.length := by
  cases e : lk s L with
  | none =>
    rw [e] at a2
    rw [tot_wth_new h (by rw [a1]; exact e), a2]; rfl
  | some o =>
    rw [e] at a2
    have := tot_wth_old (f := f') (o := o) h (by rw [a1]; exact e)
    rw [a2] at this
    simp only [by_, List.length_append] at this
    omega

theorem App_r {d m fr N : Nat} {L : List Fl} (s t : List UInt8) (w : World) (h : Dk w d m L fr N) (hfit : fr + tot L ≤ 9223372036854775807) (hb : tot L + t.length ≤ 140737488355328) (hN : N < maxLen) :
    Calls Tryz.prog 31 #[.pointer (some ⟨d, 0, none⟩), .string (bstr s), .string (bstr t)] w fun e w' => ∃ x L' fr', e = .returned (.int .i64 x) ∧ Rs w w' d m L fr N t.length x L' fr' := by
  cases hok : okN s with
  | false =>
    refine (Append_arg s t w h hok).mono ?_
    rintro e w' ⟨rfl, rfl⟩
    exact ⟨2, L, fr, rfl, Rs.same h _ _⟩
  | true =>
    by_cases hf : fr < t.length
    · refine (Append_full s t w h hok hf).mono ?_
      rintro e w' ⟨rfl, rfl⟩
      exact ⟨7, L, fr, rfl, Rs.same h _ _⟩
    · refine (Append_ok s t w h hok (by omega) hb (by omega) hN).mono ?_
      rintro e w' ⟨rfl, f', n1, b1, s1, hS⟩
      have ht := tot_app h.srt n1 b1
      exact ⟨0, _, _, rfl, hS, by omega, by omega, fun h => absurd rfl h⟩

theorem Syn_r {d m fr N : Nat} {L : List Fl} (s : List UInt8) (t : Nat) (w : World) (h : Dk w d m L fr N) (hl : s.length ≤ maxLen) :
    Calls Tryz.prog 58 #[.pointer (some ⟨d, 0, none⟩), .string (bstr s)] w fun e w' => ∃ x L' fr', e = .returned (.int .i64 x) ∧ Rs w w' d m L fr N t x L' fr' := by
  refine (Sync_any s w h hl).mono ?_
  rintro e w' ⟨rfl, hS⟩
  have ht : tot (synL s L) = tot L := by
    unfold synL
    cases e : lk s L with
    | none => rfl
    | some f =>
      obtain ⟨_, rfl⟩ := lk_some e
      have := tot_wth_old (f := { f with syn := f.bytes.length }) (o := f) h.srt e
      have h2 : ({ f with syn := f.bytes.length } : Fl).bytes.length = f.bytes.length := rfl
      simp only
      omega
  refine ⟨_, _, _, rfl, ⟨hS.dk.mono (Nat.le_succ _), hS.kp, hS.ft⟩, by rw [ht], by omega, fun hx => ⟨?_, rfl⟩⟩
  cases e : lk s L with
  | none => simp [synL, e]
  | some f => rw [e] at hx; exact absurd rfl hx

theorem Rem_r {d m fr N : Nat} {L : List Fl} (s : List UInt8) (t : Nat) (w : World) (h : Dk w d m L fr N) (hl : s.length ≤ maxLen) (hfit : fr + tot L ≤ 9223372036854775807) :
    Calls Tryz.prog 59 #[.pointer (some ⟨d, 0, none⟩), .string (bstr s)] w fun e w' => ∃ x L' fr', e = .returned (.int .i64 x) ∧ Rs w w' d m L fr N t x L' fr' := by
  refine (Remove_any s w h hl hfit).mono ?_
  rintro e w' ⟨rfl, hS⟩
  have hs : tot (wto s L) + (by_ (lk s L)).length = tot L := by
    cases e : lk s L with
    | none => rw [wto_none e]; rfl
    | some f => exact tot_wto h.srt e
  refine ⟨_, _, _, rfl, ⟨hS.dk.mono (Nat.le_succ _), hS.kp, hS.ft⟩, by omega, by omega, fun hx => ?_⟩
  cases e : lk s L with
  | none => exact ⟨wto_none e, by simp [by_]⟩
  | some f => rw [e] at hx; exact absurd rfl hx

theorem tot_ren {L : List Fl} (h : Srt L) {f : Fl} {s t : List UInt8} (e : lk s L = some f) (hst : s ≠ t) : tot (wth { f with name := t } (wto s (wto t L))) + (by_ (lk t L)).length = tot L := by
  have hs1 : Srt (wto t L) := wto_srt h
  have a1 : tot (wto t L) + (by_ (lk t L)).length = tot L := by
    cases e2 : lk t L with
    | none => rw [wto_none e2]; rfl
    | some g => exact tot_wto h e2
  have a2 := tot_wto hs1 (by rw [lk_wto_other h hst]; exact e)
  have a3 := tot_wth_new (f := { f with name := t }) (wto_srt hs1 (s := s)) (lk_eq_none fun x hx => (wto_mem.1 (wto_mem.1 hx).1).2)
  have a4 : ({ f with name := t } : Fl).bytes.length = f.bytes.length := rfl
  omega

theorem Ren_r {d m fr N : Nat} {L : List Fl} (s t : List UInt8) (w : World) (h : Dk w d m L fr N) (hl : s.length ≤ maxLen) (hfit : fr + tot L ≤ 9223372036854775807) (hN : N < maxLen) :
    Calls Tryz.prog 74 #[.pointer (some ⟨d, 0, none⟩), .string (bstr s), .string (bstr t)] w fun e w' => ∃ x L' fr', e = .returned (.int .i64 x) ∧ Rs w w' d m L fr N t.length x L' fr' := by
  cases e : lk s L with
  | none =>
    refine (Rename_none s t w h hl e).mono ?_
    rintro e w' ⟨rfl, rfl⟩
    exact ⟨5, L, fr, rfl, Rs.same h _ _⟩
  | some f =>
    cases hok : okN t with
    | false =>
      refine (Rename_arg s t w h hl e hok).mono ?_
      rintro e w' ⟨rfl, rfl⟩
      exact ⟨2, L, fr, rfl, Rs.same h _ _⟩
    | true =>
      by_cases hst : s = t
      · subst hst
        refine (Rename_same s w h hl e).mono ?_
        rintro e w' ⟨rfl, rfl⟩
        exact ⟨0, L, fr, rfl, Rs.same h _ _⟩
      · refine (Rename_ok s t w h hl e hst hok hfit hN).mono ?_
        rintro e' w' ⟨rfl, hS⟩
        have ht := tot_ren h.srt e hst
        exact ⟨0, _, _, rfl, hS, by omega, by omega, fun h => absurd rfl h⟩

/-- A step, as the law has it. -/
structure DoV where
  kind : Int
  name : List UInt8
  data : List UInt8
  kq : Option Addr
  kc : Nat
  keep : List Int
/-- Numbers that lie below the block B. -/
def IAt (w : World) (B : Nat) (q : Option Addr) (ks : List Int) : Prop := 0 < ks.length → ∃ b off, q = some ⟨b, off, none⟩ ∧ b < B ∧ ∀ i (h : i < ks.length), w.cell? ⟨b, off + i, none⟩ = some (.int .i64 ks[i])
/-- A step at a place. -/
structure At4 (w : World) (b o : Nat) (x : DoV) : Prop where
  c0 : w.cell? ⟨b, o, none⟩ = some (.int .i64 x.kind)
  c1 : w.cell? ⟨b, o + 1, none⟩ = some (.string (bstr x.name))
  c2 : w.cell? ⟨b, o + 2, none⟩ = some (.string (bstr x.data))
  c3 : w.cell? ⟨b, o + 3, none⟩ = some (.slice x.kq x.keep.length x.kc)
theorem At4.block {w w' : World} {b o : Nat} {x : DoV} (h : At4 w b o x) (hb : w'.heap[b]? = w.heap[b]?) : At4 w' b o x :=
  ⟨(World.cell?_of_block (a := ⟨b, o, none⟩) hb).trans h.c0, (World.cell?_of_block (a := ⟨b, o + 1, none⟩) hb).trans h.c1, (World.cell?_of_block (a := ⟨b, o + 2, none⟩) hb).trans h.c2, (World.cell?_of_block (a := ⟨b, o + 3, none⟩) hb).trans h.c3⟩
/-- A list of steps, as an argument: it lies below the block B. -/
def DArg (w : World) (B : Nat) (q : Option Addr) (xs : List DoV) : Prop := 0 < xs.length → ∃ b off, q = some ⟨b, off, none⟩ ∧ b < B ∧ ∀ i (h : i < xs.length), At4 w b (off + i * 4) xs[i] ∧ IAt w B xs[i].kq xs[i].keep
def dsm (xs : List DoV) (i : Nat) : Nat := ((xs.take i).map (fun x => x.data.length)).sum
theorem dsm_succ {xs : List DoV} {i : Nat} (h : i < xs.length) : dsm xs (i + 1) = dsm xs i + xs[i].data.length := by
  unfold dsm
  rw [List.take_succ_eq_append_getElem h, List.map_append, List.sum_append]
  rfl
theorem dsm_le (xs : List DoV) (i : Nat) : dsm xs i ≤ (xs.map (fun x => x.data.length)).sum := by
  unfold dsm
  conv => rhs; rw [← List.take_append_drop i xs]
  rw [List.map_append, List.sum_append]
  omega

end Go.Proofs.YtpldfakfgngaaaaGreatDoor

