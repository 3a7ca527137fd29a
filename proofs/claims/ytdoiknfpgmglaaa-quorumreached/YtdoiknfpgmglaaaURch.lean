/-
  The law QuorumReached.
-/
import Derived.Test.YtdoiknfpgmglaaaURchM
namespace Go.Proofs.Ytdoiknfpgmglaaa
open Go.RowKit Go.BigFrame

theorem append_at {P : Program} {w w' : World} {base : Nat} {t ty e : TypeId} {i : TypeInfo} {z : Value} {size bytes : Nat} (ht : P.underlying t = some (.slice e)) (hi : P.info? e = some i) (hz : i.zero = some z) (hsize : i.size = size) (hby : i.bytes = bytes)
    {v v' : Value} {n : Nat} {xs : List Value} (hown : w.ownsRow base e size v n xs) {ad : Addr} {m c : Nat} {news : List Value} (hm : 0 < m) (hl : news.length = m * size) (hnews : ∀ j u, news[j]? = some u → w.cell? (ad.add j) = some u) (h1 : ∀ u ∈ news, u.oneCell' = true)
    (h63 : n + m ≤ maxLen) (hbytes : (n + m) * bytes ≤ 140737488355328) (hr : (Builtin.append_ #[t, t] ty #[v, .slice (some ad) m c]).run P w = .ok v' w') : v'.ownBlock = v.ownBlock ∨ v'.ownBlock = some w.heap.size := by
  have hsmall : n + m ≤ 9223372036854775807 := by simp only [maxLen] at h63; omega
  have hxl : xs.length = n * size := hown.1
  subst hsize hby
  rcases hown.2 with ⟨rfl, rfl⟩ | ⟨g, cap, cur, rfl, hbg, hg, hnc, hcm, hcs, htake⟩
  · have hr2 := run_append_nil (P := P) w t ty e i z ht hi hz ad m c news hl hnews hm (by omega) (by rw [Nat.zero_add] at hbytes; omega)
    rw [hr2] at hr
    cases hr
    exact Or.inr rfl
  · by_cases hroom : n + m ≤ cap
    · have hfit : n * i.size + news.length ≤ cur.size := by
        rw [hl, hcs, ← Nat.add_mul]
        exact Nat.mul_le_mul_right _ hroom
      have hr2 := run_append_room (P := P) w t ty e i ht hi g n cap cur hg ad m c news hl hnews h1 hroom hfit
      rw [hr2] at hr
      cases hr
      exact Or.inl rfl
    · have holds : ∀ j u, xs[j]? = some u → w.cell? ((⟨g, 0, none⟩ : Addr).add j) = some u := hown.cells (g := g) rfl
      have hr2 := run_append_grow (P := P) w t ty e i z ht hi hz ⟨g, 0, none⟩ n cap xs hxl holds ad m c news hl hnews (by omega) (by omega) (growslice_fits (by omega) hbytes)
      rw [hr2] at hr
      cases hr
      exact Or.inr rfl
theorem wpList_app {P : Program} {w : World} {ops : Array Oper} {rest : List Oper} {o : Oper} {a : Act} {Q : Exit → Act → World → Prop} (hgd : o.guard = none) (s x : Operand) (t : TypeId)
    (ho : o.op = .call { callee := .builtin .append, args := #[s, x], argTypes := #[t, t] }) (base : Nat) (e : TypeId) (i : TypeInfo) (z : Value) (size bytes : Nat) (h1 : P.underlying t = some (.slice e)) (h2 : P.info? e = some i) (h3 : i.zero = some z) (h4 : i.size = size) (h5 : i.bytes = bytes) (h6 : z.cells.size = size) (h7 : 0 < size)
    (v : Value) (k : Nat) (xs : List Value) (hs : a.eval s = v) (hown : w.ownsRow base e size v k xs) (ad : Addr) (m c : Nat) (news : List Value) (hm : 0 < m) (hx : a.eval x = .slice (some ad) m c) (hn : news.length = m * size)
    (hc : ∀ j u, news[j]? = some u → w.cell? (ad.add j) = some u) (h1c : ∀ u ∈ news, u.oneCell' = true) (b1 : k + m ≤ maxLen) (b2 : (k + m) * bytes ≤ 140737488355328) (b3 : base ≤ w.heap.size)
    (hK : ∀ v' w', w'.ownsRow base e size v' (k + m) (xs ++ news) → w.grownBy w' v.ownBlock → (v'.ownBlock = v.ownBlock ∨ v'.ownBlock = some w.heap.size) → wpList P ops Q rest (a.put o.dst v') w') : wpList P ops Q (o :: rest) a w := by
  refine wpList_plain hgd fun K hK' => ?_
  obtain ⟨v', w', hrun, r1, r2, r3⟩ := run_append_own (P := P) w base t o.type e i z size bytes h1 h2 h3 h4 h5 h6 h7 v k xs hown ad m c news hn hc h1c b1 b2 b3
  have hw := append_at (P := P) h1 h2 h3 h4 h5 hown hm hn hc h1c b1 b2 hrun
  unfold Oper.wp
  simp [execOp, ho, resolve, invoke, builtin, hs, hx, hrun, Result.andThen]
  exact hK' _ _ (hK v' w' r1 r2 hw)

/-- Numbers at the head of a block. -/
def UCur (w : World) (g : Nat) (L : List Nat) : Prop := ∃ cur, w.heap[g]? = some (.cells cur 32 (0, 0)) ∧ ∀ i (h : i < L.length), cur[i]? = some (.int .u64 (L[i] : Int))
theorem own_ucur {w : World} {B n : Nat} {v : Value} {L : List Nat} (h : w.ownsRow B 32 1 v n (ucells L)) (hn : n = L.length) (h0 : 0 < n) : ∃ g cap, v = .slice (some ⟨g, 0, none⟩) L.length cap ∧ B ≤ g ∧ UCur w g L := by
  subst hn
  rcases h.2 with ⟨_, e⟩ | ⟨g, cap, cur, rfl, hbg, hg, hnc, hcm, hcs, htake⟩
  · omega
  · refine ⟨g, cap, rfl, hbg, cur, hg, fun i hi => ?_⟩
    have h2 := h.cells (g := g) rfl i (.int .u64 (L[i] : Int)) (by simp [ucells, hi])
    rw [Addr.add_lit, Nat.zero_add, (mcells hg).1] at h2
    exact h2
theorem UCur.below {w w' : World} {g : Nat} {L : List Nat} (h : UCur w g L) (hb : Below w.heap.size w w') : UCur w' g L := by
  obtain ⟨cur, h1, h2⟩ := h
  exact ⟨cur, (hb.block g (blk_lt h1)).trans h1, h2⟩
theorem UCur.drew {w : World} {g : Nat} {L : List Nat} (h : UCur w g L) : UCur w.drew g L := h
theorem UCur.cell {w : World} {g : Nat} {L : List Nat} (h : UCur w g L) (i : Nat) (hi : i < L.length) : w.cell? ⟨g, i, none⟩ = some (.int .u64 (L[i] : Int)) ∧ w.frozen? ⟨g, i, none⟩ = false := by
  obtain ⟨cur, h1, h2⟩ := h
  exact ⟨((mcells h1).1 i).trans (h2 i hi), (mcells h1).2 i⟩
theorem UCur.arg {w : World} {g : Nat} {L : List Nat} (h : UCur w g L) : UArg w (some ⟨g, 0, none⟩) L := fun _ => ⟨g, 0, rfl, fun i hi => by rw [Nat.zero_add]; exact (h.cell i hi).1⟩
theorem UCur.lt {w : World} {g : Nat} {L : List Nat} (h : UCur w g L) : g < w.heap.size := by
  obtain ⟨cur, h1, _⟩ := h
  exact blk_lt h1
theorem UCur.set {w : World} {g : Nat} {L : List Nat} (h : UCur w g L) (k v : Nat) (hk : k < L.length) : UCur (w.setCell ⟨g, k, none⟩ (.int .u64 (v : Int))) g (L.set k v) := by
  obtain ⟨cur, h1, h2⟩ := h
  refine ⟨_, heap_set_same h1 _, fun i hi => ?_⟩
  rw [List.length_set] at hi
  rw [Array.getElem?_setIfInBounds]
  by_cases e : k = i
  · subst e
    have : k < cur.size := by
      have := h2 k hk
      exact (Array.getElem?_eq_some_iff.1 this).1
    simp [this]
  · rw [if_neg e, h2 i hi, List.getElem_set_ne e]
theorem app_apart {v v' u : Value} {n : Nat} (h : ∀ k, v.ownBlock = some k → u.ownBlock ≠ some k) (hv : v'.ownBlock = v.ownBlock ∨ v'.ownBlock = some n) (hu : ∀ k, u.ownBlock = some k → k < n) : ∀ k, v'.ownBlock = some k → u.ownBlock ≠ some k := fun k hk e => by
  rcases hv with hv | hv
  · exact h k (hv.symm.trans hk) e
  · rw [hv] at hk
    cases hk
    exact absurd (hu _ e) (Nat.lt_irrefl _)
theorem app_apart2 {v v' u : Value} {n : Nat} (h : ∀ k, u.ownBlock = some k → v.ownBlock ≠ some k) (hv : v'.ownBlock = v.ownBlock ∨ v'.ownBlock = some n) (hu : ∀ k, u.ownBlock = some k → k < n) : ∀ k, u.ownBlock = some k → v'.ownBlock ≠ some k := fun k hk e => by
  rcases hv with hv | hv
  · exact h k hk (hv.symm.trans e)
  · rw [hv] at e
    cases e
    exact absurd (hu _ hk) (Nat.lt_irrefl _)
theorem own_side {w w' : World} {B sz n : Nat} {e : TypeId} {v : Value} {xs : List Value} {u : Value} (h : w.ownsRow B e sz v n xs) (hg : w.grownBy w' u.ownBlock) (ha : ∀ k, v.ownBlock = some k → u.ownBlock ≠ some k) : w'.ownsRow B e sz v n xs := by
  rcases h.2 with h0 | ⟨g, cap, cur, rfl, hbg, hg2, r⟩
  · exact ⟨h.1, .inl h0⟩
  · exact ⟨h.1, .inr ⟨g, cap, cur, rfl, hbg, (hg.block g (blk_lt hg2) (fun e => ha g rfl e.symm)).trans hg2, r⟩⟩

set_option maxHeartbeats 16000000 in
set_option maxRecDepth 100000 in
theorem QReached_any (a f0 f1 f2 f3 f4 y : Nat) (w : World) (ha : a < 256) (hf0 : f0 < 18446744073709551616) (hf1 : f1 < 18446744073709551616) (hf2 : f2 < 18446744073709551616) (hf3 : f3 < 18446744073709551616) (hf4 : f4 < 18446744073709551616) (hy : y < 256) :
    Calls Try.prog 7 #[.int .u8 (a : Int), .agg #[.int .u64 (f0 : Int), .int .u64 (f1 : Int), .int .u64 (f2 : Int), .int .u64 (f3 : Int), .int .u64 (f4 : Int)], .int .u8 (y : Int)] w fun e w' => e = .returned (.bool true) ∧ Below w.heap.size w w' := by
  obtain ⟨i0, hi0, hz0, hz1, hz2⟩ := info_parts Try.infoInt
  obtain ⟨j0, hj0, hu0, hu1, hu2⟩ := info_parts Try.infoU64
  obtain ⟨M, hM⟩ : ∃ M, M = 1 + a % 31 := ⟨_, rfl⟩
  have hM1 : M < 32 := by omega
  have hM0 : 0 < M := by omega
  have hmA := fun w => members_any a w ha
  rw [← hM] at hmA
  have hlM : (lst M).length ≤ 5 := lstI_len _ 5
  have hlm0 : 0 < (lst M).length := by rw [lst_len M hM1]; exact (pop_pos M hM1 hM0).1
  obtain ⟨F, hF⟩ : ∃ F : List Nat, F = [f0, f1, f2, f3, f4] := ⟨_, rfl⟩
  have hF5 : F.length = 5 := by rw [hF]; rfl
  have HFB : Hid (∀ x ∈ F, x < 18446744073709551616) := by
    show ∀ x ∈ F, x < 18446744073709551616
    intro x hx
    rw [hF] at hx
    simp only [List.mem_cons, List.not_mem_nil, or_false] at hx
    rcases hx with rfl | rfl | rfl | rfl | rfl <;> assumption
  have hC0 : ∀ i (h : i < F.length), (w.alloc (.cells #[.int .u64 (f0 : Int), .int .u64 (f1 : Int), .int .u64 (f2 : Int), .int .u64 (f3 : Int), .int .u64 (f4 : Int)] 41)).cell? ⟨w.heap.size, i, none⟩ = some (.int .u64 (F[i] : Int)) := by
    intro i hi
    rw [(mcells (heap_alloc_new w _)).1 i]
    subst hF
    rcases (by simp at hi; omega : i = 0 ∨ i = 1 ∨ i = 2 ∨ i = 3 ∨ i = 4) with rfl | rfl | rfl | rfl | rfl <;> rfl
  have hb0 := bel_alloc (Below.refl w.heap.size w) (Nat.le_refl _) (.cells #[.int .u64 (f0 : Int), .int .u64 (f1 : Int), .int .u64 (f2 : Int), .int .u64 (f3 : Int), .int .u64 (f4 : Int)] 41)
  have hN0 : w.heap.size < (w.alloc (.cells #[.int .u64 (f0 : Int), .int .u64 (f1 : Int), .int .u64 (f2 : Int), .int .u64 (f3 : Int), .int .u64 (f4 : Int)] 41)).heap.size := by simp
  clear hM hF hf0 hf1 hf2 hf3 hf4
  go_enter Try.func7, Try.ntmps7
  go_wp2_with fail
  refine (hmA _).mono ?_
  rintro e w1 ⟨v, rfl, hown, hb1⟩
  obtain ⟨_, p1, c1, rfl, hI1⟩ := own_iarg hown
  have hB1 := below2 hb0 hb1
  have hC1 : ∀ i (h : i < F.length), w1.cell? ⟨w.heap.size, i, none⟩ = some (.int .u64 (F[i] : Int)) := fun i h => cell_below hb1 (hC0 i h)
  have hN1 : w.heap.size < w1.heap.size := Nat.lt_of_lt_of_le hN0 hb1.size
  clear hC0 hb0 hb1 hown hmA hN0
  have HC1 : Hid _ := hC1
  clear hC1
  go_wp2
  go_loopw [8, 9] (fun s8 s9 wr => ∃ i : Nat, s9 = .int .i64 (i : Int) ∧ i ≤ (lst M).length ∧ wr.ownsRow w1.heap.size 32 1 s8 i (ucells (F.take i)) ∧ Below w1.heap.size w1 wr) (fun _ s9 _ => (lst M).length - (intOf s9).toNat)
  case atStart => exact ⟨0, rfl, Nat.zero_le _, World.ownsRow_nil .., Below.refl _ _⟩
  case round =>
    obtain ⟨i, rfl, hil, hown, hbr⟩ := hrel
    by_cases hlt : i < (lst M).length
    · have hi1 : (i : Int) < ((lst M).length : Int) := by omega
      have hi5 : (i : Int) < 5 := by omega
      have hiF : i < F.length := by omega
      have c0 := cell_below hbr (HC1.out i hiF)
      have HT : Hid (F.take (i + 1) = F.take i ++ [F[i]]) := List.take_succ_eq_append_getElem hiF
      obtain ⟨z, hz⟩ : ∃ z, z = F[i] := ⟨_, rfl⟩
      rw [← hz] at c0 HT
      have hsz := hbr.size
      have y3 : Hid (i + 1 ≤ maxLen) := by show _ ≤ _; unfold maxLen; omega
      have y4 : Hid ((i + 1) * 8 ≤ 140737488355328) := by show _ ≤ _; omega
      have y5 : Hid (w1.heap.size ≤ (wr.alloc (.cells #[.int .u64 (z : Int)] 32)).heap.size) := by show _ ≤ _; simp; omega
      clear hz hsz
      go_wp2_with (at_builtin; refine wpList_append_own _ rfl _ _ 31 rfl w1.heap.size 32 j0 (.int .u64 0) 1 8 Try.underlying31 hj0 hu0 hu1 hu2 rfl (by decide) _ _ _ rfl (hown.alloc _) ⟨wr.heap.size, 0, none⟩ 1 1 [.int .u64 (z : Int)] rfl rfl (news_one _ _ _) (one_int _ _) y3.out y4.out y5.out ?_)
      intro v4 w4 hown4 hgr4 _
      have hbw4 : Below w1.heap.size w1 w4 := (bel_alloc hbr (Nat.le_refl _) _).grown hgr4 (by have := hbr.size; simp; omega) (fun k hk => (hown.lt k hk).1)
      have hown5 : w4.ownsRow w1.heap.size 32 1 v4 (i + 1) (ucells (F.take (i + 1))) := by
        rw [HT.out, ucells_append]
        exact hown4
      clear hown hown4 hgr4
      go_wp2
      go_roundw
      case rel => exact ⟨i + 1, by go_num, by omega, hown5, hbw4⟩
      case measure => simp [intOf]; omega
    · obtain rfl : i = (lst M).length := by omega
      obtain ⟨L, hL⟩ : ∃ L, L = F.take (lst M).length := ⟨_, rfl⟩
      rw [← hL] at hown
      have hLn : L.length = (lst M).length := by rw [hL, List.length_take]; omega
      have HLB : Hid (∀ x ∈ L, x < 18446744073709551616) := fun x hx => HFB.out x (by rw [hL] at hx; exact List.mem_of_mem_take hx)
      obtain ⟨g, cp, rfl, hgB, hU⟩ := own_ucur hown hLn.symm hlm0
      have HLN : Hid _ := hLn
      have hJ1 := hI1
      have hI1 := hI1.below hbr
      have hB2 := hbr
      clear hL hLn hown hbr HC1 HFB hF5
      have hCC := Commit_any p1 c1 (lst M) (some ⟨g, 0, none⟩) cp L wr hI1 (by omega) hU.arg
      rw [pad_full HLN.out] at hCC
      go_wp2_with fail
      refine hCC.mono ?_
      rintro e w5 ⟨⟨c, rfl, _, hc⟩, hb5⟩
      have HCM : Hid (IsCom (most (lst M)) L c) := hc (chk_lst M hM1 hM0)
      have HRW : Hid _ := reached_wins hM1 hM0 HLN.out.symm HCM.out
      have hI1 := hI1.below hb5
      have hU := hU.below hb5
      have hB5 := below2 hB2 hb5
      clear hCC hc hb5 hB2
      go_wp2
      go_loopw [11, 12, 13] (fun s11 s12 s13 wr => ∃ i : Nat, s13 = .int .i64 (i : Int) ∧ i ≤ (lst M).length ∧ wr.ownsRow w5.heap.size 3 1 s11 (sel (lst M) L (fun x => decide (c ≤ x)) i).length (icells (sel (lst M) L (fun x => decide (c ≤ x)) i)) ∧ wr.ownsRow w5.heap.size 3 1 s12 (sel (lst M) L (fun x => decide (c < x)) i).length (icells (sel (lst M) L (fun x => decide (c < x)) i)) ∧ Hid (∀ k, s11.ownBlock = some k → s12.ownBlock ≠ some k) ∧ Below w5.heap.size w5 wr) (fun _ _ s13 _ => (lst M).length - (intOf s13).toNat)
      case atStart => exact ⟨0, rfl, Nat.zero_le _, World.ownsRow_nil .., World.ownsRow_nil .., (fun k h => absurd h (by simp [Value.ownBlock]) : ∀ k, (Value.slice none 0 0).ownBlock = some k → (Value.slice none 0 0).ownBlock ≠ some k), Below.refl _ _⟩
      case round =>
        obtain ⟨i, rfl, hil, h11, h12, hap, hbr⟩ := hrel
        by_cases hlt : i < (lst M).length
        · have hi1 : (i : Int) < ((lst M).length : Int) := by omega
          have hiL : i < L.length := by rw [HLN.out]; exact hlt
          have hi2 : (i : Int) < (L.length : Int) := by omega
          have cx := ((hU.below hbr).cell i hiL).1
          obtain ⟨b, off, rfl, hr⟩ := hI1 (by omega)
          have cz5 := hr i hlt
          have HR1 : Hid (c ≤ L[i] → sel (lst M) L (fun x => decide (c ≤ x)) (i + 1) = sel (lst M) L (fun x => decide (c ≤ x)) i ++ [(lst M)[i]]) := fun h => sel_yes hlt hiL (decide_eq_true h)
          have HR2 : Hid (¬ c ≤ L[i] → sel (lst M) L (fun x => decide (c ≤ x)) (i + 1) = sel (lst M) L (fun x => decide (c ≤ x)) i) := fun h => sel_no hiL (decide_eq_false h)
          have HA1 : Hid (c < L[i] → sel (lst M) L (fun x => decide (c < x)) (i + 1) = sel (lst M) L (fun x => decide (c < x)) i ++ [(lst M)[i]]) := fun h => sel_yes hlt hiL (decide_eq_true h)
          have HA2 : Hid (¬ c < L[i] → sel (lst M) L (fun x => decide (c < x)) (i + 1) = sel (lst M) L (fun x => decide (c < x)) i) := fun h => sel_no hiL (decide_eq_false h)
          have hl11 := sel_len (lst M) L (fun x => decide (c ≤ x)) i
          have hl12 := sel_len (lst M) L (fun x => decide (c < x)) i
          generalize sel (lst M) L (fun x => decide (c ≤ x)) i = S1 at *
          generalize sel (lst M) L (fun x => decide (c < x)) i = S2 at *
          obtain ⟨x, hx⟩ : ∃ x, x = L[i] := ⟨_, rfl⟩
          obtain ⟨z, hz⟩ : ∃ z, z = (lst M)[i] := ⟨_, rfl⟩
          rw [← hx] at cx HR1 HR2 HA1 HA2
          have HX : Hid _ := hx
          rw [← hz] at cz5 HR1 HA1
          have cz := cell_below hbr cz5
          clear hx hz hr
          have hsz := hbr.size
          obtain ⟨n1, hn1⟩ : ∃ n1, n1 = S1.length := ⟨_, rfl⟩
          obtain ⟨n2, hn2⟩ : ∃ n2, n2 = S2.length := ⟨_, rfl⟩
          rw [← hn1] at h11 hl11
          rw [← hn2] at h12 hl12
          have HN1 : Hid _ := hn1
          have HN2 : Hid _ := hn2
          clear hn1 hn2
          have y3 : Hid (n1 + 1 ≤ maxLen) := by show _ ≤ _; unfold maxLen; omega
          have y4 : Hid ((n1 + 1) * 8 ≤ 140737488355328) := by show _ ≤ _; omega
          have y5 : Hid (w5.heap.size ≤ (wr.alloc (.cells #[.int .i64 z] 3)).heap.size) := by show _ ≤ _; simp; omega
          have z3 : Hid (n2 + 1 ≤ maxLen) := by show _ ≤ _; unfold maxLen; omega
          have z4 : Hid ((n2 + 1) * 8 ≤ 140737488355328) := by show _ ≤ _; omega
          clear hl11 hl12
          by_cases hcx : c ≤ x
          · have hcx' : (c : Int) ≤ (x : Int) := by omega
            have HE1 : Hid _ := HR1.out hcx
            go_wp2_with (at_builtin; refine wpList_app rfl _ _ 22 rfl w5.heap.size 3 i0 (.int .i64 0) 1 8 Try.underlying22 hi0 hz0 hz1 hz2 rfl (by decide) _ _ _ rfl (h11.alloc _) ⟨wr.heap.size, 0, none⟩ 1 1 [.int .i64 z] (by decide) rfl rfl (news_one _ _ _) (one_int _ _) y3.out y4.out y5.out ?_)
            intro v4 w4 h11' hgr4 hor4
            have hbw4 : Below w5.heap.size w5 w4 := (bel_alloc hbr (Nat.le_refl _) _).grown hgr4 (by simp; omega) (fun k hk => (h11.lt k hk).1)
            have h12a := h12.alloc (.cells #[.int .i64 z] 3)
            have h12' := own_side h12a hgr4 (fun k hk e => hap.out k e hk)
            have hap4 : Hid (∀ k, v4.ownBlock = some k → u12.ownBlock ≠ some k) := app_apart hap.out hor4 (fun k hk => by have := (h12a.lt k hk).2; simpa using this)
            have cx4 := ((hU.below hbw4).cell i hiL).1
            rw [← HX.out] at cx4
            have cz4 := cell_below hbw4 cz5
            have h11'' : w4.ownsRow w5.heap.size 3 1 v4 (sel (lst M) L (fun x => decide (c ≤ x)) (i + 1)).length (icells (sel (lst M) L (fun x => decide (c ≤ x)) (i + 1))) := by
              rw [HE1.out, icells_append, List.length_append, ← HN1.out]
              exact h11'
            have hsz4 := hbw4.size
            have z5 : Hid (w5.heap.size ≤ (w4.alloc (.cells #[.int .i64 z] 3)).heap.size) := by show _ ≤ _; simp; omega
            clear h11 h12 h11' h12a hgr4 hor4 hap cx cz hsz hcx HR1 HR2 HE1 y3 y4 y5 HN1
            by_cases hcz : c < x
            · have hcz' : (c : Int) < (x : Int) := by omega
              have HE2 : Hid _ := HA1.out hcz
              clear HA1 HA2 hcz
              go_wp2_with (at_builtin; refine wpList_app rfl _ _ 22 rfl w5.heap.size 3 i0 (.int .i64 0) 1 8 Try.underlying22 hi0 hz0 hz1 hz2 rfl (by decide) _ _ _ rfl (h12'.alloc _) ⟨w4.heap.size, 0, none⟩ 1 1 [.int .i64 z] (by decide) rfl rfl (news_one _ _ _) (one_int _ _) z3.out z4.out z5.out ?_)
              intro v6 w6 h12'' hgr6 hor6
              have hbw6 : Below w5.heap.size w5 w6 := (bel_alloc hbw4 (Nat.le_refl _) _).grown hgr6 (by simp; omega) (fun k hk => (h12'.lt k hk).1)
              have h11a := h11''.alloc (.cells #[.int .i64 z] 3)
              have h116 := own_side h11a hgr6 hap4.out
              have hap6 : Hid (∀ k, v4.ownBlock = some k → v6.ownBlock ≠ some k) := app_apart2 hap4.out hor6 (fun k hk => by have := (h11a.lt k hk).2; simpa using this)
              have h126 : w6.ownsRow w5.heap.size 3 1 v6 (sel (lst M) L (fun x => decide (c < x)) (i + 1)).length (icells (sel (lst M) L (fun x => decide (c < x)) (i + 1))) := by
                rw [HE2.out, icells_append, List.length_append, ← HN2.out]
                exact h12''
              clear h11'' h12' h12'' hgr6 hor6 h11a hap4 cx4 cz4 HE2 z3 z4 z5 HN2
              go_wp2
              go_roundw
              case rel => exact ⟨i + 1, by go_num, by omega, h116, h126, hap6, hbw6⟩
              case measure => simp [intOf]; omega
            · have hcz' : ¬ (c : Int) < (x : Int) := by omega
              have HE2 : Hid _ := HA2.out hcz
              have h126 : w4.ownsRow w5.heap.size 3 1 u12 (sel (lst M) L (fun x => decide (c < x)) (i + 1)).length (icells (sel (lst M) L (fun x => decide (c < x)) (i + 1))) := by
                rw [HE2.out, ← HN2.out]
                exact h12'
              clear HA1 HA2 hcz h12' HE2 z3 z4 z5 HN2
              go_wp2
              go_roundw
              case rel => exact ⟨i + 1, by go_num, by omega, h11'', h126, hap4, hbw4⟩
              case measure => simp [intOf]; omega
          · have hcx' : ¬ (c : Int) ≤ (x : Int) := by omega
            have hcz' : ¬ (c : Int) < (x : Int) := by omega
            have HE1 : Hid _ := HR2.out hcx
            have HE2 : Hid _ := HA2.out (by omega)
            have h116 : wr.ownsRow w5.heap.size 3 1 u11 (sel (lst M) L (fun x => decide (c ≤ x)) (i + 1)).length (icells (sel (lst M) L (fun x => decide (c ≤ x)) (i + 1))) := by
              rw [HE1.out, ← HN1.out]
              exact h11
            have h126 : wr.ownsRow w5.heap.size 3 1 u12 (sel (lst M) L (fun x => decide (c < x)) (i + 1)).length (icells (sel (lst M) L (fun x => decide (c < x)) (i + 1))) := by
              rw [HE2.out, ← HN2.out]
              exact h12
            clear HR1 HR2 HA1 HA2 HE1 HE2 hcx h11 h12 y3 y4 y5 z3 z4 HN1 HN2 cz5 hsz
            go_wp2
            go_roundw
            case rel => exact ⟨i + 1, by go_num, by omega, h116, h126, hap, hbr⟩
            case measure => simp [intOf]; omega
        · obtain rfl : i = (lst M).length := by omega
          have hl11 := sel_len (lst M) L (fun x => decide (c ≤ x)) (lst M).length
          have hl12 := sel_len (lst M) L (fun x => decide (c < x)) (lst M).length
          have hrw := HRW.out
          generalize sel (lst M) L (fun x => decide (c ≤ x)) (lst M).length = S1 at *
          generalize sel (lst M) L (fun x => decide (c < x)) (lst M).length = S2 at *
          obtain ⟨_, q11, c11, rfl, hI11⟩ := own_iarg h11
          obtain ⟨_, q12, c12, rfl, hI12⟩ := own_iarg h12
          have hI1 := hI1.below hbr
          have hU := hU.below hbr
          have hB6 := below2 hB5 hbr
          have hW1 := Wins_any p1 c1 (lst M) q11 c11 S1 wr hI1 (by omega) hI11 (by omega)
          have hW2 := fun w h h' => Wins_any p1 c1 (lst M) q12 c12 S2 w h (by omega) h' (by omega)
          rw [hrw.1] at hW1
          rw [hrw.2] at hW2
          clear h11 h12 hap hbr hB5 hrw HRW hI11
          go_wp2_with fail
          refine hW1.mono ?_
          rintro e w7 ⟨rfl, hb7⟩
          have hI1 := hI1.below hb7
          have hI12 := hI12.below hb7
          have hU := hU.below hb7
          have hB7 := below2 hB6 hb7
          clear hW1 hb7 hB6
          go_wp2_with fail
          refine (hW2 w7 hI1 hI12).mono ?_
          rintro e w8 ⟨rfl, hb8⟩
          have hI1 := hI1.below hb8
          have hU := hU.below hb8
          have hB8 := below2 hB7 hb8
          clear hW2 hb8 hB7 hI12 hl11 hl12
          obtain ⟨k, hk⟩ : ∃ k, k = y % (lst M).length := ⟨_, rfl⟩
          have hk1 : k < (lst M).length := by rw [hk]; exact Nat.mod_lt _ hlm0
          have HKE : Hid ((y : Int) % ((lst M).length : Int) = (k : Int)) := by show _ = _; rw [hk, Int.natCast_emod]
          clear hk
          have hne : ¬ ((lst M).length : Int) = 0 := by omega
          go_upto_region 19 with fail
          rw [HKE.out]
          have hkL : k < L.length := by rw [HLN.out]; exact hk1
          have hk2 : (k : Int) < (L.length : Int) := by omega
          obtain ⟨ck, fk⟩ := hU.cell k hkL
          have hUS := hU.set k
          have HLK : Hid (L[k] < 18446744073709551616) := HLB.out _ (List.getElem_mem hkL)
          have HRS : Hid (∀ v d, L[k] ≤ v → IsCom (most (lst M)) (L.set k v) d → c ≤ d) := fun v d h h2 => com_rise hkL h HCM.out h2
          have HSELF : Hid (UCur w8 g (L.set k L[k])) := by
            show UCur w8 g (L.set k L[k])
            rw [List.set_getElem_self]
            exact hU
          obtain ⟨x, hx⟩ : ∃ x, x = L[k] := ⟨_, rfl⟩
          rw [← hx] at ck HLK HRS HSELF
          have hx64 := HLK.out
          clear hx HCM HLB
          obtain ⟨bb, hbb⟩ : ∃ bb, decide ((x : Int) < 9223372036854775808) = bb := ⟨_, rfl⟩
          go_upto_if 82 with fail
          try rw [hbb]
          go_cut [] from 83 to 96 (fun wx => ∃ v : Nat, Hid (x ≤ v) ∧ UCur wx g (L.set k v) ∧ Below w1.heap.size w1 wx)
          case first =>
            cases bb with
            | true =>
              have hxl : (x : Int) < 9223372036854775808 := of_decide_eq_true hbb
              have HXL : Hid _ := hxl
              clear hxl
              clear HRS hbb hx64
              go_wp2
              go_region
              have e9 : IntKind.u64.wrap (IntKind.u64.wrap ((x : Int) + 1) + IntKind.u64.wrap ((x : Int) / 3)) = ((x + 1 + x / 3 : Nat) : Int) := by
                have := HXL.out
                rw [IntKind.wrap_u64, IntKind.wrap_u64, IntKind.wrap_u64]
                omega
              rw [e9]
              have hU9 : UCur (w8.setCell ⟨g, k, none⟩ (.int .u64 ((x + 1 + x / 3 : Nat) : Int))).drew g (L.set k (x + 1 + x / 3)) := hUS _ hkL
              have hB9 : Below w1.heap.size w1 (w8.setCell ⟨g, k, none⟩ (.int .u64 ((x + 1 + x / 3 : Nat) : Int))).drew := (bel_set hB8 hgB).drew
              go_wp2
              go_meet
              case rel => exact ⟨x + 1 + x / 3, by show x ≤ _; omega, hU9, hB9⟩
            | false =>
              clear HRS hbb hx64
              go_wp2
              go_meet
              case rel => exact ⟨x, Nat.le_refl _, HSELF.out, hB8⟩
          case rest =>
            obtain ⟨v, hxv, hU9, hB9⟩ := hcut
            have hI9 := hJ1.below hB9
            have hCC := Commit_any p1 c1 (lst M) (some ⟨g, 0, none⟩) cp (L.set k v) _ hI9 (by omega) hU9.arg
            have hSl : (L.set k v).length = (lst M).length := by rw [List.length_set, HLN.out]
            rw [pad_full hSl] at hCC
            rw [List.length_set] at hCC
            clear hSl hU9 hI9 hbb ck fk hUS HSELF
            go_wp2_with fail
            refine hCC.mono ?_
            rintro e w10 ⟨⟨d, rfl, _, hd⟩, hb10⟩
            have hcd : (c : Int) ≤ (d : Int) := by
              have := HRS.out v d hxv.out (hd (chk_lst M hM1 hM0))
              omega
            have hB10 := hB9.trans (hb10.mono hB9.size)
            clear hCC hd hb10
            go_wp2_with fail
            refine (works_any w10).mono ?_
            rintro e w11 ⟨rfl, hb⟩
            have hB11 := below2 hB1 (hB10.trans (hb.mono hB10.size))
            go_wp2
            go_ret
            exact ⟨rfl, hB11⟩

end Go.Proofs.Ytdoiknfpgmglaaa
