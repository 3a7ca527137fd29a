/-
  Rows of texts that a call owns; the law's own cut.
-/
import Derived.Test.YtiingodillcleaaBWks
import Derived.Deep.RegionLaw
namespace Go.Proofs.Ytiingodillcleaa
open Go.RowKit
attribute [local go_sem] size_bstr getElem_bstr toList_bstr

/-- An append onto a row that is owned: where it lies behind it. -/
theorem append_at {P : Program} {w w' : World} {base : Nat} {t ty e : TypeId} {i : TypeInfo} {z : Value} {size bytes : Nat} (ht : P.underlying t = some (.slice e)) (hi : P.info? e = some i) (hz : i.zero = some z) (hsize : i.size = size) (hby : i.bytes = bytes)
    {v v' : Value} {n : Nat} {xs : List Value} (hown : w.ownsRow base e size v n xs) {ad : Addr} {m c : Nat} {news : List Value} (hm : 0 < m) (hl : news.length = m * size) (hnews : ∀ j u, news[j]? = some u → w.cell? (ad.add j) = some u) (h1 : ∀ u ∈ news, u.oneCell' = true)
    (h63 : n + m ≤ maxLen) (hbytes : (n + m) * bytes ≤ 140737488355328) (hr : (Builtin.append_ #[t, t] ty #[v, .slice (some ad) m c]).run P w = .ok v' w') : v'.ownBlock = v.ownBlock ∨ v'.ownBlock = some w.heap.size := by
  have hsmall : n + m ≤ 9223372036854775807 := by simp only [maxLen] at h63; omega
  have hxl : xs.length = n * size := hown.1
  subst hsize hby
  rcases hown.2 with ⟨rfl, rfl⟩ | ⟨g, cap, cur, rfl, hbg, hg, hnc, hcm, hcs, htake⟩
  · have hr2 := run_append_nil (P := P) w t ty e i z ht hi hz ad m c news hl hnews hm (by omega) (by rw [Nat.zero_add] at hbytes; omega)
    rw [hr2] at hr
    cases hr
    exact Or.inr rfl
  · by_cases hroom : n + m ≤ cap
    · have hfit : n * i.size + news.length ≤ cur.size := by
        rw [hl, hcs, ← Nat.add_mul]
        exact Nat.mul_le_mul_right _ hroom
      have hr2 := run_append_room (P := P) w t ty e i ht hi g n cap cur hg ad m c news hl hnews h1 hroom hfit
      rw [hr2] at hr
      cases hr
      exact Or.inl rfl
    · have holds : ∀ j u, xs[j]? = some u → w.cell? ((⟨g, 0, none⟩ : Addr).add j) = some u := hown.cells (g := g) rfl
      have hr2 := run_append_grow (P := P) w t ty e i z ht hi hz ⟨g, 0, none⟩ n cap xs hxl holds ad m c news hl hnews (by omega) (by omega) (growslice_fits (by omega) hbytes)
      rw [hr2] at hr
      cases hr
      exact Or.inr rfl
theorem step_app_own {P : Program} {w : World} {ops : Array Oper} {o : Oper} {a : Act} {K : Act → World → Prop} {Q : Exit → Act → World → Prop} {E : Prop} (hgd : o.guard = none) (s x : Operand) (t : TypeId)
    (ho : o.op = .call { callee := .builtin .append, args := #[s, x], argTypes := #[t, t] }) (base : Nat) (e : TypeId) (i : TypeInfo) (z : Value) (size bytes : Nat) (h1 : P.underlying t = some (.slice e)) (h2 : P.info? e = some i) (h3 : i.zero = some z) (h4 : i.size = size) (h5 : i.bytes = bytes) (h6 : z.cells.size = size) (h7 : 0 < size)
    (v : Value) (k : Nat) (xs : List Value) (hs : a.eval s = v) (hown : w.ownsRow base e size v k xs) (ad : Addr) (m c : Nat) (news : List Value) (hm : 0 < m) (hx : a.eval x = .slice (some ad) m c) (hn : news.length = m * size)
    (hc : ∀ j u, news[j]? = some u → w.cell? (ad.add j) = some u) (h1c : ∀ u ∈ news, u.oneCell' = true) (b1 : k + m ≤ maxLen) (b2 : (k + m) * bytes ≤ 140737488355328) (b3 : base ≤ w.heap.size)
    (hK : ∀ v' w', w'.ownsRow base e size v' (k + m) (xs ++ news) → w.grownBy w' v.ownBlock → (v'.ownBlock = v.ownBlock ∨ v'.ownBlock = some w.heap.size) → K (a.put o.dst v') w') :
    if Region.wanted o (yielded ops a.tmps) = true then Oper.wp P o a w K Q else E := by
  have hw : Region.wanted o (yielded ops a.tmps) = true := by simp [Region.wanted, hgd]
  rw [if_pos hw]
  obtain ⟨v', w', hrun, r1, r2, r3⟩ := run_append_own (P := P) w base t o.type e i z size bytes h1 h2 h3 h4 h5 h6 h7 v k xs hown ad m c news hn hc h1c b1 b2 b3
  have hw := append_at (P := P) h1 h2 h3 h4 h5 hown hm hn hc h1c b1 b2 hrun
  unfold Oper.wp
  simp [execOp, ho, resolve, invoke, builtin, hs, hx, hrun, Result.andThen]
  exact hK v' w' r1 r2 hw

theorem Try.infoStr : (Try.prog.info? 9).map (fun i => (i.zero, i.size, i.bytes)) = some (some (.string .empty), 1, 16) := by kernel_rfl
/-- Texts as cells. -/
def sCells (ps : List (List UInt8)) : List Value := ps.map fun p => .string (bstr p)
theorem sCells_length (ps : List (List UInt8)) : (sCells ps).length = ps.length := by simp [sCells]
theorem sCells_append (a b : List (List UInt8)) : sCells (a ++ b) = sCells a ++ sCells b := by simp [sCells]
theorem sCells_one {ps : List (List UInt8)} : ∀ u ∈ sCells ps, u.oneCell' = true := fun u hu => by
  obtain ⟨p, _, rfl⟩ := List.mem_map.1 hu
  rfl
theorem own_sarg {w : World} {B e : Nat} {v : Value} {n : Nat} {ps : List (List UInt8)} (h : w.ownsRow B e 1 v n (sCells ps)) : n = ps.length ∧ ∃ q cap g, v = .slice q ps.length cap ∧ ps.length ≤ cap ∧ SArg w q g 0 ps := by
  have hn : ps.length = n := by have := h.1; rw [sCells_length] at this; omega
  subst hn
  refine ⟨rfl, ?_⟩
  rcases h.2 with ⟨rfl, h0⟩ | ⟨g, cap, cur, rfl, hbg, hg, hnc, hcm, hcs, htake⟩
  · exact ⟨none, 0, 0, by rw [h0], by omega, fun h1 => by omega⟩
  · refine ⟨some ⟨g, 0, none⟩, cap, g, rfl, hnc, fun _ => ⟨rfl, fun j hj => ?_, blk_lt hg⟩⟩
    have := h.cells (g := g) rfl j (.string (bstr ps[j])) (by simp [sCells, hj])
    rw [Addr.add_lit] at this
    exact this
theorem own_succ {w : World} {B : Nat} {e : TypeId} {sz : Nat} {v : Value} {n : Nat} {xs : List Value} (h : w.ownsRow B e sz v (n + 1) xs) : ∃ q cap, v = .slice q (n + 1) cap := by
  rcases h.2 with ⟨_, e0⟩ | ⟨g, cap, cur, e, _⟩
  · omega
  · exact ⟨_, _, e⟩
/-- Keys of 100 bytes at most, 200 of them. -/
def cutK (l : List (List UInt8)) : List (List UInt8) := (l.take 200).map fun s => s.take 100
theorem cutK_length (l : List (List UInt8)) : (cutK l).length ≤ 200 := by simp [cutK]; omega
theorem cutK_short {l : List (List UInt8)} {s : List UInt8} (h : s ∈ cutK l) : s.length ≤ 9223372036854775807 := by
  obtain ⟨t, _, rfl⟩ := List.mem_map.1 h
  simp
  omega
theorem cutK_succ {l : List (List UInt8)} {i : Nat} (h : i < l.length) : (l.take (i + 1)).map (fun s => s.take 100) = (l.take i).map (fun s => s.take 100) ++ [l[i].take 100] := by
  rw [List.take_succ_eq_append_getElem h, List.map_append]
  rfl

set_option maxHeartbeats 2000000 in
set_option maxRecDepth 100000 in
theorem cut_any (q : Option Addr) (g off cap : Nat) (l : List (List UInt8)) (w : World) (hq : SArg w q g off l) (hl : l.length ≤ 9223372036854775807) (hls : ∀ s ∈ l, s.length ≤ 9223372036854775807) :
    Calls Try.prog 8 #[.slice q l.length cap] w fun e w' => ∃ v, e = .returned v ∧ w'.ownsRow w.heap.size 9 1 v (cutK l).length (sCells (cutK l)) ∧ Below w.heap.size w w' := by
  obtain ⟨i0, hi0, hz0, hz1, hz2⟩ := info_parts Try.infoStr
  go_enter Try.func8, Try.ntmps8
  go_wp2_with fail
  go_loopw [3, 4] (fun s3 s4 wr => ∃ i : Nat, s4 = .int .i64 (i : Int) ∧ i ≤ l.length ∧ i ≤ 200 ∧ wr.ownsRow w.heap.size 9 1 s3 i (sCells ((l.take i).map fun s => s.take 100)) ∧ Below w.heap.size w wr) (fun _ s4 _ => 200 - (intOf s4).toNat)
  case atStart => exact ⟨0, rfl, Nat.zero_le _, Nat.zero_le _, ⟨rfl, .inl ⟨rfl, rfl⟩⟩, Below.refl _ _⟩
  case round =>
    obtain ⟨i, rfl, hil, hi2, hown, hbel⟩ := hrel
    by_cases hgo : i < l.length ∧ i < 200
    · obtain ⟨hlt, h200⟩ := hgo
      obtain ⟨rfl, hS, hg⟩ := hq (by omega)
      have cs : wr.cell? ⟨g, off + i, none⟩ = some (.string (bstr l[i])) := (hS.block (hbel.block g hg)) i hlt
      have HC : Hid _ := cutK_succ hlt
      have hsl : l[i].length ≤ 9223372036854775807 := hls _ (List.getElem_mem hlt)
      have c1 : (i : Int) < (l.length : Int) := by omega
      have c2 : (i : Int) < 200 := by omega
      have hsz := hbel.size
      obtain ⟨s, hs⟩ : ∃ s, s = l[i] := ⟨_, rfl⟩
      rw [← hs] at cs hsl HC
      have hrc := fun W => run_cut (P := Try.prog) 9 s 100 100 rfl W Try.underlying9
      obtain ⟨qv, capv, rfl⟩ : ∃ qv capv, u3 = Value.slice qv i capv := by
        rcases hown.2 with ⟨e, e0⟩ | ⟨g, cap, cur, e, _⟩
        · exact ⟨none, 0, by rw [e, e0]⟩
        · exact ⟨_, _, e⟩
      have hnews : ∀ j u, [Value.string (bstr (s.take 100))][j]? = some u → (wr.alloc (.cells #[.string (bstr (s.take 100))] 9)).drew.cell? ((⟨wr.heap.size, 0, none⟩ : Addr).add j) = some u := by
        intro j u hj
        rw [Addr.add_lit]
        match j, hj with
        | 0, hj =>
          cases hj
          exact (cells_block (heap_alloc_new wr _)).1 0
      clear hs hS
      go_wp2_with fail
      go_region_law (refine step_app_own (by rfl) _ _ 22 (by rfl) w.heap.size 9 i0 (.string .empty) 1 16 Try.underlying22 hi0 hz0 hz1 hz2 rfl (by decide) (.slice qv i capv) i _ (by rfl) (hown.alloc _).drew ⟨wr.heap.size, 0, none⟩ 1 1 [.string (bstr (s.take 100))] (by omega) (by rfl) rfl hnews (by intro u hu; simp at hu; subst hu; rfl) (by unfold maxLen; omega) (by omega) (by simp; omega) ?_; intro v4 w4 hown4 hgr4 hv4; obtain ⟨q4, cap4, rfl⟩ := own_succ hown4)
      all_goals (
        have hbw4 : Below w.heap.size w w4 := (hbel.alloc hbel.size _).drew.grown hgr4 (by simp; omega) (fun k hk => (hown.lt k hk).1)
        have hown5 : w4.ownsRow w.heap.size 9 1 (.slice q4 (i + 1) cap4) (i + 1) (sCells ((l.take (i + 1)).map fun s => s.take 100)) := by
          rw [HC.out, sCells_append]
          exact hown4
        clear hown hown4 hgr4 hnews hv4 cs hrc
        go_wp2
        go_roundw
        case rel => exact ⟨i + 1, by go_num, by omega, by omega, hown5, hbw4⟩
        case measure => simp [intOf]; omega)
    · have hfin : (l.take i).map (fun s => s.take 100) = cutK l := by
        unfold cutK
        congr 1
        by_cases h : i < l.length
        · have : i = 200 := by omega
          rw [this]
        · rw [List.take_of_length_le (by omega), List.take_of_length_le (by omega)]
      have hlen : i = (cutK l).length := by
        rw [← hfin]
        simp
        omega
      rw [hfin] at hown
      have hstop : ¬ ((i : Int) < (l.length : Int) ∧ (i : Int) < 200) := by omega
      by_cases hw1 : (i : Int) < (l.length : Int)
      · have hw2 : ¬ (i : Int) < 200 := fun h => hstop ⟨hw1, h⟩
        have HL : Hid _ := hlen
        clear hlen hfin
        go_wp2
        go_ret
        exact ⟨u3, rfl, by rw [← HL.out]; exact hown, hbel⟩
      · have HL : Hid _ := hlen
        clear hlen hfin
        go_wp2
        go_ret
        exact ⟨u3, rfl, by rw [← HL.out]; exact hown, hbel⟩

end Go.Proofs.Ytiingodillcleaa
