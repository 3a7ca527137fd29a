/-
  An append to a row that the call owns, with the block that it lies in behind it; takeLevel.
  clear of a row of files that the call owns; 'l[:0]'.
  take: a state that was laid is read.
-/
import Derived.Test.YtnfnlfdplnekgaaDoorGVTak
import Derived.Laws.IdiomCopy
import Derived.Laws.AppendOwnNone
import Derived.Deep.RegionHeld3
namespace Go.Proofs.YtnfnlfdplnekgaaDoor
open Go.RowKit Go.BigFrame Go.Sort
attribute [local go_sem] size_bstr toList_bstr ls_def

theorem append_at {P : Program} {w w' : World} {base : Nat} {t ty e : TypeId} {i : TypeInfo} {z : Value} {size bytes : Nat} (ht : P.underlying t = some (.slice e)) (hi : P.info? e = some i) (hz : i.zero = some z) (hsize : i.size = size) (hby : i.bytes = bytes)
    {v v' : Value} {n : Nat} {xs : List Value} (hown : w.ownsRow base e size v n xs) {ad : Addr} {m c : Nat} {news : List Value} (hm : 0 < m) (hl : news.length = m * size) (hnews : ∀ j u, news[j]? = some u → w.cell? (ad.add j) = some u) (h1 : ∀ u ∈ news, u.oneCell' = true)
    (h63 : n + m ≤ maxLen) (hbytes : (n + m) * bytes ≤ 140737488355328) (hr : (Builtin.append_ #[t, t] ty #[v, .slice (some ad) m c]).run P w = .ok v' w') : v'.ownBlock = v.ownBlock ∨ v'.ownBlock = some w.heap.size := by
  have hsmall : n + m ≤ 9223372036854775807 := by simp only [maxLen] at h63; omega
  have hxl : xs.length = n * size := hown.1
  subst hsize hby
  rcases hown.2 with ⟨rfl, rfl⟩ | ⟨g, cap, cur, rfl, hbg, hg, hnc, hcm, hcs, htake⟩
  · have hr2 := run_append_nil (P := P) w t ty e i z ht hi hz ad m c news hl hnews hm (by omega) (by rw [Nat.zero_add] at hbytes; omega)
    rw [hr2] at hr
    cases hr
    exact Or.inr rfl
  · by_cases hroom : n + m ≤ cap
    · have hfit : n * i.size + news.length ≤ cur.size := by
        rw [hl, hcs, ← Nat.add_mul]
        exact Nat.mul_le_mul_right _ hroom
      have hr2 := run_append_room (P := P) w t ty e i ht hi g n cap cur hg ad m c news hl hnews h1 hroom hfit
      rw [hr2] at hr
      cases hr
      exact Or.inl rfl
    · have holds : ∀ j u, xs[j]? = some u → w.cell? ((⟨g, 0, none⟩ : Addr).add j) = some u := hown.cells (g := g) rfl
      have hr2 := run_append_grow (P := P) w t ty e i z ht hi hz ⟨g, 0, none⟩ n cap xs hxl holds ad m c news hl hnews (by omega) (by omega) (growslice_fits (by omega) hbytes)
      rw [hr2] at hr
      cases hr
      exact Or.inr rfl
theorem wpList_app {P : Program} {w : World} {ops : Array Oper} {rest : List Oper} {o : Oper} {a : Act} {Q : Exit → Act → World → Prop} (hgd : o.guard = none) (s x : Operand) (t : TypeId)
    (ho : o.op = .call { callee := .builtin .append, args := #[s, x], argTypes := #[t, t] }) (base : Nat) (e : TypeId) (i : TypeInfo) (z : Value) (size bytes : Nat) (h1 : P.underlying t = some (.slice e)) (h2 : P.info? e = some i) (h3 : i.zero = some z) (h4 : i.size = size) (h5 : i.bytes = bytes) (h6 : z.cells.size = size) (h7 : 0 < size)
    (v : Value) (k : Nat) (xs : List Value) (hs : a.eval s = v) (hown : w.ownsRow base e size v k xs) (ad : Addr) (m c : Nat) (news : List Value) (hm : 0 < m) (hx : a.eval x = .slice (some ad) m c) (hn : news.length = m * size)
    (hc : ∀ j u, news[j]? = some u → w.cell? (ad.add j) = some u) (h1c : ∀ u ∈ news, u.oneCell' = true) (b1 : k + m ≤ maxLen) (b2 : (k + m) * bytes ≤ 140737488355328) (b3 : base ≤ w.heap.size)
    (hK : ∀ v' w', w'.ownsRow base e size v' (k + m) (xs ++ news) → w.grownBy w' v.ownBlock → (v'.ownBlock = v.ownBlock ∨ v'.ownBlock = some w.heap.size) → wpList P ops Q rest (a.put o.dst v') w') : wpList P ops Q (o :: rest) a w := by
  refine wpList_plain hgd fun K hK' => ?_
  obtain ⟨v', w', hrun, r1, r2, r3⟩ := run_append_own (P := P) w base t o.type e i z size bytes h1 h2 h3 h4 h5 h6 h7 v k xs hown ad m c news hn hc h1c b1 b2 b3
  have hw := append_at (P := P) h1 h2 h3 h4 h5 hown hm hn hc h1c b1 b2 hrun
  unfold Oper.wp
  simp [execOp, ho, resolve, invoke, builtin, hs, hx, hrun, Result.andThen]
  exact hK' _ _ (hK v' w' r1 r2 hw)
theorem lvB_drop {l : List Fi} {i : Nat} (h : i < l.length) : lvB (l.drop i) = layF l[i] ++ lvB (l.drop (i + 1)) := by
  unfold lvB
  rw [List.drop_eq_getElem_cons h, List.flatMap_cons]
theorem fcells_take {l : List Fi} {i : Nat} (h : i < l.length) : fcells (l.take (i + 1)) = fcells (l.take i) ++ encF l[i] := by
  rw [List.take_add_one, List.getElem?_eq_getElem h, fcells_append]
  simp [fcells]
theorem file_news (w : World) (f : Fi) (t : TypeId) : ∀ j u, (encF f)[j]? = some u → (w.alloc (.cells #[.int .u64 (f.id : Int), .string (bstr f.low), .string (bstr f.high), .int .i64 f.n] t)).cell? ((⟨w.heap.size, 0, none⟩ : Addr).add j) = some u := by
  intro j u hj
  obtain ⟨c0, c1, c2, c3⟩ := FAt.new w t f
  rw [Nat.zero_add] at c1 c2 c3
  rw [Addr.add_lit, Nat.zero_add]
  match j, hj with
  | 0, hj => simp [encF] at hj; subst hj; exact c0
  | 1, hj => simp [encF] at hj; subst hj; exact c1
  | 2, hj => simp [encF] at hj; subst hj; exact c2
  | 3, hj => simp [encF] at hj; subst hj; exact c3
  | n + 4, hj => simp [encF] at hj
theorem own_grownv {w w' : World} {B e size n g : Nat} {v : Value} {xs : List Value} (h : w.ownsRow B e size v n xs) (hg : w.grownBy w' (some g)) (hB : g < B) : w'.ownsRow B e size v n xs := by
  rcases h.2 with h0 | ⟨g', cap, cur, hv, hbg, hg', r⟩
  · exact ⟨h.1, .inl h0⟩
  · exact ⟨h.1, .inr ⟨g', cap, cur, hv, hbg, (hg.block g' (lt_of_block hg') (fun e => by cases e; omega)).trans hg', r⟩⟩

set_option maxHeartbeats 4000000 in
set_option maxRecDepth 100000 in
theorem takeLevel_ok (g B : Nat) (l : List Fi) (r : List UInt8) (v : Value) (w : World) (hR : Rd w g (bstr (levB l ++ r))) (hf : ∀ f ∈ l, mayF f = true ∧ f.id < 18446744073709551616) (hn : l.length ≤ 1024) (hl : (levB l ++ r).length ≤ 10000000) (hown : w.ownsRow B 48 4 v 0 []) (hg : g < B) (hB : B ≤ w.heap.size) :
    Calls Tryd.prog 55 #[.pointer (some ⟨g, 0, none⟩), v] w fun e w' => ∃ v', e = .returned (.tuple #[v', .bool true]) ∧ w'.ownsRow B 48 4 v' l.length (fcells l) ∧ Rd w' g (bstr r) ∧ Kp w w' (fun i => i = g ∨ v.ownBlock = some i) ∧ ∀ i, v'.ownBlock = some i → v.ownBlock = some i ∨ w.heap.size ≤ i := by
  obtain ⟨i0, hi0, hz0, hz1, hz2⟩ := info_parts Tryd.infoFile
  obtain ⟨q, cap, rfl⟩ : ∃ q cap, v = .slice q 0 cap := by
    rcases hown.2 with ⟨hv, _⟩ | ⟨g, cap, cur, hv, _⟩
    · exact ⟨_, _, hv⟩
    · exact ⟨_, _, hv⟩
  have e0 : levB l ++ r = Lib.uvarint l.length ++ (lvB l ++ r) := by simp [levB]
  rw [e0] at hR hl
  obtain ⟨a1, a2, a3⟩ := okN_num (x := l.length) (r := lvB l ++ r) (by omega)
  have hn1 := fun W hR => Number_r g (Lib.uvarint l.length ++ (lvB l ++ r)) W hR (by omega)
  rw [a1, a2, a3] at hn1
  have hl2 : (lvB l ++ r).length ≤ 10000000 := by rw [List.length_append] at hl; omega
  have hnz : ¬ ((1024 : Int) < (l.length : Int)) := by omega
  have HF : Hid _ := hf
  have hgl := hR.lt
  clear e0 a1 a2 a3 hf
  go_enter Tryd.func55, Tryd.ntmps55
  go_wp2_with fail
  refine (hn1 w hR).mono ?_
  rintro e w1 ⟨rfl, hR1, hg1⟩
  have hown1 := own_grownv hown hg1 hg
  have hk1 : Kp w w1 (fun i => i = g ∨ Value.ownBlock (.slice q 0 cap) = some i) := Kp.of_grown hg1 (fun k hk => by cases hk; exact Or.inl rfl)
  clear hn1 hR
  go_wp2
  go_loopw [1, 22] (fun s1 s22 wr => ∃ i : Nat, s22 = .int .u64 (i : Int) ∧ i ≤ l.length ∧ Rd wr g (bstr (lvB (l.drop i) ++ r)) ∧ wr.ownsRow B 48 4 s1 i (fcells (l.take i)) ∧ Kp w wr (fun i => i = g ∨ Value.ownBlock (.slice q 0 cap) = some i) ∧ ∀ j, s1.ownBlock = some j → Value.ownBlock (.slice q 0 cap) = some j ∨ w.heap.size ≤ j) (fun _ s22 _ => l.length - (intOf s22).toNat)
  case atStart => exact ⟨0, rfl, by omega, hR1, hown1, hk1, fun j hj => .inl hj⟩
  case round =>
    clear hR1 hown1 hk1 hg1
    obtain ⟨i, rfl, hil, hRi, howni, hki, hnb⟩ := hrel
    obtain ⟨qi, capi, rfl⟩ : ∃ qi capi, u1 = Value.slice qi i capi := by
      rcases howni.2 with ⟨e, e0⟩ | ⟨g, cap, cur, e, _⟩
      · exact ⟨none, 0, by rw [e, e0]⟩
      · exact ⟨_, _, e⟩
    by_cases hlt : i < l.length
    · have hiz : (i : Int) < (l.length : Int) := by omega
      have hfi := HF.out l[i] (List.getElem_mem hlt)
      have hdr := lvB_drop hlt
      have hct := fcells_take hlt
      rw [hdr, List.append_assoc] at hRi
      have hln : (layF l[i] ++ (lvB (l.drop (i + 1)) ++ r)).length ≤ 10000000 := by
        have h1 : (lvB l).length = (lvB (l.take i)).length + (lvB (l.drop i)).length := by
          conv => lhs; rw [← List.take_append_drop i l]
          unfold lvB
          rw [List.flatMap_append, List.length_append]
        rw [hdr, List.length_append] at h1
        rw [List.length_append] at hl2
        rw [List.length_append, List.length_append]
        omega
      have htf := takeFile_ok g l[i] (lvB (l.drop (i + 1)) ++ r) wr hRi hfi.1 hfi.2 hln
      have HCT : Hid _ := hct
      generalize l[i] = f at *
      obtain ⟨id, low, high, n⟩ := f
      have hsz := hki.size
      clear hdr hct hln hfi hRi
      go_wp2_with fail
      refine htf.mono ?_
      rintro e w3 ⟨rfl, hR3, hg3⟩
      have hown3 := own_grownv howni hg3 hg
      have hs3 := hg3.size
      have hnews := file_news (w3.alloc (.cells #[.int .u64 (id : Int), .string (bstr low), .string (bstr high), .int .i64 n] 48)) ⟨id, low, high, n⟩ 48
      rw [show (w3.alloc (.cells #[.int .u64 (id : Int), .string (bstr low), .string (bstr high), .int .i64 n] 48)).heap.size = w3.heap.size + 1 by simp] at hnews
      clear htf howni
      go_wp2_with (at_builtin; refine wpList_app rfl _ _ 46 rfl B 48 i0 (.agg #[.int .u64 0, .string ⟨#[]⟩, .string ⟨#[]⟩, .int .i64 0]) 4 48 Tryd.underlying46 hi0 hz0 hz1 hz2 rfl (by decide) _ _ _ rfl ((hown3.alloc _).alloc _) ⟨w3.heap.size + 1, 0, none⟩ 1 1 (encF ⟨id, low, high, n⟩) (by decide) rfl rfl hnews (encF_one _) ?c3 ?c4 ?c5 ?_)
      case c3 => unfold maxLen; omega
      case c4 => omega
      case c5 => simp; omega
      intro v' w4 hown4 hgrow hv4
      have hBg : ∀ j, Value.ownBlock (.slice qi i capi) = some j → B ≤ j := fun j hj => (own_blk_lt hown3 hj).2.1
      have k3 := hki.trans (Kp.of_grown (S := fun i => i = g) hg3 (fun k hk => by cases hk; rfl)) (fun i hi => .inl (.inl hi))
      have k5 := ((k3.alloc (.cells #[.int .u64 (id : Int), .string (bstr low), .string (bstr high), .int .i64 n] 48)).alloc (.cells #[.int .u64 (id : Int), .string (bstr low), .string (bstr high), .int .i64 n] 48)).trans (Kp.of_grown (S := fun i => Value.ownBlock (.slice qi _ capi) = some i) hgrow (fun k hk => hk)) (fun j hj => by
        rcases hnb j hj with h | h
        · exact .inl (.inr h)
        · exact .inr h)
      have hR4 : Rd w4 g (bstr (lvB (l.drop (i + 1)) ++ r)) := by
        have h1 := hR3.lt
        refine (hgrow.block g (by simp; omega) (fun e => by have := hBg g e.symm; omega)).trans ?_
        exact (Below.heap_alloc _ _ _ (by simp; omega)).trans ((Below.heap_alloc _ _ _ (by omega)).trans hR3)
      have hnb4 : ∀ j, v'.ownBlock = some j → Value.ownBlock (.slice q 0 cap) = some j ∨ w.heap.size ≤ j := fun j hj => by
        rcases hv4 with h | h
        · exact hnb j (h ▸ hj)
        · rw [h] at hj
          cases hj
          exact .inr (by omega)
      have hown5 : w4.ownsRow B 48 4 v' (i + 1) (fcells (l.take (i + 1))) := by
        rw [HCT.out]
        exact hown4
      have HK5 : Hid _ := k5
      have HR4 : Hid _ := hR4
      have HNB : Hid _ := hnb4
      have HOW : Hid _ := hown5
      clear k3 k5 hR4 hnb4 hown5 hown4 hown3 hgrow hv4 hnews hR3 hg3 hki hnb hBg
      go_wp2
      go_roundw
      case rel => exact ⟨i + 1, by go_num, by omega, HR4.out, HOW.out, HK5.out, HNB.out⟩
      case measure => simp [intOf]; omega
    · have hiz : ¬ (i : Int) < (l.length : Int) := by omega
      have hie : i = l.length := by omega
      subst hie
      rw [List.take_length] at howni
      rw [List.drop_length] at hRi
      have HR : Hid (Rd wr g (bstr r)) := hRi
      clear hRi
      go_wp2
      go_ret2
      exact ⟨_, rfl, howni, HR.out, hki, hnb⟩

end Go.Proofs.YtnfnlfdplnekgaaDoor

namespace Go.Proofs.YtnfnlfdplnekgaaDoor
open Go.RowKit

theorem setCells_blk (b : Nat) {t : TypeId} {fz : Nat × Nat} : ∀ (vs : List Value) (o : Nat) (w : World) (cur : Array Value), w.heap[b]? = some (.cells cur t fz) → ∃ cur', (w.setCells b o vs).heap[b]? = some (.cells cur' t fz) ∧ cur'.size = cur.size ∧ Kp w (w.setCells b o vs) (fun i => i = b)
  | [], _, w, cur, h => ⟨cur, h, rfl, Kp.refl _ _⟩
  | v :: vs, o, w, cur, h => by
    obtain ⟨cur', h1, h2, h3⟩ := setCells_blk b vs (o + 1) (w.setCell ⟨b, o, none⟩ v) _ (heap_set_same h v)
    exact ⟨cur', h1, by rw [h2]; simp, ((Kp.refl w (fun i => i = b)).setCell v (.inl rfl)).trans h3 (fun i hi => .inl hi)⟩
theorem zeroFile (w : World) : (zeroValue 48).run Tryd.prog w = .ok (.agg #[.int .u64 0, .string ⟨#[]⟩, .string ⟨#[]⟩, .int .i64 0]) w := by kernel_rfl
theorem zc_one (n : Nat) : ∀ v ∈ (Builtin.zeroCells (Value.agg #[.int .u64 0, .string ⟨#[]⟩, .string ⟨#[]⟩, .int .i64 0]).cells n).toList, v.oneCell' = true := by
  intro v hv
  simp only [Builtin.zeroCells, Value.cells, Array.toList_map, List.mem_map] at hv
  obtain ⟨i, _, rfl⟩ := hv
  show (#[Value.int .u64 0, .string ⟨#[]⟩, .string ⟨#[]⟩, .int .i64 0][i % 4]!).oneCell' = true
  have : i % 4 < 4 := Nat.mod_lt _ (by decide)
  generalize i % 4 = k at *
  match k, this with
  | 0, _ => rfl
  | 1, _ => rfl
  | 2, _ => rfl
  | 3, _ => rfl
theorem zc_len (n : Nat) : (Builtin.zeroCells (Value.agg #[.int .u64 0, .string ⟨#[]⟩, .string ⟨#[]⟩, .int .i64 0]).cells n).toList.length = n * 4 := by
  simp [Builtin.zeroCells, Value.cells]
theorem clear4 {w : World} {B m : Nat} {v : Value} {xs : List Value} (h : w.ownsRow B 48 4 v m xs) : ∃ w', (∀ ty, (Builtin.clear_ #[46] ty #[v]).run Tryd.prog w = .ok (.tuple #[]) w') ∧ Kp w w' (fun i => v.ownBlock = some i) ∧ ∃ q cap, v = .slice q m cap ∧ w'.ownsRow B 48 4 (.slice q 0 cap) 0 [] := by
  rcases h.2 with ⟨rfl, h0⟩ | ⟨g, cap, cur, rfl, hbg, hg, hnc, hcm, hcs, htk⟩
  · exact ⟨w, fun ty => by simp [Builtin.clear_, run_underlying Tryd.underlying46], Kp.refl _ _, none, 0, by rw [h0], ⟨rfl, .inl ⟨rfl, rfl⟩⟩⟩
  · by_cases hm : m = 0
    · subst hm
      exact ⟨w, fun ty => by simp [Builtin.clear_, run_underlying Tryd.underlying46], Kp.refl _ _, _, cap, rfl, ⟨rfl, .inr ⟨g, cap, cur, rfl, hbg, hg, Nat.zero_le _, hcm, hcs, by simp⟩⟩⟩
    · have hst := run_storeCells_cells (P := Tryd.prog) g 0 (Builtin.zeroCells (Value.agg #[.int .u64 0, .string ⟨#[]⟩, .string ⟨#[]⟩, .int .i64 0]).cells m).toList 0 w (fun j hj => by
        rw [zc_len] at hj
        rw [(vcb hg).1]
        have : 0 + 0 + j < cur.size := by rw [hcs]; omega
        rw [Array.getElem?_eq_getElem this]
        rfl) (fun j hj => (vcb hg).2 _) (zc_one m)
      obtain ⟨cur', h1, h2, h3⟩ := setCells_blk g (Builtin.zeroCells (Value.agg #[.int .u64 0, .string ⟨#[]⟩, .string ⟨#[]⟩, .int .i64 0]).cells m).toList (0 + 0) w cur hg
      obtain ⟨k, rfl⟩ : ∃ k, m = k + 1 := ⟨m - 1, by omega⟩
      refine ⟨_, fun ty => by simp only [Builtin.clear_, run_underlying Tryd.underlying46, zeroFile, hst, Sem.run_bind, Result.andThen_ok, List.getElem?_toArray, List.getElem?_cons_zero, Sem.run_pure], h3.mono fun i hi => .inl (by rw [hi]; rfl), _, cap, rfl, ⟨rfl, .inr ⟨g, cap, cur', rfl, hbg, h1, Nat.zero_le _, hcm, h2.trans hcs, by simp⟩⟩⟩
theorem vhead_run {P : Program} {t : TypeId} {q : Option Addr} {len cap n s : Nat} (ht : P.underlying t = some (.slice (P.elem t))) (hz : ∀ w, (Go.sizeOf (P.elem t)).run P w = .ok s w) (hn : n ≤ cap) (w : World) :
    (Instr.slice t (.slice q len cap) none (some (.int .i64 (n : Int))) none).run P w = .ok (.slice q n cap) w := by
  rw [run_slice_h w t q len cap ht .i64 (n : Int) (by omega) (by omega), hz]
  have e : sliced q 0 n cap s = .slice q n cap := by
    unfold sliced
    cases q with
    | none => simp
    | some a =>
      have : a.add 0 = a := by cases a; simp [Addr.add]
      simp [this]
  simp only [Result.andThen, Int.toNat_natCast, e]

end Go.Proofs.YtnfnlfdplnekgaaDoor

namespace Go.Proofs.YtnfnlfdplnekgaaDoor
open Go.RowKit Go.BigFrame Go.Sort
attribute [local go_sem] size_bstr toList_bstr ls_def

/-- The cells of n new levels. -/
def zsL (n : Nat) : Array Value := madeCells (Value.slice none 0 0).cells n
theorem zsL_size (n : Nat) : (zsL n).size = n := by
  unfold zsL madeCells
  simp [Value.cells]
theorem zsL_get (n j : Nat) (h : j < n) : (zsL n)[j]? = some (.slice none 0 0) := by
  unfold zsL madeCells
  have h1 : j % 1 = 0 := Nat.mod_one j
  simp [Value.cells, h, h1]
theorem makeL_run (n : Nat) (hn : n ≤ 1000) (w : World) : (Instr.makeSlice 26 (.int .u64 (n : Int)) (.int .u64 (n : Int))).run Tryd.prog w = .ok (.slice (some ⟨w.heap.size, 0, none⟩) n n) (w.alloc (.cells (zsL n) 46)) := by
  obtain ⟨i0, hi, hz0, hz1, hz2⟩ := info_parts Tryd.infoLvl
  have := run_make (P := Tryd.prog) (w := w) 26 46 i0 (.slice none 0 0) Tryd.underlying26 hi hz0 .u64 .u64 (n : Int) (n : Int) (by omega) (by omega) (by rw [hz2]; omega) (by omega)
  rw [Int.toNat_natCast, hz1, Nat.mul_one] at this
  exact this
theorem flat_drop {lv : List (List Fi)} {i : Nat} (h : i < lv.length) : (lv.drop i).flatMap levB = levB lv[i] ++ (lv.drop (i + 1)).flatMap levB := by
  rw [List.drop_eq_getElem_cons h, List.flatMap_cons]

/-- Levels that were read, up to the k-th; the row that is read into. -/
structure TK (w : World) (g LB n : Nat) (lv : List (List Fi)) (k : Nat) (vL : Value) (vs : Nat → Value) (W : World) : Prop where
  lb : ∃ cur : Array Value, W.heap[LB]? = some (.cells cur 46 (0, 0)) ∧ cur.size = n ∧ (∀ j, j < k → cur[j]? = some (vs j)) ∧ ∀ j, k ≤ j → j < n → cur[j]? = some (.slice none 0 0)
  rows : ∀ j (h : j < lv.length), j < k → W.ownsRow (LB + 1) 48 4 (vs j) lv[j].length (fcells lv[j])
  far : ∀ j i, j < k → (vs j).ownBlock = some i → vL.ownBlock ≠ some i
  lev : ∃ q m cap, vL = .slice q m cap ∧ W.ownsRow (LB + 1) 48 4 (.slice q 0 cap) 0 []
  rc : W.heap[w.heap.size]? = some (.cells #[.int .u64 0, .int .u64 0, .slice none 0 0] 28 (0, 0))
  kp : Kp w W (fun i => i = g)

theorem ob_len (q : Option Addr) (m m' cap : Nat) : (Value.slice q m cap).ownBlock = (Value.slice q m' cap).ownBlock := by cases q <;> rfl
theorem TK.next {w wr w5 w6 w8 : World} {g LB n k : Nat} {lv : List (List Fi)} {vL v' v'' : Value} {vs : Nat → Value} (hT : TK w g LB n lv k vL vs wr) (hk : k < lv.length) (hn : n = lv.length) (hg : g < w.heap.size) (hw : w.heap.size < LB)
    (k5 : Kp wr w5 (fun i => i = g ∨ vL.ownBlock = some i)) (hown5 : w5.ownsRow (LB + 1) 48 4 v' lv[k].length (fcells lv[k])) (hnb : ∀ i, v'.ownBlock = some i → vL.ownBlock = some i ∨ wr.heap.size ≤ i)
    (hg6 : w5.grownBy w6 none) (hown6 : w6.ownsRow (LB + 1) 48 4 v'' lv[k].length (fcells lv[k])) (hv : ∀ i, v''.ownBlock = some i → w5.heap.size ≤ i)
    (k8 : Kp (w6.setCell ⟨LB, k, none⟩ v'') w8 (fun i => v'.ownBlock = some i)) (hz8 : ∃ q m cap, v' = .slice q m cap ∧ w8.ownsRow (LB + 1) 48 4 (.slice q 0 cap) 0 []) :
    TK w g LB n lv (k + 1) v' (fun j => if j = k then v'' else vs j) w8 := by
  obtain ⟨cur, hlb, hsz, hcu, hcz⟩ := hT.lb
  have hvL : ∀ i, vL.ownBlock = some i → LB + 1 ≤ i := fun i hi => by
    obtain ⟨q, m, cap, rfl, ho⟩ := hT.lev
    rw [ob_len q m 0 cap] at hi
    exact (own_blk_lt ho hi).2.1
  have hv5 : ∀ i, v'.ownBlock = some i → LB + 1 ≤ i ∧ i < w5.heap.size := fun i hi => ⟨(own_blk_lt hown5 hi).2.1, (own_blk_lt hown5 hi).1⟩
  have hs5 := k5.size
  have hs6 := hg6.size
  have h6k : ∀ i, i < w5.heap.size → w6.heap[i]? = w5.heap[i]? := fun i hi => hg6.block i hi (by simp)
  have hs8 := k8.size
  have hall : ∀ i, i < wr.heap.size → i ≠ g → vL.ownBlock ≠ some i → i ≠ LB → v'.ownBlock ≠ some i → w8.heap[i]? = wr.heap[i]? := fun i h1 h2 h3 h4 h5 =>
    (k8.block i (by simp; omega) h5).trans ((heap_set_other _ h4).trans ((h6k i (by omega)).trans (k5.block i h1 (fun h => by rcases h with h | h; exact h2 h; exact h3 h))))
  have hlw := blk_lt hlb
  have hl6 : w6.heap[LB]? = some (.cells cur 46 (0, 0)) := (h6k LB (by omega)).trans ((k5.block LB hlw (fun h => h.elim (fun e => by omega) (fun e => by have := hvL _ e; omega))).trans hlb)
  have hfar : ∀ j i, j < k → (vs j).ownBlock = some i → v'.ownBlock ≠ some i := fun j i hj hi he => by
    rcases hnb i he with h | h
    · exact hT.far j i hj hi h
    · have := (own_blk_lt (hT.rows j (by omega) hj) hi).1
      omega
  refine ⟨⟨cur.setIfInBounds k v'', ?_, by simpa using hsz, fun j hj => ?_, fun j hj hj2 => ?_⟩, fun j h hj => ?_, fun j i hj hi => ?_, hz8, ?_, ?_⟩
  · exact (k8.block LB (by simp; omega) (fun h => by have := hv5 _ h; omega)).trans (heap_set_same hl6 v'')
  · rw [Array.getElem?_setIfInBounds]
    by_cases e : k = j
    · subst e
      simp
      omega
    · rw [if_neg e, if_neg (fun x => e x.symm)]
      exact hcu j (by omega)
  · rw [Array.getElem?_setIfInBounds, if_neg (by omega)]
    exact hcz j (by omega) hj2
  · by_cases e : j = k
    · subst e
      simp only [if_pos]
      refine own_kept hown6 fun i hi => ?_
      have h1 := hv i hi
      have h2 := (own_blk_lt hown6 hi).1
      exact (k8.block i (by simpa using h2) (fun h => by have := hv5 _ h; omega)).trans (heap_set_other _ (by omega))
    · simp only [if_neg e]
      have hr := hT.rows j h (by omega)
      refine own_kept hr fun i hi => ?_
      have h1 := own_blk_lt hr hi
      exact hall i h1.1 (by have := h1.2.1; omega) (hT.far j i (by omega) hi) (by have := h1.2.1; omega) (hfar j i (by omega) hi)
  · by_cases e : j = k
    · subst e
      simp only [if_pos] at hi
      intro he
      have h1 := hv i hi
      have h2 := hv5 i he
      omega
    · simp only [if_neg e] at hi
      exact hfar j i (by omega) hi
  · exact (hall _ (blk_lt hT.rc) (by omega) (fun h => by have := hvL _ h; omega) (by omega) (fun h => by have := (hv5 _ h).1; omega)).trans hT.rc
  · have a1 := hT.kp.trans k5 (fun i hi => hi.elim .inl (fun e => .inr (by have := hvL _ e; omega)))
    have a2 := a1.trans (Kp.of_grown (S := fun i => i = g) hg6 (fun k hk => by cases hk)) (fun i hi => .inl hi)
    have a3 := a2.setCell (b := LB) (o := k) v'' (.inr (by omega))
    exact a3.trans k8 (fun i hi => .inr (by have := (hv5 i hi).1; omega))

set_option maxHeartbeats 8000000 in
set_option maxRecDepth 100000 in
theorem take_ok (g : Nat) (next log : Nat) (lv : List (List Fi)) (w : World) (hR : Rd w g (bstr (stB next log lv))) (hS : OkS next log lv) :
    Calls Tryd.prog 36 #[.pointer (some ⟨g, 0, none⟩)] w fun e w' => ∃ v vs, e = .returned (.tuple #[.agg #[.int .u64 (next : Int), .int .u64 (log : Int), v], .bool true]) ∧ (∀ W : World, (∀ i, w.heap.size < i → i < w'.heap.size → W.heap[i]? = w'.heap[i]?) → LArg W v vs lv) ∧ w.grownBy w' (some g) := by
  obtain ⟨i0, hi0, hz0, hz1, hz2⟩ := info_parts Tryd.infoFile
  have hst := stB_len hS
  have hn7 := hS.l
  have hm0 := hS.m
  have hnl := cnt_lt hS.n
  have hgl := cnt_lt hS.g
  have e0 : stB next log lv = Lib.uvarint next ++ (Lib.uvarint log ++ (Lib.uvarint lv.length ++ lv.flatMap levB)) := by simp [stB]
  rw [e0] at hR hst
  obtain ⟨a1, a2, a3⟩ := okN_num (x := next) (r := Lib.uvarint log ++ (Lib.uvarint lv.length ++ lv.flatMap levB)) (by omega)
  obtain ⟨b1, b2, b3⟩ := okN_num (x := log) (r := Lib.uvarint lv.length ++ lv.flatMap levB) (by omega)
  obtain ⟨c1, c2, c3⟩ := okN_num (x := lv.length) (r := lv.flatMap levB) (by omega)
  have hn1 := fun W hR => Number_r g (Lib.uvarint next ++ (Lib.uvarint log ++ (Lib.uvarint lv.length ++ lv.flatMap levB))) W hR (by omega)
  rw [a1, a2, a3] at hn1
  have l1 : (Lib.uvarint log ++ (Lib.uvarint lv.length ++ lv.flatMap levB)).length ≤ 200000 := by rw [List.length_append] at hst; omega
  have hn2 := fun W hR => Number_r g (Lib.uvarint log ++ (Lib.uvarint lv.length ++ lv.flatMap levB)) W hR (by omega)
  rw [b1, b2, b3] at hn2
  have l2 : (Lib.uvarint lv.length ++ lv.flatMap levB).length ≤ 200000 := by rw [List.length_append] at l1; omega
  have hn3 := fun W hR => Number_r g (Lib.uvarint lv.length ++ lv.flatMap levB) W hR (by omega)
  rw [c1, c2, c3] at hn3
  have l3 : (lv.flatMap levB).length ≤ 200000 := by rw [List.length_append] at l2; omega
  have h7z : ¬ ((7 : Int) < (lv.length : Int)) := by omega
  have HS : Hid _ := hS
  have hglt := hR.lt
  clear a1 a2 a3 b1 b2 b3 c1 c2 c3 e0 l1 l2 hst hS
  obtain ⟨w0, hw0⟩ : ∃ w0, w0 = w.alloc (.cells #[.int .u64 0, .int .u64 0, .slice none 0 0] 28) := ⟨_, rfl⟩
  have hb0 : Below w.heap.size w w0 := by rw [hw0]; exact (Below.refl _ _).alloc (Nat.le_refl _) _
  have y0 : w0.heap[w.heap.size]? = some (.cells #[.int .u64 0, .int .u64 0, .slice none 0 0] 28 (0, 0)) := by rw [hw0]; exact heap_alloc_new w _
  have hR0 := hR.below hb0 hglt
  have HW0 : Hid _ := hw0
  clear hw0 hR
  go_enter Tryd.func36, Tryd.ntmps36
  go_wp2_with fail
  rw [← HW0.out]
  refine (hn1 w0 hR0).mono ?_
  rintro e w1 ⟨rfl, hR1, hg1⟩
  go_wp2_with fail
  refine (hn2 w1 hR1).mono ?_
  rintro e w2 ⟨rfl, hR2, hg2⟩
  go_wp2_with fail
  refine (hn3 w2 hR2).mono ?_
  rintro e w3 ⟨rfl, hR3, hg3⟩
  have hg := grown_trans (grown_trans hg1 hg2) hg3
  have y3 := (hg.block _ (blk_lt y0) (fun e => by cases e; omega)).trans y0
  have hk3 : Kp w w3 (fun i => i = g) := Kp.of_grown (grown_trans (grown_of_below (g := g) hb0) hg) (fun k hk => by cases hk; rfl)
  have hmk := makeL_run lv.length (by omega)
  clear hn1 hn2 hn3 hg1 hg2 hg3 hR0 hR1 hR2 HW0 hg
  have hlb := heap_alloc_new w3 (.cells (zsL lv.length) 46)
  have hT0 : TK w g w3.heap.size lv.length lv 0 (.slice none 0 0) (fun _ => .slice none 0 0) (w3.alloc (.cells (zsL lv.length) 46)) :=
    ⟨⟨zsL lv.length, hlb, zsL_size _, fun j hj => by omega, fun j _ hj => zsL_get _ j hj⟩, fun j h hj => by omega, fun j i hj => by omega, ⟨none, 0, 0, rfl, ⟨rfl, .inl ⟨rfl, rfl⟩⟩⟩, (Below.heap_alloc _ _ _ (blk_lt y3)).trans y3, hk3.alloc _⟩
  have hR4 : Rd (w3.alloc (.cells (zsL lv.length) 46)) g (bstr ((lv.drop 0).flatMap levB)) := (Below.heap_alloc _ _ _ hR3.lt).trans hR3
  have z3 := hk3.size
  have z4 := blk_lt y3
  clear hk3 y3 y0 hR3 hlb
  go_wp2_with fail
  go_loopw [11, 48] (fun s11 s48 wr => ∃ (k : Nat) (vs : Nat → Value), s48 = .int .i64 (k : Int) ∧ k ≤ lv.length ∧ TK w g w3.heap.size lv.length lv k s11 vs wr ∧ Rd wr g (bstr ((lv.drop k).flatMap levB))) (fun _ s48 _ => lv.length - (intOf s48).toNat)
  case atStart => exact ⟨0, _, rfl, by omega, hT0, hR4⟩
  case round =>
    clear hT0 hR4
    obtain ⟨k, vs, rfl, hkl, hT, hRk⟩ := hrel
    obtain ⟨q, m, cap, rfl, hz⟩ := id hT.lev
    by_cases hlt : k < lv.length
    · have hkz : (k : Int) < (lv.length : Int) := by omega
      rw [flat_drop hlt] at hRk
      have hml := many_mem (List.getElem_mem hlt)
      have h64 : ∀ f ∈ lv[k], mayF f = true ∧ f.id < 18446744073709551616 := fun f hf => by
        have h1 := HS.out.f _ (List.getElem_mem hlt) f hf
        exact ⟨h1.1, by omega⟩
      have hln : (levB lv[k] ++ (lv.drop (k + 1)).flatMap levB).length ≤ 10000000 := by
        rw [← flat_drop hlt]
        have h1 : (lv.flatMap levB).length = ((lv.take k).flatMap levB).length + ((lv.drop k).flatMap levB).length := by
          conv => lhs; rw [← List.take_append_drop k lv, List.flatMap_append, List.length_append]
        omega
      obtain ⟨cur0, hl0, hs0, _, _⟩ := hT.lb
      have htl := takeLevel_ok g (w3.heap.size + 1) lv[k] ((lv.drop (k + 1)).flatMap levB) (.slice q 0 cap) wr hRk h64 (by omega) hln hz (by omega) (by have := blk_lt hl0; omega)
      have hhd : ∀ W : World, (Instr.slice 46 (.slice q m cap) none (some (.int .i64 0)) none).run Tryd.prog W = .ok (.slice q 0 cap) W := fun W => vhead_run (P := Tryd.prog) (t := 46) (q := q) (len := m) (cap := cap) (n := 0) (s := 4) Tryd.underlying46 (fun W => Tryd.sizeOf48 W) (Nat.zero_le _) W
      have HT : Hid _ := hT
      have hlw := blk_lt hl0
      clear hT hz hRk h64 hln hml hl0 hs0
      go_wp2_with fail
      refine htl.mono ?_
      rintro e w5 ⟨v', rfl, hown5, hR5, hk5, hnb5⟩
      rw [ob_len q 0 m cap] at hnb5
      have hk5' : Kp wr w5 (fun i => i = g ∨ (Value.slice q m cap).ownBlock = some i) := by rw [ob_len q m 0 cap]; exact hk5
      clear htl hhd hk5
      have hk5 := hk5'
      clear hk5'
      have HL5 : Hid (∃ c5 : Array Value, w5.heap[w3.heap.size]? = some (.cells c5 46 (0, 0)) ∧ c5[k]? = some (.slice none 0 0)) := by
        obtain ⟨c0, h1, h2, _, hzz⟩ := HT.out.lb
        refine ⟨c0, (hk5.block _ (blk_lt h1) (fun h => h.elim (fun e => by omega) (fun e => ?_))).trans h1, hzz k (Nat.le_refl _) hlt⟩
        obtain ⟨q1, m1, cap1, e1, ho1⟩ := HT.out.lev
        rw [e1, ob_len q1 m1 0 cap1] at e
        have := (own_blk_lt ho1 e).2.1
        omega
      rcases id hown5.2 with ⟨e5, e0⟩ | ⟨g5, cap5, cur5, e5, hbg5, hgg5, hnc5, hcm5, hcs5, htk5⟩
      · subst e5
        have hn0 : w5.ownsRow (w3.heap.size + 1) 48 4 (.slice none 0 0) 0 [] := ⟨rfl, .inl ⟨rfl, rfl⟩⟩
        have hg6 : w5.grownBy w5 none := ⟨rfl, rfl, rfl, Nat.le_refl _, fun _ _ _ => rfl⟩
        have hown6 := hown5
        have hv6 : ∀ i, (Value.slice none 0 0).ownBlock = some i → w5.heap.size ≤ i := fun i hi => by simp [Value.ownBlock] at hi
        obtain ⟨cur6, hl6, hs6⟩ : ∃ cur6 : Array Value, w5.heap[w3.heap.size]? = some (.cells cur6 46 (0, 0)) ∧ cur6[k]? = some (.slice none 0 0) := by
          obtain ⟨c5, h1, h2⟩ := HL5.out
          exact ⟨c5, (hg6.block _ (blk_lt h1) (by simp)).trans h1, h2⟩
        have c6 : w5.cell? ⟨w3.heap.size, k, none⟩ = some (.slice none 0 0) := ((vcb hl6).1 k).trans hs6
        have f6 : w5.frozen? ⟨w3.heap.size, k, none⟩ = false := (vcb hl6).2 k
        have hown7 : (w5.setCell ⟨w3.heap.size, k, none⟩ (.slice none 0 0)).ownsRow (w3.heap.size + 1) 48 4 (.slice none 0 0) lv[k].length (fcells lv[k]) := own_kept (w := w5) hown5 fun i hi => (heap_set_other _ (by have := (own_blk_lt hown5 hi).2.1; omega)).trans (hg6.block i (own_blk_lt hown5 hi).1 (by simp))
        obtain ⟨w8, hcl, k8, q8, cap8, e8, hz8⟩ := clear4 hown7
        have hTn := HT.out.next hlt rfl hglt z4 hk5 hown5 hnb5 hg6 hown6 hv6 k8 ⟨q8, _, cap8, e8, hz8⟩
        have hR8 : Rd w8 g (bstr ((lv.drop (k + 1)).flatMap levB)) := by
          have h1 := hR5.lt
          exact (k8.block g (by simp; have := hg6.size; omega) (fun h => by have := (own_blk_lt hown5 h).2.1; omega)).trans ((heap_set_other _ (by omega)).trans ((hg6.block g h1 (by simp)).trans hR5))
        have HTN : Hid _ := hTn
        have HR8 : Hid _ := hR8
        clear hTn hR8 k8 hz8 e8 hown7 hl6 hs6 hown6 hv6 hg6
        go_wp2_with (at_builtin; refine wpList_append_own_none rfl _ _ 46 rfl (w3.heap.size + 1) 48 i0 4 Tryd.underlying46 hi0 _ _ _ rfl hn0 rfl ?_)
        go_roundw
        case rel => exact ⟨k + 1, _, by go_num, by omega, HTN.out, HR8.out⟩
        case measure => simp [intOf]; omega
      · subst e5
        have hn0 : w5.ownsRow (w3.heap.size + 1) 48 4 (.slice none 0 0) 0 [] := ⟨rfl, .inl ⟨rfl, rfl⟩⟩
        have hnews : ∀ j u, (fcells lv[k])[j]? = some u → w5.cell? ((⟨g5, 0, none⟩ : Addr).add j) = some u := hown5.cells (g := g5) rfl
        have hfl := fcells_length lv[k]
        have hml := many_mem (List.getElem_mem hlt)
        by_cases hp : 0 < lv[k].length
        · go_wp2_with (at_builtin; refine wpList_app rfl _ _ 46 rfl (w3.heap.size + 1) 48 i0 (.agg #[.int .u64 0, .string ⟨#[]⟩, .string ⟨#[]⟩, .int .i64 0]) 4 48 Tryd.underlying46 hi0 hz0 hz1 hz2 rfl (by decide) _ _ _ rfl hn0 ⟨g5, 0, none⟩ lv[k].length cap5 (fcells lv[k]) hp rfl hfl hnews (fcells_one _) ?c3 ?c4 ?c5 ?_)
          case c3 => unfold maxLen; omega
          case c4 => omega
          case c5 => have := blk_lt hgg5; omega
          intro v2 w6 hown6' hg6' hv6'
          have hown6 : w6.ownsRow (w3.heap.size + 1) 48 4 v2 lv[k].length (fcells lv[k]) := hown6'
          have hg6 : w5.grownBy w6 none := hg6'
          have hv6 : ∀ i, v2.ownBlock = some i → w5.heap.size ≤ i := fun i hi => by
            rcases hv6' with h | h
            · rw [h] at hi
              simp [Value.ownBlock] at hi
            · rw [h] at hi
              cases hi
              exact Nat.le_refl _
          obtain ⟨q2, n2, cap2, rfl⟩ : ∃ q2 n2 cap2, v2 = .slice q2 n2 cap2 := by
            rcases hown6.2 with ⟨e, _⟩ | ⟨g, cap, cur, e, _⟩
            · exact ⟨_, _, _, e⟩
            · exact ⟨_, _, _, e⟩
          clear hown6' hg6' hv6'
          obtain ⟨cur6, hl6, hs6⟩ : ∃ cur6 : Array Value, w6.heap[w3.heap.size]? = some (.cells cur6 46 (0, 0)) ∧ cur6[k]? = some (.slice none 0 0) := by
            obtain ⟨c5, h1, h2⟩ := HL5.out
            exact ⟨c5, (hg6.block _ (blk_lt h1) (by simp)).trans h1, h2⟩
          have c6 : w6.cell? ⟨w3.heap.size, k, none⟩ = some (.slice none 0 0) := ((vcb hl6).1 k).trans hs6
          have f6 : w6.frozen? ⟨w3.heap.size, k, none⟩ = false := (vcb hl6).2 k
          have hown7 : (w6.setCell ⟨w3.heap.size, k, none⟩ (.slice q2 n2 cap2)).ownsRow (w3.heap.size + 1) 48 4 (.slice (some ⟨g5, 0, none⟩) lv[k].length cap5) lv[k].length (fcells lv[k]) := own_kept (w := w5) hown5 fun i hi => (heap_set_other _ (by have := (own_blk_lt hown5 hi).2.1; omega)).trans (hg6.block i (own_blk_lt hown5 hi).1 (by simp))
          obtain ⟨w8, hcl, k8, q8, cap8, e8, hz8⟩ := clear4 hown7
          have hTn := HT.out.next hlt rfl hglt z4 hk5 hown5 hnb5 hg6 hown6 hv6 k8 ⟨q8, _, cap8, e8, hz8⟩
          have hR8 : Rd w8 g (bstr ((lv.drop (k + 1)).flatMap levB)) := by
            have h1 := hR5.lt
            exact (k8.block g (by simp; have := hg6.size; omega) (fun h => by have := (own_blk_lt hown5 h).2.1; omega)).trans ((heap_set_other _ (by omega)).trans ((hg6.block g h1 (by simp)).trans hR5))
          have HTN : Hid _ := hTn
          have HR8 : Hid _ := hR8
          clear hTn hR8 k8 hz8 e8 hown7 hl6 hs6 hown6 hv6 hg6
          clear hnews hn0 hfl
          go_wp2
          go_roundw
          case rel => exact ⟨k + 1, _, by go_num, by omega, HTN.out, HR8.out⟩
          case measure => simp [intOf]; omega
        · have HZ : Hid (lv[k].length = 0) := by show _ = 0; omega
          clear hp
          go_wp2_with (at_builtin; refine wpList_append_own _ rfl _ _ 46 rfl (w3.heap.size + 1) 48 i0 (.agg #[.int .u64 0, .string ⟨#[]⟩, .string ⟨#[]⟩, .int .i64 0]) 4 48 Tryd.underlying46 hi0 hz0 hz1 hz2 rfl (by decide) _ _ _ rfl hn0 ⟨g5, 0, none⟩ lv[k].length cap5 (fcells lv[k]) rfl hfl hnews (fcells_one _) ?c3 ?c4 ?c5 ?_)
          case c3 => unfold maxLen; omega
          case c4 => omega
          case c5 => have := blk_lt hgg5; omega
          intro v2 w6 hown6' hg6' hv6'
          have hg6 : w5.grownBy w6 none := hg6'
          have ev2 : v2 = .slice none 0 0 := by first | exact hv6'.2 ⟨rfl, HZ.out⟩ | exact hv6'.2 HZ.out | exact hv6'.2 (List.eq_nil_of_length_eq_zero HZ.out)
          subst ev2
          have hown6 : w6.ownsRow (w3.heap.size + 1) 48 4 (.slice none 0 0) lv[k].length (fcells lv[k]) := hown6'
          have hv6 : ∀ i, (Value.slice none 0 0).ownBlock = some i → w5.heap.size ≤ i := fun i hi => by simp [Value.ownBlock] at hi
          clear hown6' hg6' hv6'
          obtain ⟨cur6, hl6, hs6⟩ : ∃ cur6 : Array Value, w6.heap[w3.heap.size]? = some (.cells cur6 46 (0, 0)) ∧ cur6[k]? = some (.slice none 0 0) := by
            obtain ⟨c5, h1, h2⟩ := HL5.out
            exact ⟨c5, (hg6.block _ (blk_lt h1) (by simp)).trans h1, h2⟩
          have c6 : w6.cell? ⟨w3.heap.size, k, none⟩ = some (.slice none 0 0) := ((vcb hl6).1 k).trans hs6
          have f6 : w6.frozen? ⟨w3.heap.size, k, none⟩ = false := (vcb hl6).2 k
          have hown7 : (w6.setCell ⟨w3.heap.size, k, none⟩ (.slice none 0 0)).ownsRow (w3.heap.size + 1) 48 4 (.slice (some ⟨g5, 0, none⟩) lv[k].length cap5) lv[k].length (fcells lv[k]) := own_kept (w := w5) hown5 fun i hi => (heap_set_other _ (by have := (own_blk_lt hown5 hi).2.1; omega)).trans (hg6.block i (own_blk_lt hown5 hi).1 (by simp))
          obtain ⟨w8, hcl, k8, q8, cap8, e8, hz8⟩ := clear4 hown7
          have hTn := HT.out.next hlt rfl hglt z4 hk5 hown5 hnb5 hg6 hown6 hv6 k8 ⟨q8, _, cap8, e8, hz8⟩
          have hR8 : Rd w8 g (bstr ((lv.drop (k + 1)).flatMap levB)) := by
            have h1 := hR5.lt
            exact (k8.block g (by simp; have := hg6.size; omega) (fun h => by have := (own_blk_lt hown5 h).2.1; omega)).trans ((heap_set_other _ (by omega)).trans ((hg6.block g h1 (by simp)).trans hR5))
          have HTN : Hid _ := hTn
          have HR8 : Hid _ := hR8
          clear hTn hR8 k8 hz8 e8 hown7 hl6 hs6 hown6 hv6 hg6
          clear hnews hn0 hfl
          go_wp2
          go_roundw
          case rel => exact ⟨k + 1, _, by go_num, by omega, HTN.out, HR8.out⟩
          case measure => simp [intOf]; omega
    · have hkz : ¬ (k : Int) < (lv.length : Int) := by omega
      have hke : k = lv.length := by omega
      subst hke
      obtain ⟨cur, hlb, hcs, hcu, _⟩ := hT.lb
      have hrows := hT.rows
      have hrc := hT.rc
      have hkp := hT.kp
      have hL : ∀ W : World, (∀ i, w.heap.size < i → i < wr.heap.size → W.heap[i]? = wr.heap[i]?) → LArg W (.slice (some ⟨w3.heap.size, 0, none⟩) lv.length lv.length) ((List.range lv.length).map vs) lv := fun W hW => by
        refine ⟨by simp, ⟨_, _, rfl, Nat.le_refl _, fun _ => ⟨w3.heap.size, 0, rfl, ?_, fun j u hu => ?_⟩⟩, fun j u l hu hl => ?_⟩
        · exact blk_lt ((hW _ (by omega) (blk_lt hlb)).trans hlb)
        · have hj : j < lv.length := by
            have := (List.getElem?_eq_some_iff.1 hu).1
            simpa using this
          rw [(vcb ((hW _ (by omega) (blk_lt hlb)).trans hlb)).1, Nat.zero_add, hcu j hj]
          simpa [hj] using hu
        · have hj : j < lv.length := (List.getElem?_eq_some_iff.1 hl).1
          have hle : lv[j] = l := (List.getElem?_eq_some_iff.1 hl).2
          have hue : vs j = u := by simpa [hj] using hu
          subst hue hle
          have hr := hrows j hj hj
          exact own_varg (own_kept hr fun i hi => hW i (by have := (own_blk_lt hr hi).2.1; omega) (own_blk_lt hr hi).1)
      have HLL : Hid _ := hL
      have hRe : Rd wr g (bstr []) := by
        rw [List.drop_length] at hRk
        exact hRk
      obtain ⟨q0, q1, q2⟩ : wr.cell? ⟨w.heap.size, 0, none⟩ = some (.int .u64 0) ∧ wr.cell? ⟨w.heap.size, 1, none⟩ = some (.int .u64 0) ∧ wr.cell? ⟨w.heap.size, 2, none⟩ = some (.slice none 0 0) := ⟨(vcb hrc).1 0, (vcb hrc).1 1, (vcb hrc).1 2⟩
      obtain ⟨f0, f1, f2⟩ : wr.frozen? ⟨w.heap.size, 0, none⟩ = false ∧ wr.frozen? ⟨w.heap.size, 1, none⟩ = false ∧ wr.frozen? ⟨w.heap.size, 2, none⟩ = false := ⟨(vcb hrc).2 0, (vcb hrc).2 1, (vcb hrc).2 2⟩
      have hlf := Left_any g [] wr hRe
      clear hL hrows hcu hcs hlb hT hz hRk
      go_wp2_with fail
      refine hlf.mono ?_
      rintro e w' ⟨rfl, rfl⟩
      have h1 := heap_set_same hrc (o := 0) (.int .u64 (next : Int))
      have h2 := heap_set_same h1 (o := 1) (.int .u64 (log : Int))
      have h3 := heap_set_same h2 (o := 2) (.slice (some ⟨w3.heap.size, 0, none⟩) lv.length lv.length)
      have ho : ∀ i, i ≠ w.heap.size → (((w'.setCell ⟨w.heap.size, 0, none⟩ (.int .u64 (next : Int))).setCell ⟨w.heap.size, 1, none⟩ (.int .u64 (log : Int))).setCell ⟨w.heap.size, 2, none⟩ (.slice (some ⟨w3.heap.size, 0, none⟩) lv.length lv.length)).heap[i]? = w'.heap[i]? := fun i hi => (heap_set_other _ hi).trans ((heap_set_other _ hi).trans (heap_set_other _ hi))
      have HV : Hid (∀ W : World, (∀ i, w.heap.size < i → i < (((w'.setCell ⟨w.heap.size, 0, none⟩ (.int .u64 (next : Int))).setCell ⟨w.heap.size, 1, none⟩ (.int .u64 (log : Int))).setCell ⟨w.heap.size, 2, none⟩ (.slice (some ⟨w3.heap.size, 0, none⟩) lv.length lv.length)).heap.size → W.heap[i]? = (((w'.setCell ⟨w.heap.size, 0, none⟩ (.int .u64 (next : Int))).setCell ⟨w.heap.size, 1, none⟩ (.int .u64 (log : Int))).setCell ⟨w.heap.size, 2, none⟩ (.slice (some ⟨w3.heap.size, 0, none⟩) lv.length lv.length)).heap[i]?) → LArg W (.slice (some ⟨w3.heap.size, 0, none⟩) lv.length lv.length) ((List.range lv.length).map vs) lv) := fun W hW => HLL.out W (fun i h1 h2 => (hW i h1 (by simpa using h2)).trans (ho i (by omega)))
      have HG : Hid (w.grownBy (((w'.setCell ⟨w.heap.size, 0, none⟩ (.int .u64 (next : Int))).setCell ⟨w.heap.size, 1, none⟩ (.int .u64 (log : Int))).setCell ⟨w.heap.size, 2, none⟩ (.slice (some ⟨w3.heap.size, 0, none⟩) lv.length lv.length)) (some g)) := ⟨hkp.os, hkp.tape, hkp.output, by simpa using hkp.size, fun i h1 h2 => (ho i (by omega)).trans (hkp.block i h1 (fun e => h2 (by rw [e])))⟩
      have r0 : (((w'.setCell ⟨w.heap.size, 0, none⟩ (.int .u64 (next : Int))).setCell ⟨w.heap.size, 1, none⟩ (.int .u64 (log : Int))).setCell ⟨w.heap.size, 2, none⟩ (.slice (some ⟨w3.heap.size, 0, none⟩) lv.length lv.length)).cell? ⟨w.heap.size, 0, none⟩ = some (.int .u64 (next : Int)) := (vcb h3).1 0
      have r1 : (((w'.setCell ⟨w.heap.size, 0, none⟩ (.int .u64 (next : Int))).setCell ⟨w.heap.size, 1, none⟩ (.int .u64 (log : Int))).setCell ⟨w.heap.size, 2, none⟩ (.slice (some ⟨w3.heap.size, 0, none⟩) lv.length lv.length)).cell? ⟨w.heap.size, 1, none⟩ = some (.int .u64 (log : Int)) := (vcb h3).1 1
      have r2 : (((w'.setCell ⟨w.heap.size, 0, none⟩ (.int .u64 (next : Int))).setCell ⟨w.heap.size, 1, none⟩ (.int .u64 (log : Int))).setCell ⟨w.heap.size, 2, none⟩ (.slice (some ⟨w3.heap.size, 0, none⟩) lv.length lv.length)).cell? ⟨w.heap.size, 2, none⟩ = some (.slice (some ⟨w3.heap.size, 0, none⟩) lv.length lv.length) := (vcb h3).1 2
      have HR0 : Hid _ := r0
      have HR1 : Hid _ := r1
      have HR2 : Hid _ := r2
      clear r0 r1 r2 h1 h2 h3 ho hkp hrc HLL hlf
      go_wp2
      have r0 := HR0.out
      have r1 := HR1.out
      have r2 := HR2.out
      generalize ((w'.setCell ⟨w.heap.size, 0, none⟩ (.int .u64 (next : Int))).setCell ⟨w.heap.size, 1, none⟩ (.int .u64 (log : Int))).setCell ⟨w.heap.size, 2, none⟩ (.slice (some ⟨w3.heap.size, 0, none⟩) lv.length lv.length) = W9 at *
      exact bodyPost_ret (v := .tuple #[.agg #[.int .u64 (next : Int), .int .u64 (log : Int), .slice (some ⟨w3.heap.size, 0, none⟩) lv.length lv.length], .bool true]) (by rw [vres2 Tryd.results36]; simp [go_sem, r0, r1, r2]) rfl ⟨_, _, rfl, HV.out, HG.out⟩

end Go.Proofs.YtnfnlfdplnekgaaDoor
