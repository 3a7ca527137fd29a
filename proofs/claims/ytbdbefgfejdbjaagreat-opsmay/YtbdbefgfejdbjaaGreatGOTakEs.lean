/-
  ops.DecodeEntry: the entry of bytes.
  Entries taken, how many first: each by itself, out of a text.
-/
import Derived.Test.YtbdbefgfejdbjaaGreatGOOpen2
import Derived.Test.YtbdbefgfejdbjaaGreatGOTakEnt
import Derived.Great.BuildSlice
namespace Go.Proofs.YtbdbefgfejdbjaaGreat
open Go.RowKit Go.BigFrame
attribute [local go_sem] size_bstr toList_bstr

def gi : Lit → Int
  | .int _ n => n
  | _ => 0
def gs : Lit → List UInt8
  | .string s => s
  | _ => []
def gb : Lit → Bool
  | .bool b => b
  | _ => false
abbrev at_ (v : List Lit) (i : Nat) : Lit := v.getD i .nil
def oqOf (v : List Lit) (i : Nat) : Oq := ⟨gi (at_ v i), gs (at_ v (i + 1)), gs (at_ v (i + 2)), gs (at_ v (i + 3)), gb (at_ v (i + 4)), gs (at_ v (i + 5))⟩
def wtOf (v : List Lit) (i : Nat) : Wt := ⟨gb (at_ v i), gi (at_ v (i + 1)), gs (at_ v (i + 2)), gi (at_ v (i + 3)), gi (at_ v (i + 4))⟩
def cmOf (v : List Lit) (i : Nat) : Cm := ⟨gi (at_ v i), gi (at_ v (i + 1)), gi (at_ v (i + 2)), gi (at_ v (i + 3)), oqOf v (i + 4), gi (at_ v (i + 10)), gi (at_ v (i + 11)), gs (at_ v (i + 12)), gs (at_ v (i + 13)), gi (at_ v (i + 14)), wtOf v (i + 15)⟩
def etOf (v : List Lit) (mem : List Int) (q : Option Addr) (cap : Nat) : Et := ⟨gi (at_ v 0), gi (at_ v 1), gi (at_ v 2), cmOf v 3, mem, q, cap⟩
def okEl (v : List Lit) (mem : List Int) : Bool := okE (gi (at_ v 0)) (gi (at_ v 1)) (gi (at_ v 2)) (cmOf v 3) mem
/-- Where the taker stands behind an entry; is it one, and nothing behind it? -/
def entEnd (l : List UInt8) : Ps := memE (takSs entK ⟨true, l⟩)
def entHd (l : List UInt8) : List Lit := takVs entK ⟨true, l⟩
def entMem (l : List UInt8) : List Int := memI (takSs entK ⟨true, l⟩)
def decEO (l : List UInt8) : Bool := (entEnd l).a && decide ((entEnd l).l.length = 0) && okEl (entHd l) (entMem l)
theorem res_two {fn : Func} {p u : Tmp} {ty : TypeId} (h : fn.results = #[.cell p ty, .tmp u]) {R : Ending → World → Prop} {a : Act} {w : World} {b : Nat} {cs : List Value} {d : TypeDesc} {v : Value} (hu : Tryz.prog.underlying ty = some d) (hd : d.isRow = true) (hi : (Tryz.prog.info? ty).map (·.size) = some cs.length)
    (hp : a.tmps.getD p undef = .pointer (some ⟨b, 0, none⟩)) (hv : a.tmps.getD u undef = v) (hat : Blk w b ty cs.toArray) (hdf : a.defers = []) (hR : R (.returned (.tuple #[.agg cs.toArray, v])) w) :
    bodyPost Tryz.prog fn R .ret a w := by
  refine bodyPost_ret (v := .tuple #[.agg cs.toArray, v]) ?_ hdf hR
  rw [res_cell2 h, hp, hv]
  have := run_loadVar_mid (P := Tryz.prog) w b 0 ty cs d (range_of_block hat [] cs [] (by simp)) hu hd hi
  simp [asAddr, this]
def etZ : List Value := [.int .u64 0, .int .u64 0, .int .i64 0, .int .i64 0, .int .i64 0, .int .u64 0, .int .u64 0, .int .i64 0, .string ⟨#[]⟩, .string ⟨#[]⟩, .string ⟨#[]⟩, .bool false, .string ⟨#[]⟩, .int .u64 0, .int .i64 0, .string ⟨#[]⟩, .string ⟨#[]⟩, .int .i64 0, .bool false, .int .i64 0, .string ⟨#[]⟩, .int .i64 0, .int .i64 0, .slice none 0 0]
/-- What it answers. -/
def DecEQ (l : List UInt8) (w : World) (e : Ending) (w' : World) : Prop := Below w.heap.size w w' ∧
  ((decEO l = true ∧ ∃ q cap, e = .returned (.tuple #[.agg (etC (etOf (entHd l) (entMem l) q cap)).toArray, .int .i64 0]) ∧ INew w' (w.heap.size + 1) q (entMem l)) ∨
   (decEO l = false ∧ e = .returned (.tuple #[.agg etZ.toArray, .int .i64 4])))
theorem memI_length (s : Ps) : (memI s).length = memN s := memL_length _ _
theorem blk_store {w : World} {b : Nat} {t : TypeId} {cs : Array Value} {vs : List Value} (h : Blk w b t cs) (hv : vs.length = cs.size) : Blk (w.setCells b 0 vs) b t vs.toArray := by
  have := blk_cells vs 0 h
  rw [setL_all hv] at this
  exact this
theorem blk_cells_other {k b : Nat} {t : TypeId} {cs : Array Value} (hk : b ≠ k) : ∀ (vs : List Value) (o : Nat) {w : World}, Blk w b t cs → Blk (w.setCells k o vs) b t cs
  | [], _, _, h => h
  | _ :: r, o, _, h => blk_cells_other hk r (o + 1) (blk_other h hk)

set_option maxHeartbeats 8000000 in
set_option maxRecDepth 100000 in
theorem oDecE_any (l : List UInt8) (w : World) (hl : l.length ≤ 1048576) :
    Calls Tryz.prog 68 #[.string (bstr l), .func (.func 19) #[] #[], .func (.func 69) #[] #[]] w (DecEQ l w) := by
  have hz0 := blk_new w 38 etZ.toArray
  obtain ⟨Q, hQ⟩ : ∃ Q, Q = DecEQ l w := ⟨_, rfl⟩
  rw [← hQ]
  have HQ : Hid _ := hQ
  clear hQ
  go_enter Tryz.func68, Tryz.ntmps68
  go_wp2_with fail
  refine (jNew_any l _).mono ?_
  rintro x w1 ⟨g, nr, na, rfl, ⟨W0, hT⟩, hg, hna, hb1⟩
  rw [World.size_alloc] at hg hna
  have hz1 : Blk w1 w.heap.size 38 etZ.toArray := blk_below hz0 hb1
  have hB1 : Below w.heap.size w w1 := bel_call hb1 (bel_alloc (Below.refl _ _))
  obtain ⟨N, hN⟩ : ∃ N, N = w1.heap.size := ⟨_, rfl⟩
  obtain ⟨w2, hw2⟩ : ∃ w2, w2 = w1.alloc (.cells #[tk1 nr na, tk2 nr na, tk3 nr na] 108) := ⟨_, rfl⟩
  have hb2 : Below w1.heap.size w1 w2 := by rw [hw2]; exact (Below.refl _ _).alloc (Nat.le_refl _) _
  have hz2 := blk_below hz1 hb2
  have hbx : Blk w2 N 108 #[tk1 nr na, tk2 nr na, tk3 nr na] := by rw [hw2, hN]; exact heap_alloc_new w1 _
  have c0 : w2.cell? ⟨N, 0, none⟩ = some (tk1 nr na) := (mcells hbx).1 0
  have c1 : w2.cell? ⟨N, 1, none⟩ = some (tk2 nr na) := (mcells hbx).1 1
  have c2 : w2.cell? ⟨N, 2, none⟩ = some (tk3 nr na) := (mcells hbx).1 2
  have hT2 := hT.step hb2
  have hgN : g < w1.heap.size := hT.rd.lt
  have hnaN : na < w1.heap.size := hT.rn
  have M1 : Hid (N ≠ g) := by show _ ≠ _; omega
  have M2 : Hid (N ≠ na) := by show _ ≠ _; omega
  have M3 : Hid (w.heap.size ≠ g) := by show _ ≠ _; omega
  have M4 : Hid (w.heap.size ≠ na) := by show _ ≠ _; omega
  have hwN : w.heap.size < N := by rw [hN]; exact blk_lt hz1
  have hN2 : w2.heap.size = N + 1 := by rw [hw2, hN]; simp
  have M5 : Hid (w.heap.size + 1 ≤ w2.heap.size) := by show _ ≤ _; omega
  have M6 : Hid (w.heap.size ≤ g ∧ w.heap.size ≤ na) := by constructor <;> omega
  have M7 : Hid (g < w2.heap.size ∧ na < w2.heap.size) := by constructor <;> omega
  have MB : Hid _ := bel_call hb2 hB1
  have HW : Hid _ := hw2
  have HN : Hid _ := hN
  have HZ : Hid (Blk w2 w.heap.size 38 etZ.toArray) := hz2
  have HT2 : Hid _ := hT2
  clear hg hna hgN hnaN hb1 hB1 hb2 hz0 hz1 hz2 hw2 hT hwN hN2 hbx
  go_upto_region 2 with fail
  rw [← HN.out]
  have HW2 := HW.out
  rw [← HW2]
  clear HW2 HW HN hN
  go_wp2_with fail
  refine (oTakEntry_any g nr na ⟨true, l⟩ W0 w2 HT2.out hl).mono ?_
  rintro x w3 ⟨q, cap, rfl, hn, hT3, k3⟩
  have hval : Value.agg ((takVs entK ⟨true, l⟩).map Lit.toCell ++ [Value.slice q (memN (takSs entK ⟨true, l⟩)) cap]).toArray = .agg (etC (etOf (entHd l) (entMem l) q cap)).toArray := by
    rw [← memI_length]
    rfl
  rw [hval]
  clear hval
  obtain ⟨e, he⟩ : ∃ e : Et, e = etOf (entHd l) (entMem l) q cap := ⟨_, rfl⟩
  have hin : IArg w3 e.q e.mem := by rw [he]; exact hn.arg
  have hml : e.mem.length ≤ 9223372036854775807 := by
    rw [he]
    have := nX_le (takSs entK ⟨true, l⟩).a 5 (takSs entK ⟨true, l⟩).l
    show (memI _).length ≤ _
    rw [memI_length]
    show nX _ 5 _ ≤ _
    omega
  have hoke : okE e.ix e.te e.kd e.cm e.mem = okEl (entHd l) (entMem l) := by rw [he]; rfl
  rw [← he]
  have HE : Hid _ := he
  have HN3 : Hid (INew w3 w2.heap.size q (entMem l)) := hn
  have HML : Hid _ := hml
  have HOKE : Hid _ := hoke
  clear he hn hml hoke
  replace c0 := (k3.cell (block_lt_of_cell c0) M1.out M2.out).trans c0
  replace c1 := (k3.cell (block_lt_of_cell c1) M1.out M2.out).trans c1
  replace c2 := (k3.cell (block_lt_of_cell c2) M1.out M2.out).trans c2
  have hz3 : Blk w3 w.heap.size 38 etZ.toArray := (k3.2 _ (blk_lt HZ.out) M3.out M4.out).trans HZ.out
  have hone : (etC e).toArray.all (·.oneCell') = true := by kernel_rfl
  obtain ⟨X, hX⟩ : ∃ X, X = w3.heap.size := ⟨_, rfl⟩
  obtain ⟨w4, hw4⟩ : ∃ w4, w4 = (w3.alloc (.cells etZ.toArray 38)).setCells w3.heap.size 0 (etC e).toArray.toList := ⟨_, rfl⟩
  have hb4 : Below w3.heap.size w3 w4 := by rw [hw4]; exact bel_cells (Nat.le_refl _) _ _ ((Below.refl _ _).alloc (Nat.le_refl _) _)
  have hx4 : Blk w4 X 38 (etC e).toArray := by rw [hw4, hX]; exact blk_store (blk_new w3 38 etZ.toArray) rfl
  have hz4 := blk_below hz3 hb4
  replace c0 := cell_below hb4 c0
  replace c1 := cell_below hb4 c1
  replace c2 := cell_below hb4 c2
  have hT4 := hT3.step hb4
  have k4 : Kt g na w2 w4 := k3.trans (Kt.below hb4)
  have HB4 : Hid _ := bel_kt MB.out HT2.out hT4 k4 M6.out.1 M6.out.2
  have hin4 := hin.below hb4
  have HN4 : Hid (INew w4 w2.heap.size q (entMem l)) := HN3.out.below hb4
  have hXw : w.heap.size < X := by rw [hX]; exact blk_lt hz3
  have MX : Hid _ := hXw
  have HW : Hid _ := hw4
  have HX : Hid _ := hX
  have HZ4 : Hid (Blk w4 w.heap.size 38 etZ.toArray) := hz4
  have HX4 : Hid (Blk w4 X 38 (etC e).toArray) := hx4
  clear hb4 hw4 hz3 hT3 k3 k4 hXw hin HN3 HT2 HZ MB hz4 hx4
  go_upto_region 3 with (first | refine wpList_store_mid rfl 38 _ _ rfl w3.heap.size 0 (etC e).toArray rfl rfl (blk_there (blk_new w3 _ _) rfl) (by kernel_rfl) hone ?_ | fail)
  have HW2 := HW.out
  rw [← HX.out]
  rw [show etZ.toArray = #[.int .u64 0, .int .u64 0, .int .i64 0, .int .i64 0, .int .i64 0, .int .u64 0, .int .u64 0, .int .i64 0, .string ⟨#[]⟩, .string ⟨#[]⟩, .string ⟨#[]⟩, .bool false, .string ⟨#[]⟩, .int .u64 0, .int .i64 0, .string ⟨#[]⟩, .string ⟨#[]⟩, .int .i64 0, .bool false, .int .i64 0, .string ⟨#[]⟩, .int .i64 0, .int .i64 0, .slice none 0 0] from rfl, ← HX.out] at HW2
  rw [← HW2]
  clear HW2 HW HX hX
  obtain ⟨wh, hwh⟩ : ∃ wh, wh = ((entEnd l).a && decide ((entEnd l).l.length = 0)) := ⟨_, rfl⟩
  have hdo : decEO l = (wh && okE e.ix e.te e.kd e.cm e.mem) := by rw [HOKE.out, hwh]; rfl
  have HDO : Hid _ := hdo
  have HWH : Hid _ := hwh
  clear hdo hwh HOKE
  go_wp2_with fail
  refine (jWhole_any g nr na (entEnd l).a (entEnd l).l W0 w4 hT4).mono ?_
  rintro x w5 ⟨rfl, rfl⟩
  rw [← HWH.out]
  clear HWH hT4 c0 c1 c2
  have hl24 : (Tryz.prog.info? 38).map (·.size) = some (etC e).length := by rw [show (etC e).length = 24 from rfl]; kernel_rfl
  have hlz : (Tryz.prog.info? 38).map (·.size) = some etZ.length := by kernel_rfl
  cases wh
  case false =>
    have hzz0 : Blk (w5.alloc (.cells etZ.toArray 38)) w.heap.size 38 etZ.toArray := blk_below HZ4.out ((Below.refl _ _).alloc (Nat.le_refl _) _)
    have hnn0 := blk_new w5 38 etZ.toArray
    have hbb0 : Below w.heap.size w (w5.alloc (.cells etZ.toArray 38)) := bel_alloc HB4.out
    obtain ⟨y, hy⟩ : ∃ y, y = w5.alloc (.cells etZ.toArray 38) := ⟨_, rfl⟩
    rw [← hy] at hzz0 hnn0 hbb0
    have hry : y.rangeAt w5.heap.size 0 etZ := range_of_block hnn0 [] etZ [] (by simp)
    have HY : Hid _ := hy
    clear hnn0 hy
    go_upto_region 5 with fail
    have hy := HY.out
    rw [show etZ.toArray = #[.int .u64 0, .int .u64 0, .int .i64 0, .int .i64 0, .int .i64 0, .int .u64 0, .int .u64 0, .int .i64 0, .string ⟨#[]⟩, .string ⟨#[]⟩, .string ⟨#[]⟩, .bool false, .string ⟨#[]⟩, .int .u64 0, .int .i64 0, .string ⟨#[]⟩, .string ⟨#[]⟩, .int .i64 0, .bool false, .int .i64 0, .string ⟨#[]⟩, .int .i64 0, .int .i64 0, .slice none 0 0] from rfl] at hy
    rw [← hy]
    clear hy HY
    go_wp2_with (first | refine wpList_load_mid rfl 38 _ rfl w5.heap.size 0 rfl etZ _ hry Tryz.underlying38 rfl hlz ?_ | refine wpList_store_mid rfl 38 _ _ rfl w.heap.size 0 etZ.toArray rfl rfl (blk_there hzz0 rfl) hlz (by kernel_rfl) ?_ | fail)
    refine res_two (cs := etZ) rfl Tryz.underlying38 rfl hlz rfl rfl (blk_store hzz0 rfl) rfl ?_
    rw [HQ.out]
    exact ⟨bel_cells (Nat.le_refl _) _ _ hbb0, Or.inr ⟨HDO.out, rfl⟩⟩
  case true =>
    have hrx : w5.rangeAt X 0 (etC e) := range_of_block HX4.out [] (etC e) [] (by simp)
    go_wp2_with (first | refine wpList_load_w (by kernel_rfl) 38 _ rfl X 0 rfl (etC e) _ hrx Tryz.underlying38 rfl hl24 ?_ | fail)
    refine (oEntry_any e w5 hin4 HML.out).mono ?_
    rintro x w6 ⟨rfl, hb6⟩
    have hz6 := blk_below HZ4.out hb6
    have hx6 := blk_below HX4.out hb6
    have hB6 := below2 HB4.out hb6
    have hn6 := HN4.out.below hb6
    clear hrx hin4 HX4 HZ4 HB4 HN4 hb6
    obtain ⟨ok, hok⟩ : ∃ ok, ok = okE e.ix e.te e.kd e.cm e.mem := ⟨_, rfl⟩
    rw [← hok] at HDO ⊢
    clear hok
    cases ok
    case false =>
      have hzz1 : Blk (w6.alloc (.cells etZ.toArray 38)) w.heap.size 38 etZ.toArray := blk_below hz6 ((Below.refl _ _).alloc (Nat.le_refl _) _)
      have hnn1 := blk_new w6 38 etZ.toArray
      have hbb1 : Below w.heap.size w (w6.alloc (.cells etZ.toArray 38)) := bel_alloc hB6
      obtain ⟨y, hy⟩ : ∃ y, y = w6.alloc (.cells etZ.toArray 38) := ⟨_, rfl⟩
      rw [← hy] at hzz1 hnn1 hbb1
      have hry : y.rangeAt w6.heap.size 0 etZ := range_of_block hnn1 [] etZ [] (by simp)
      have HY : Hid _ := hy
      clear hnn1 hy
      go_upto_region 5 with fail
      have hy := HY.out
      rw [show etZ.toArray = #[.int .u64 0, .int .u64 0, .int .i64 0, .int .i64 0, .int .i64 0, .int .u64 0, .int .u64 0, .int .i64 0, .string ⟨#[]⟩, .string ⟨#[]⟩, .string ⟨#[]⟩, .bool false, .string ⟨#[]⟩, .int .u64 0, .int .i64 0, .string ⟨#[]⟩, .string ⟨#[]⟩, .int .i64 0, .bool false, .int .i64 0, .string ⟨#[]⟩, .int .i64 0, .int .i64 0, .slice none 0 0] from rfl] at hy
      rw [← hy]
      clear hy HY
      go_wp2_with (first | refine wpList_load_mid rfl 38 _ rfl w6.heap.size 0 rfl etZ _ hry Tryz.underlying38 rfl hlz ?_ | refine wpList_store_mid rfl 38 _ _ rfl w.heap.size 0 etZ.toArray rfl rfl (blk_there hzz1 rfl) hlz (by kernel_rfl) ?_ | fail)
      refine res_two (cs := etZ) rfl Tryz.underlying38 rfl hlz rfl rfl (blk_store hzz1 rfl) rfl ?_
      rw [HQ.out]
      exact ⟨bel_cells (Nat.le_refl _) _ _ hbb1, Or.inr ⟨HDO.out, rfl⟩⟩
    case true =>
      have hrx : w6.rangeAt X 0 (etC e) := range_of_block hx6 [] (etC e) [] (by simp)
      go_wp2_with (first | refine wpList_load_mid rfl 38 _ rfl X 0 rfl (etC e) _ hrx Tryz.underlying38 rfl hl24 ?_ | refine wpList_store_mid rfl 38 _ _ rfl w.heap.size 0 (etC e).toArray rfl rfl (blk_there hz6 rfl) hl24 hone ?_ | fail)
      refine res_two (cs := etC e) rfl Tryz.underlying38 rfl hl24 rfl rfl (blk_store hz6 rfl) rfl ?_
      rw [HQ.out]
      refine ⟨bel_cells (Nat.le_refl _) _ _ hB6, Or.inl ⟨HDO.out, q, cap, by rw [← HE.out]; rfl, ?_⟩⟩
      exact INew.cells (Nat.lt_succ_self _) _ _ (hn6.mono M5.out)

set_option maxHeartbeats 8000000 in
set_option maxRecDepth 100000 in
/-- ops.DecodeEntry. -/
theorem oDecodeE_any (l : List UInt8) (w : World) (hl : l.length ≤ 1048576) :
    Calls Tryz.prog 29 #[.string (bstr l)] w (DecEQ l w) := by
  have hz0 := blk_new w 38 etZ.toArray
  have hB0 : Below w.heap.size w (w.alloc (.cells etZ.toArray 38)) := (Below.refl _ _).alloc (Nat.le_refl _) _
  obtain ⟨Q, hQ⟩ : ∃ Q, Q = DecEQ l w := ⟨_, rfl⟩
  rw [← hQ]
  have HQ : Hid _ := hQ
  clear hQ
  go_enter Tryz.func29, Tryz.ntmps29
  go_wp2_with fail
  refine (oDecE_any l _ hl).mono ?_
  rintro x w1 ⟨hb1, hx⟩
  have hz1 : Blk w1 w.heap.size 38 etZ.toArray := blk_below hz0 hb1
  have hB1 := bel_call hb1 hB0
  clear hz0 hB0 hb1
  rcases hx with ⟨hd, q, cap, rfl, hn⟩ | ⟨hd, rfl⟩
  · have hn' : INew w1 (w.heap.size + 1) q (entMem l) := hn.mono (by simp)
    clear hn
    obtain ⟨e, he⟩ : ∃ e : Et, e = etOf (entHd l) (entMem l) q cap := ⟨_, rfl⟩
    rw [← he]
    have HE : Hid _ := he
    have HD : Hid _ := hd
    clear he hd
    have hl24 : (Tryz.prog.info? 38).map (·.size) = some (etC e).length := by rw [show (etC e).length = 24 from rfl]; kernel_rfl
    have hone : (etC e).toArray.all (·.oneCell') = true := by kernel_rfl
    go_wp2_with (first | refine wpList_store_mid rfl 38 _ _ rfl w.heap.size 0 (etC e).toArray rfl rfl (blk_there hz1 rfl) hl24 hone ?_ | fail)
    refine res_two (cs := etC e) rfl Tryz.underlying38 rfl hl24 rfl rfl (blk_store hz1 rfl) rfl ?_
    rw [HQ.out]
    exact ⟨bel_cells (Nat.le_refl _) _ _ hB1, Or.inl ⟨HD.out, q, cap, by rw [← HE.out]; rfl, INew.cells (Nat.lt_succ_self _) _ _ hn'⟩⟩
  · have HD : Hid _ := hd
    clear hd
    have hlz : (Tryz.prog.info? 38).map (·.size) = some etZ.length := by kernel_rfl
    go_wp2_with (first | refine wpList_store_mid rfl 38 _ _ rfl w.heap.size 0 etZ.toArray rfl rfl (blk_there hz1 rfl) hlz (by kernel_rfl) ?_ | fail)
    refine res_two (cs := etZ) rfl Tryz.underlying38 rfl hlz rfl rfl (blk_store hz1 rfl) rfl ?_
    rw [HQ.out]
    exact ⟨bel_cells (Nat.le_refl _) _ _ hB1, Or.inr ⟨HD.out, rfl⟩⟩

end Go.Proofs.YtbdbefgfejdbjaaGreat

namespace Go.Proofs.YtbdbefgfejdbjaaGreat
open Go.RowKit Go.BigFrame
attribute [local go_sem] size_bstr toList_bstr

/-- What a text is as an entry: one that may not be, where it is none. -/
def etZL : List Lit := [.int .u64 0, .int .u64 0, .int .i64 0, .int .i64 0, .int .i64 0, .int .u64 0, .int .u64 0, .int .i64 0, .string [], .string [], .string [], .bool false, .string [], .int .u64 0, .int .i64 0, .string [], .string [], .int .i64 0, .bool false, .int .i64 0, .string [], .int .i64 0, .int .i64 0]
def entP (l : List UInt8) : List Lit × List Int := if decEO l then (entHd l, entMem l) else (etZL, [])
theorem etZ_enC : etZ = enC ⟨etZL, [], none, 0⟩ := rfl
theorem tX_len (a : Bool) (l : List UInt8) : (tX a l).length ≤ 1048576 := by
  unfold tX
  split
  · rename_i h
    simp only [tA, Bool.and_eq_true] at h
    exact (okT_back h.2).2
  · simp
def EntTQ (g nr na : Nat) (s : Ps) (W0 W : World) (e : Ending) (W' : World) : Prop := ∃ q cap, e = .returned (.agg (enC ⟨(entP (tX s.a s.l)).1, (entP (tX s.a s.l)).2, q, cap⟩).toArray) ∧ INew W' W.heap.size q (entP (tX s.a s.l)).2 ∧ Tk W0 g nr na (takS .S s).a (takS .S s).l W' ∧ Kt g na W W'

set_option maxHeartbeats 8000000 in
set_option maxRecDepth 100000 in
theorem oEntText_any (g nr na : Nat) (s : Ps) (W0 W : World) (h : Tk W0 g nr na s.a s.l W) (hl : s.l.length ≤ 1048576) :
    Calls Tryz.prog 102 #[tkV nr na] W (EntTQ g nr na s W0 W) := by
  obtain ⟨w1, hw1⟩ : ∃ w1, w1 = (W.alloc (.cells #[tk1 nr na, tk2 nr na, tk3 nr na] 108)).alloc (.cells etZ.toArray 38) := ⟨_, rfl⟩
  have hTS : TS W0 W g nr na 38 etZ.toArray s w1 := by rw [hw1]; exact TS.start h
  have hg := h.rd.lt
  have hna := h.rn
  have HG : Hid (g < W.heap.size ∧ na < W.heap.size) := ⟨hg, hna⟩
  obtain ⟨Q, hQ⟩ : ∃ Q, Q = EntTQ g nr na s W0 W := ⟨_, rfl⟩
  rw [← hQ]
  have HQ : Hid _ := hQ
  have c1 : w1.cell? ⟨W.heap.size, 1, none⟩ = some (tk2 nr na) := (mcells hTS.bx).1 1
  have HW : Hid _ := hw1
  clear hQ hw1 hg hna h
  go_enter Tryz.func102, Tryz.ntmps102
  go_upto_region 1 with fail
  have hw1 := HW.out
  rw [show etZ.toArray = #[.int .u64 0, .int .u64 0, .int .i64 0, .int .i64 0, .int .i64 0, .int .u64 0, .int .u64 0, .int .i64 0, .string ⟨#[]⟩, .string ⟨#[]⟩, .string ⟨#[]⟩, .bool false, .string ⟨#[]⟩, .int .u64 0, .int .i64 0, .string ⟨#[]⟩, .string ⟨#[]⟩, .int .i64 0, .bool false, .int .i64 0, .string ⟨#[]⟩, .int .i64 0, .int .i64 0, .slice none 0 0] from rfl] at hw1
  rw [← hw1]
  clear hw1 HW
  go_wp2_with fail
  refine (oTextT_any g nr na s W0 w1 hTS.tk hl).mono ?_
  rintro x w2 ⟨rfl, hT2, k2⟩
  have hTS2 := hTS.call hT2 k2
  have htl := tX_len s.a s.l
  obtain ⟨t, ht⟩ : ∃ t, t = tX s.a s.l := ⟨_, rfl⟩
  rw [show (takV .S s).toCell = .string (bstr t) from by rw [ht]; rfl]
  rw [← ht] at htl
  have HT : Hid _ := ht
  clear ht c1 hTS hT2 k2
  go_wp2_with fail
  refine (oDecodeE_any t w2 htl).mono ?_
  rintro x w3 ⟨hb3, hx⟩
  have hTS3 := hTS2.call (hTS2.tk.step hb3) (Kt.below hb3)
  have h2le := hTS2.two
  obtain ⟨e, er, q, cap, hev, hn3, hxx⟩ : ∃ (e : En) (er : Int) (q : Option Addr) (cap : Nat), e = ⟨(entP t).1, (entP t).2, q, cap⟩ ∧ INew w3 (w2.heap.size + 1) q (entP t).2 ∧ x = .returned (.tuple #[.agg (enC e).toArray, .int .i64 er]) := by
    rcases hx with ⟨hd, q, cap, rfl, hn⟩ | ⟨hd, rfl⟩
    · have hp : entP t = (entHd t, entMem t) := by unfold entP; rw [hd]; rfl
      exact ⟨_, 0, q, cap, rfl, by rw [hp]; exact hn, by rw [hp]; rfl⟩
    · have hp : entP t = (etZL, []) := by unfold entP; rw [hd]; rfl
      refine ⟨_, 4, none, 0, rfl, by rw [hp]; exact fun h0 => absurd h0 (by simp), by rw [hp]; rfl⟩
  subst hxx
  have hl24 : (enC e).length = 24 := by
    rw [hev]
    unfold enC
    have : ((entP t).1).length = 23 := by
      unfold entP
      split
      · exact takVs_length _ _
      · rfl
    simp [this]
  have hi : (Tryz.prog.info? 38).map (·.size) = some (enC e).length := by rw [hl24]; kernel_rfl
  have hi2 : (Tryz.prog.info? 38).map (·.size) = some (enC e).toArray.size := by rw [List.size_toArray]; exact hi
  have hone := enC_one e
  have HE : Hid _ := hev
  have HL : Hid _ := hl24
  have H2 : Hid _ := h2le
  clear hev hl24 h2le hx
  have hzn := blk_new w3 38 etZ.toArray
  have hth : (w3.alloc (.cells etZ.toArray 38)).there w3.heap.size 0 (enC e).toArray.size := blk_there hzn (by rw [List.size_toArray, HL.out]; rfl)
  go_upto_region 2 with (first | refine wpList_store_mid rfl 38 _ _ rfl w3.heap.size 0 (enC e).toArray rfl rfl hth hi2 hone ?_ | fail)
  obtain ⟨w4, hw4⟩ : ∃ w4, w4 = (w3.alloc (.cells etZ.toArray 38)).setCells w3.heap.size 0 (enC e).toArray.toList := ⟨_, rfl⟩
  have hb4 : Below w3.heap.size w3 w4 := by rw [hw4]; exact bel_cells (Nat.le_refl _) _ _ ((Below.refl _ _).alloc (Nat.le_refl _) _)
  have hx4 : Blk w4 w3.heap.size 38 (enC e).toArray := by
    rw [hw4]
    exact blk_store hzn (by show (enC e).length = _; rw [HL.out]; rfl)
  have hTS4 := hTS3.call (hTS3.tk.step hb4) (Kt.below hb4)
  have hn4 := hn3.below hb4
  have hr4 : w4.rangeAt w3.heap.size 0 (enC e) := range_of_block hx4 [] (enC e) [] (by simp)
  rw [show etZ.toArray = #[.int .u64 0, .int .u64 0, .int .i64 0, .int .i64 0, .int .i64 0, .int .u64 0, .int .u64 0, .int .i64 0, .string ⟨#[]⟩, .string ⟨#[]⟩, .string ⟨#[]⟩, .bool false, .string ⟨#[]⟩, .int .u64 0, .int .i64 0, .string ⟨#[]⟩, .string ⟨#[]⟩, .int .i64 0, .bool false, .int .i64 0, .string ⟨#[]⟩, .int .i64 0, .int .i64 0, .slice none 0 0] from rfl] at hw4
  rw [← hw4]
  have hth4 : w4.there (W.heap.size + 1) 0 (enC e).toArray.size := blk_there hTS4.rs (by rw [List.size_toArray, HL.out]; rfl)
  clear hw4 hb4 hx4 hth hzn hTS3 hn3
  go_wp2_with (first | refine wpList_load_mid rfl 38 _ rfl w3.heap.size 0 rfl (enC e) _ hr4 Tryz.underlying38 rfl hi ?_ | refine wpList_store_mid rfl 38 _ _ rfl (W.heap.size + 1) 0 (enC e).toArray rfl rfl hth4 hi2 hone ?_ | fail)
  have hTS5 := hTS4.set (enC e) (by rw [HL.out]; rfl)
  refine ret_cells (cs := enC e) rfl Tryz.underlying38 rfl hi rfl hTS5.rs rfl ?_
  rw [HQ.out]
  refine ⟨q, cap, by rw [← HT.out, ← HE.out], ?_, hTS5.tk, hTS5.kt⟩
  rw [← HT.out]
  refine INew.mono (INew.cells (B := W.heap.size + 2) (Nat.lt_succ_self _) _ _ (hn4.mono ?_)) (by omega)
  have := H2.out
  omega

/-! ### how many first -/
theorem foldl_setL : ∀ (l : List Value) (k : Nat) (Z : Array Value), (l.zipIdx k).foldl (fun (cs : Array Value) (x : Value × Nat) => cs.setIfInBounds (0 + x.2) x.1) Z = setL Z k l
  | [], _, _ => rfl
  | v :: l, k, Z => by
    rw [List.zipIdx_cons, List.foldl_cons, foldl_setL l (k + 1)]
    simp only [Nat.zero_add]
    rfl
theorem fill_one {n : Nat} {Z : Array Value} {cs : List Value} (hc : cs.length = n) (hZ : Z.size = n) :
    Instr.fill (fun i => some (i * n, n)) Z [(0, .agg cs.toArray)] = some cs.toArray := by
  unfold Instr.fill
  simp only [Value.cells, Nat.zero_mul, List.size_toArray, hc, hZ, Nat.zero_add]
  rw [if_neg (by simp)]
  unfold Instr.fill
  congr 1
  rw [← Array.foldl_toList]
  have := foldl_setL cs 0 Z
  simp only [Nat.zero_add] at this
  rw [Array.toList_zipIdx]
  refine Eq.trans ?_ (this.trans (setL_all (by omega)))
  rfl

/-- Where the taker stands behind i texts; the entry there. -/
def entSt (i : Nat) (s : Ps) : Ps := takSs (List.replicate i .S) s
def entAt (s : Ps) (i : Nat) : List Lit × List Int := entP (tX (entSt i s).a (entSt i s).l)
def entLL (n : Nat) (s : Ps) : List (List Lit × List Int) := (List.range n).map (entAt s)
theorem entSt_succ (i : Nat) (s : Ps) : entSt (i + 1) s = takS .S (entSt i s) := by
  unfold entSt
  rw [List.replicate_succ', takSs_append]
  rfl
theorem entSt_len (i : Nat) (s : Ps) : (entSt i s).l.length ≤ s.l.length := takSs_len _ _
theorem entLL_succ (n : Nat) (s : Ps) : entLL (n + 1) s = entLL n s ++ [entAt s n] := by simp [entLL, List.range_succ]
theorem entLL_length (n : Nat) (s : Ps) : (entLL n s).length = n := by simp [entLL]
def entsN (s : Ps) : Nat := nX s.a 8 s.l
def entsS0 (s : Ps) : Ps := ⟨nA s.a 8 s.l, nR s.l⟩
def entsL (s : Ps) : List (List Lit × List Int) := entLL (entsN s) (entsS0 s)
def entsE (s : Ps) : Ps := entSt (entsN s) (entsS0 s)
theorem entsL_length (s : Ps) : (entsL s).length = entsN s := entLL_length _ _
theorem entsE_len (s : Ps) : (entsE s).l.length ≤ s.l.length := Nat.le_trans (entSt_len _ _) (rest_len s.l)
def ecells (l : List En) : List Value := l.flatMap enC
/-- Entries in new memory, with what they hold. -/
def ENew (w : World) (B : Nat) (q : Option Addr) (l : List En) : Prop := (0 < l.length → ∃ b, q = some ⟨b, 0, none⟩ ∧ B ≤ b ∧ ∀ j u, (ecells l)[j]? = some u → w.cell? ⟨b, j, none⟩ = some u) ∧ ∀ e ∈ l, INew w B e.q e.mem ∧ (enC e).length = 24
theorem ENew.mono {w : World} {A B : Nat} {q : Option Addr} {l : List En} (h : ENew w B q l) (hA : A ≤ B) : ENew w A q l :=
  ⟨fun h0 => by
    obtain ⟨b, e, hb, hr⟩ := h.1 h0
    exact ⟨b, e, Nat.le_trans hA hb, hr⟩, fun e he => ⟨(h.2 e he).1.mono hA, (h.2 e he).2⟩⟩
theorem ENew.kt {w w' : World} {B g na : Nat} {q : Option Addr} {l : List En} (h : ENew w B q l) (hk : Kt g na w w') (h1 : g < B) (h2 : na < B) : ENew w' B q l :=
  ⟨fun h0 => by
    obtain ⟨b, e, hb, hr⟩ := h.1 h0
    exact ⟨b, e, hb, fun j u hj => (hk.cell (k := b) (block_lt_of_cell (hr j u hj)) (by omega) (by omega)).trans (hr j u hj)⟩, fun e he => ⟨(h.2 e he).1.kt hk h1 h2, (h.2 e he).2⟩⟩
theorem ENew.below {w w' : World} {B : Nat} {q : Option Addr} {l : List En} (h : ENew w B q l) (hb : Below w.heap.size w w') : ENew w' B q l :=
  ⟨fun h0 => by
    obtain ⟨b, e, h1, hr⟩ := h.1 h0
    exact ⟨b, e, h1, fun j u hj => cell_below hb (hr j u hj)⟩, fun e he => ⟨(h.2 e he).1.below hb, (h.2 e he).2⟩⟩
theorem ENew.cells {b B : Nat} {q : Option Addr} {l : List En} (hb : b < B) (vs : List Value) (o : Nat) {w : World} (h : ENew w B q l) : ENew (w.setCells b o vs) B q l := by
  refine ⟨fun h0 => ?_, fun e he => ⟨INew.cells hb vs o (h.2 e he).1, (h.2 e he).2⟩⟩
  obtain ⟨c, e, hc, hr⟩ := h.1 h0
  refine ⟨c, e, hc, fun j u hj => ?_⟩
  rw [World.cell?_setCells_out b vs o w ⟨c, j, none⟩ (fun hcb => by
    have hcb : c = b := hcb
    omega)]
  exact hr j u hj
theorem Tryz.infoEnt : (Tryz.prog.info? 38).map (fun i => (i.zero, i.size, i.bytes)) = some (some (.agg etZ.toArray), 24, 264) := by kernel_rfl
theorem wpList_build24 {ops : Array Oper} {rest : List Oper} {o : Oper} {a : Act} {w : World} {Q : Exit → Act → World → Prop} {k : Nat} (hg : o.guard = none) (ho : o.op = .buildSlice 49 1 #[(0, .tmp k)]) (cs : List Value) (hl : cs.length = 24) (hx : a.eval (.tmp k) = .agg cs.toArray)
    (h : wpList Tryz.prog ops Q rest (a.put o.dst (.slice (some ⟨w.heap.size, 0, none⟩) 1 1)) (w.alloc (.cells cs.toArray 38))) : wpList Tryz.prog ops Q (o :: rest) a w := by
  obtain ⟨i0, hi0, hz0, hz1, _⟩ := info_parts Tryz.infoEnt
  refine wpList_buildSlice hg 49 38 1 _ ho cs.toArray i0 (.agg etZ.toArray) Tryz.underlying49 hi0 hz0 (by rw [hz1]; decide) (by rw [hz1]; decide) ?_ h
  have : ((#[(0, Operand.tmp k)] : Array (Nat × Operand)).map fun (i, x) => (i, a.eval x)).toList = [(0, a.eval (.tmp k))] := by simp
  rw [this, hx, hz1]
  exact fill_one hl (by simp)
theorem ecells_append (a b : List En) : ecells (a ++ b) = ecells a ++ ecells b := by simp [ecells]
theorem own_enew {w : World} {B n : Nat} {v : Value} {l : List En} (h : w.ownsRow B 38 24 v n (ecells l)) (hall : ∀ e ∈ l, INew w B e.q e.mem ∧ (enC e).length = 24) (hn : n = l.length) : ∃ q cap, v = .slice q l.length cap ∧ ENew w B q l := by
  subst hn
  rcases h.2 with ⟨rfl, h0⟩ | ⟨g, cap, cur, rfl, hbg, hg, hnc, hcm, hcs, htake⟩
  · exact ⟨none, 0, by rw [h0], fun h1 => by omega, hall⟩
  · refine ⟨some ⟨g, 0, none⟩, cap, rfl, fun h1 => ⟨g, rfl, hbg, fun j u hj => ?_⟩, hall⟩
    have h2 := h.cells (g := g) rfl j u hj
    rw [Addr.add_lit, Nat.zero_add] at h2
    exact h2
theorem INew.own {w w' : World} {B C n : Nat} {v : Value} {xs : List Value} {q : Option Addr} {l : List Int} (h : INew w C q l) (ho : w.ownsRow B 38 24 v n xs) (hg : w.grownBy w' v.ownBlock) : INew w' C q l :=
  h.blocks fun b cur _ hx => hg.block b (blk_lt hx) (by
    rcases ho.2 with ⟨rfl, _⟩ | ⟨g, cap, cur2, rfl, _, h2, _⟩
    · simp [Value.ownBlock]
    · intro e
      simp only [Value.ownBlock, Option.some.injEq] at e
      subst e
      rw [h2] at hx
      simp at hx)

set_option maxHeartbeats 8000000 in
set_option maxRecDepth 100000 in
theorem oTakEnts_any (g nr na : Nat) (s : Ps) (W0 W : World) (h : Tk W0 g nr na s.a s.l W) (hl : s.l.length ≤ 1048576) :
    Calls Tryz.prog 101 #[tkV nr na, .int .u64 8, .func (.func 102) #[tkV nr na] #[]] W fun e W' => ∃ q cap es, e = .returned (.slice q (entsN s) cap) ∧
      ENew W' W.heap.size q es ∧ es.map (fun e => (e.hd, e.mem)) = entsL s ∧ Tk W0 g nr na (entsE s).a (entsE s).l W' ∧ Kt g na W W' := by
  obtain ⟨i0, hi0, hz0, hz1, hz2⟩ := info_parts Tryz.infoEnt
  have hn := nX_le s.a 8 s.l
  have hlr := rest_len s.l
  have hN0 : entsN s = nX s.a 8 s.l := rfl
  have hS0 : entsS0 s = ⟨nA s.a 8 s.l, nR s.l⟩ := rfl
  obtain ⟨n, hN⟩ : ∃ n, n = entsN s := ⟨_, rfl⟩
  obtain ⟨s1, hs1⟩ : ∃ s1 : Ps, s1 = entsS0 s := ⟨_, rfl⟩
  have e1 : entsL s = entLL n s1 := by rw [hN, hs1]; rfl
  have e2 : entsE s = entSt n s1 := by rw [hN, hs1]; rfl
  rw [e1, e2, ← hN]
  rw [← hN0, ← hN] at hn
  have hl1 : s1.l.length ≤ 1048576 := by rw [hs1]; exact Nat.le_trans hlr hl
  have HN : Hid (nX s.a 8 s.l = n) := (hN.trans hN0).symm
  have HS1 : Hid (s1 = ⟨nA s.a 8 s.l, nR s.l⟩) := hs1.trans hS0
  have hgl := h.rd.lt
  have hna := h.rn
  have hnr := h.ra
  have hW0 := h.gr.size
  clear hN hs1 hlr e1 e2 hN0 hS0
  have hT0 := h.step ((Below.refl W.heap.size W).alloc (Nat.le_refl _) (.cells #[tk1 nr na, tk2 nr na, tk3 nr na] 108))
  have hk0 : Kt g na W (W.alloc (.cells #[tk1 nr na, tk2 nr na, tk3 nr na] 108)) := Kt.below ((Below.refl _ _).alloc (Nat.le_refl _) _)
  obtain ⟨Q, hQ⟩ : ∃ Q : Ending → World → Prop, Q = fun e W' => ∃ q cap es, e = .returned (.slice q n cap) ∧
      ENew W' W.heap.size q es ∧ es.map (fun e => (e.hd, e.mem)) = entLL n s1 ∧ Tk W0 g nr na (entSt n s1).a (entSt n s1).l W' ∧ Kt g na W W' := ⟨_, rfl⟩
  rw [← hQ]
  have HQ : Hid _ := hQ
  clear hQ
  go_enter Tryz.func101, Tryz.ntmps101
  go_wp2_with fail
  refine (jNumber_any g nr na s.a 8 s.l W0 _ hT0 hl).mono ?_
  rintro e w1 ⟨rfl, hT1, hk1⟩
  rw [HN.out]
  have hT1 : Tk W0 g nr na s1.a s1.l w1 := by rw [HS1.out]; exact hT1
  have hk1 := hk0.trans hk1
  clear hT0 hk0 h
  go_wp2
  go_loopw [7, 12] (fun s7 s12 wr => ∃ (i : Nat) (es : List En), s12 = .int .u64 (i : Int) ∧ i ≤ n ∧ wr.ownsRow W.heap.size 38 24 s7 i (ecells es) ∧ Hid (es.map (fun e => (e.hd, e.mem)) = entLL i s1) ∧ (∀ e ∈ es, INew wr W.heap.size e.q e.mem ∧ (enC e).length = 24) ∧ Tk W0 g nr na (entSt i s1).a (entSt i s1).l wr ∧ Kt g na W wr) (fun _ s12 _ => n - (intOf s12).toNat)
  case atStart => exact ⟨0, [], rfl, by omega, World.ownsRow_nil .., (rfl : List.map (fun e : En => (e.hd, e.mem)) [] = entLL 0 s1), fun e he => absurd he (by simp), hT1, hk1⟩
  case round =>
    clear hT1 hk1
    obtain ⟨i, es, rfl, hil, howni, hes, hall, hTi, hki⟩ := hrel
    obtain ⟨qi, capi, rfl⟩ : ∃ qi capi, u7 = Value.slice qi i capi := by
      rcases howni.2 with ⟨e, e0⟩ | ⟨g, cap, cur, e, _⟩
      · exact ⟨none, 0, by rw [e, e0]⟩
      · exact ⟨_, _, e⟩
    by_cases hlt : i < n
    · have hiz : (i : Int) < (n : Int) := by omega
      have hli : (entSt i s1).l.length ≤ 1048576 := Nat.le_trans (entSt_len i s1) hl1
      have HST : Hid _ := entSt_succ i s1
      have HSL : Hid _ := entLL_succ i s1
      have HALL : Hid _ := hall
      have HCAT : Hid (entAt s1 i = entP (tX (entSt i s1).a (entSt i s1).l)) := rfl
      clear hall
      go_wp2_with fail
      refine (oEntText_any g nr na (entSt i s1) W0 wr hTi hli).mono ?_
      rintro x w3 ⟨q, cap, rfl, hn3, hT3, hk3⟩
      rw [← HCAT.out] at hn3 ⊢
      rw [← HST.out] at hT3
      obtain ⟨e, he⟩ : ∃ e : En, e = ⟨(entAt s1 i).1, (entAt s1 i).2, q, cap⟩ := ⟨_, rfl⟩
      rw [← he]
      have hl24 : (enC e).length = 24 := by
        rw [he]
        unfold enC entAt
        have : ((entP (tX (entSt i s1).a (entSt i s1).l)).1).length = 23 := by
          unfold entP
          split
          · exact takVs_length _ _
          · rfl
        simp [this]
      have hne : INew w3 W.heap.size e.q e.mem := by rw [he]; exact hn3.mono hki.1
      have HE : Hid (es.map (fun e => (e.hd, e.mem)) ++ [(e.hd, e.mem)] = entLL (i + 1) s1) := by show _ = _; rw [HSL.out, hes.out, he]
      have hown3 := own_kt howni hk3 hgl hna
      have hki3 := hki.trans hk3
      have hWs := hki3.1
      have HA3 : Hid (∀ e ∈ es, INew w3 W.heap.size e.q e.mem ∧ (enC e).length = 24) := fun e he => ⟨(HALL.out e he).1.kt hk3 hgl hna, (HALL.out e he).2⟩
      clear howni hTi hki hk3 hn3 he HALL hes HSL HCAT
      have hnews : ∀ j u, (enC e)[j]? = some u → (w3.alloc (.cells (enC e).toArray 38)).cell? ((⟨w3.heap.size, 0, none⟩ : Addr).add j) = some u := by
        intro j u hj
        rw [Addr.add_lit, Nat.zero_add, (mcells (heap_alloc_new w3 _)).1 j]
        simpa using hj
      have hone : ∀ u ∈ enC e, u.oneCell' = true := fun u hu => (Array.all_eq_true_iff_forall_mem.1 (enC_one e)) u (by simpa using hu)
      have HNW : Hid _ := hnews
      have HONE : Hid _ := hone
      have HL24 : Hid _ := hl24
      clear hnews hone hl24
      go_wp2_with (first | refine wpList_build24 rfl rfl (enC e) HL24.out rfl ?_ | (at_builtin; refine wpList_app rfl _ _ 49 rfl W.heap.size 38 i0 (.agg etZ.toArray) 24 264 Tryz.underlying49 hi0 hz0 hz1 hz2 rfl (by decide) _ _ _ rfl (hown3.alloc _) ⟨w3.heap.size, 0, none⟩ 1 1 (enC e) (by decide) rfl (by rw [HL24.out]) HNW.out HONE.out ?c3 ?c4 ?c5 ?_))
      case c3 => unfold maxLen; omega
      case c4 => omega
      case c5 => simp; omega
      intro v' w4 hown4 hgrow hv4
      have hBg : ∀ k, Value.ownBlock (.slice qi i capi) = some k → W.heap.size ≤ k := fun k hk => own_base hown3 hk
      have hbA : Below w3.heap.size w3 (w3.alloc (.cells (enC e).toArray 38)) := (Below.refl _ _).alloc (Nat.le_refl _) _
      have hT4 := tk_grown (hT3.step hbA) hgrow hBg hgl hnr hna hW0
      have hk4 := kt_grown (hki3.trans (Kt.below hbA)) hgrow hBg (Nat.le_refl _)
      have hown5 : w4.ownsRow W.heap.size 38 24 v' (i + 1) (ecells (es ++ [e])) := by
        rw [ecells_append, show ecells [e] = enC e from by simp [ecells]]
        exact hown4
      have HA5 : Hid (∀ x ∈ es ++ [e], INew w4 W.heap.size x.q x.mem ∧ (enC x).length = 24) := by
        intro x hx
        rw [List.mem_append, List.mem_singleton] at hx
        rcases hx with hx | rfl
        · exact ⟨((HA3.out x hx).1.below hbA).own (hown3.alloc _) hgrow, (HA3.out x hx).2⟩
        · exact ⟨(hne.below hbA).own (hown3.alloc _) hgrow, HL24.out⟩
      clear hown4 hown3 hT3 hki3 hgrow hv4 hne HA3 HNW HONE hbA
      obtain ⟨q', cap', rfl⟩ : ∃ q' cap', v' = Value.slice q' (i + 1) cap' := by
        rcases hown5.2 with ⟨e, e0⟩ | ⟨g, cap, cur, e, _⟩
        · exact ⟨none, 0, by rw [e, e0]⟩
        · exact ⟨_, _, e⟩
      go_wp2
      go_roundw
      case rel => exact ⟨i + 1, es ++ [e], by simp, by omega, hown5, by rw [List.map_append]; exact HE, HA5.out, hT4, hk4⟩
      case measure => simp [intOf]; omega
    · obtain rfl : i = n := by omega
      have hlen : es.length = i := by
        have := congrArg List.length hes.out
        rw [List.length_map, entLL_length] at this
        exact this
      have HLEN : Hid _ := hlen
      clear hlen
      go_wp2
      obtain ⟨q, cap, hq, hnew⟩ := own_enew howni hall HLEN.out.symm
      rw [HLEN.out] at hq
      rw [HQ.out]
      exact ⟨q, cap, es, congrArg Ending.returned hq, hnew, hes.out, hTi, hki⟩

end Go.Proofs.YtbdbefgfejdbjaaGreat
