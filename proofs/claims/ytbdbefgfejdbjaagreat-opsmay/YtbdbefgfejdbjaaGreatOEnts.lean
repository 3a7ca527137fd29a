/-
  Entries laid as texts, how many first.
-/
import Derived.Test.YtbdbefgfejdbjaaGreatGOEnt
import Derived.Test.YtbdbefgfejdbjaaGreatGOMod
namespace Go.Proofs.YtbdbefgfejdbjaaGreat
open Go.RowKit Go.BigFrame
attribute [local go_sem] size_bstr toList_bstr append_bstr

def les (l : List En) : List UInt8 := (l.map fun e => txt (layE e.hd e.mem)).flatten
def layEs (l : List En) : List UInt8 := Lib.uvarint l.length ++ les l
theorem les_take (l : List En) (i : Nat) (h : i < l.length) : les (l.take (i + 1)) = les (l.take i) ++ txt (layE l[i].hd l[i].mem) := by
  unfold les
  rw [List.take_add_one, List.getElem?_eq_getElem h, List.map_append, List.flatten_append]
  congr 1
  simp
theorem les_len (l : List En) (h : ∀ e ∈ l, fitE e) : (les l).length ≤ 1048586 * l.length := by
  induction l with
  | nil => simp [les]
  | cons x l ih =>
    have h1 := ih fun y hy => h y (List.mem_cons_of_mem _ hy)
    have h3 := (h x List.mem_cons_self).2.2
    have h2 := txt_len (s := layE x.hd x.mem) (by omega)
    unfold les at h1 ⊢
    simp only [List.map_cons, List.flatten_cons, List.length_append, List.length_cons]
    omega
theorem bel_cells {w : World} {b : Nat} (hb : w.heap.size ≤ b) : ∀ (vs : List Value) (o : Nat) {W : World}, Below w.heap.size w W → Below w.heap.size w (W.setCells b o vs)
  | [], _, _, h => h
  | v :: r, o, W, h => bel_cells hb r (o + 1) ⟨h.os, h.tape, h.output, by simpa [World.setCell] using h.size, fun k hk => (heap_set_other v (by omega)).trans (h.block k hk)⟩

set_option maxHeartbeats 4000000 in
set_option maxRecDepth 100000 in
theorem oLayEnts_any (q : Option Addr) (cap : Nat) (l : List En) (w : World) (h : EArg w q l) (hl : l.length ≤ 8) (hv : ∀ e ∈ l, fitE e) :
    Calls Tryz.prog 88 #[.slice q l.length cap, .func (.func 87) #[] #[]] w fun x w' => x = .returned (.string (bstr (layEs l))) ∧ Below w.heap.size w w' := by
  unfold layEs
  have hn0 := IsB.new w
  obtain ⟨A, hA⟩ : ∃ A, A = Lib.uvarint l.length := ⟨_, rfl⟩
  have lA : A.length ≤ 10 := by rw [hA]; exact Lib.uvarint_length64 (by omega)
  have HA : Hid _ := hA
  rw [← hA]
  clear hA
  go_enter Tryz.func88, Tryz.ntmps88
  go_wp2_with fail
  refine (oInt_any l.length _ (by omega)).mono ?_
  rintro e w1 ⟨rfl, hb1⟩
  rw [← HA.out]
  have hn1 := hn0.step hb1
  have hB1 : Below w.heap.size w w1 := bel_call hb1 (bel_alloc (Below.refl _ _))
  clear hn0 hb1
  go_wp2_with fail
  refine (WriteString_any w.heap.size w.heap.size [] A w1 hn1 (by simp only [List.length_nil]; omega) hB1.size).mono ?_
  rintro e w2 ⟨rfl, hn2, hb2⟩
  rw [List.nil_append] at hn2
  have hB2 : Below w.heap.size w w2 := hB1.trans hb2
  clear hn1 hB1 hb2
  go_wp2
  go_loopw [14] (fun s14 wr => ∃ i : Nat, s14 = .int .i64 (i : Int) ∧ i ≤ l.length ∧ IsB w.heap.size w.heap.size (A ++ les (l.take i)) wr ∧ Below w.heap.size w wr) (fun s14 _ => 9 - (intOf s14).toNat)
  case atStart => exact ⟨0, rfl, by omega, by simpa [les] using hn2, hB2⟩
  case round =>
    obtain ⟨i, rfl, hil, hn, hbr⟩ := hrel
    by_cases hlt : i < l.length
    · have hi1 : (i : Int) < (l.length : Int) := by omega
      obtain ⟨b, off, rfl, hr⟩ := h (by omega)
      obtain ⟨hr1, hm1⟩ := hr i hlt
      have hx := hv _ (List.getElem_mem hlt)
      have hln := les_len (l.take i) (fun x hx => hv x (List.mem_of_mem_take hx))
      have hlt2 : (l.take i).length ≤ 8 := by rw [List.length_take]; omega
      have ht := les_take l i hlt
      have HT : Hid _ := ht
      clear ht
      generalize l[i] = e at *
      have hlen := enC_len (fitKs_length hx.1)
      have hi : (Tryz.prog.info? 38).map (·.size) = some (enC e).length := by rw [hlen]; kernel_rfl
      have hr1' := range_below hbr hr1
      have hm1' := hm1.below hbr
      have lU := txt_len (s := layE e.hd e.mem) (by have := hx.2.2; omega)
      have lU2 := hx.2.2
      have HX : Hid _ := hx
      have HR : Hid _ := hr
      have HI : Hid _ := hi
      clear hr hx hr1 hm1 hlen hi
      have hl24 := enC_len (fitKs_length HX.out.1)
      have HL24 : Hid _ := hl24
      clear hl24
      go_upto_region 6 with (first | refine wpList_load_mid rfl 38 _ rfl b _ rfl (enC e) _ hr1' Tryz.underlying38 rfl HI.out ?_ | refine wpList_store_mid rfl 38 _ _ rfl wr.heap.size 0 (enC e).toArray rfl rfl (blk_there (heap_alloc_new wr _) (by have := HL24.out; simp only [List.size_toArray]; rw [this]; rfl)) (by rw [List.size_toArray]; exact HI.out) (enC_one e) ?_ | fail)
      obtain ⟨w4, hw4⟩ : ∃ w4, w4 = (wr.alloc (.cells #[.int .u64 0, .int .u64 0, .int .i64 0, .int .i64 0, .int .i64 0, .int .u64 0, .int .u64 0, .int .i64 0, .string ⟨#[]⟩, .string ⟨#[]⟩, .string ⟨#[]⟩, .bool false, .string ⟨#[]⟩, .int .u64 0, .int .i64 0, .string ⟨#[]⟩, .string ⟨#[]⟩, .int .i64 0, .bool false, .int .i64 0, .string ⟨#[]⟩, .int .i64 0, .int .i64 0, .slice none 0 0] 38)).setCells wr.heap.size 0 (enC e).toArray.toList := ⟨_, rfl⟩
      rw [← hw4]
      have hb4 : Below wr.heap.size wr w4 := by rw [hw4]; exact bel_cells (Nat.le_refl _) _ _ ((Below.refl _ _).alloc (Nat.le_refl _) _)
      have hr4 : w4.rangeAt wr.heap.size 0 (enC e) := by
        rw [hw4, show (enC e).toArray.toList = enC e from rfl]
        have := blk_cells (enC e) 0 (heap_alloc_new wr (.cells #[.int .u64 0, .int .u64 0, .int .i64 0, .int .i64 0, .int .i64 0, .int .u64 0, .int .u64 0, .int .i64 0, .string ⟨#[]⟩, .string ⟨#[]⟩, .string ⟨#[]⟩, .bool false, .string ⟨#[]⟩, .int .u64 0, .int .i64 0, .string ⟨#[]⟩, .string ⟨#[]⟩, .int .i64 0, .bool false, .int .i64 0, .string ⟨#[]⟩, .int .i64 0, .int .i64 0, .slice none 0 0] 38))
        rw [setL_all (by rw [HL24.out]; rfl)] at this
        exact range_of_block this [] (enC e) [] (by simp)
      have hn4 := hn.step hb4
      have hB4 := below2 hbr hb4
      have hm4 := hm1'.below hb4
      clear hw4 hb4 hn hbr hm1' hr1'
      go_wp2_with (first | refine wpList_load_mid rfl 38 _ rfl wr.heap.size 0 rfl (enC e) _ hr4 Tryz.underlying38 rfl HI.out ?_ | fail)
      refine (oEnt1_any e w4 HX.out hm4).mono ?_
      rintro x w5 ⟨rfl, hb5⟩
      have hn5 := hn4.step hb5
      have hB5 := below2 hB4 hb5
      clear hn4 hB4 hr4 hm4 hb5
      obtain ⟨T, hT⟩ : ∃ T, T = txt (layE e.hd e.mem) := ⟨_, rfl⟩
      rw [← hT] at HT lU ⊢
      clear hT
      go_wp2_with fail
      refine (WriteString_any w.heap.size w.heap.size (A ++ les (l.take i)) T w5 hn5 (by rw [List.length_append]; have := Nat.mul_le_mul_left 1048586 hlt2; omega) hB5.size).mono ?_
      rintro x w6 ⟨rfl, hn6, hb6⟩
      have hB6 : Below w.heap.size w w6 := hB5.trans hb6
      go_wp2
      go_roundw
      case rel => exact ⟨i + 1, by simp, by omega, by rw [HT.out, ← List.append_assoc]; exact hn6, hB6⟩
      case measure => simp [intOf]; omega
    · obtain rfl : i = l.length := by omega
      rw [List.take_length] at hn
      go_wp2_with fail
      refine (String_any w.heap.size w.heap.size (A ++ les l) wr hn hbr.size).mono ?_
      rintro e w3 ⟨rfl, hb3⟩
      go_wp2
      go_ret
      exact ⟨rfl, hbr.trans hb3⟩

end Go.Proofs.YtbdbefgfejdbjaaGreat
