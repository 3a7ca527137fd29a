/-
  The walk of the law WireLays over this seat's translation: it returns true, and of what was there nothing has turned.
-/
import Derived.Test.YtbkalfpgeclibaaWorks
import Derived.Test.YtbkalfpgeclibaaRef2
import Derived.Test.YtbkalfpgeclibaaQuietTail
namespace Go.Proofs.Ytbkalfpgeclibaa
open Go.RowKit Go.BigFrame
attribute [local go_sem] size_bstr getElem_bstr toList_bstr append_bstr

theorem l_step {w a b : World} (h : Below w.heap.size w a) (k : Below a.heap.size a b) : Below w.heap.size w b := h.trans (k.mono h.size)

/-- The laying functions, as the law hands them their arguments. -/
theorem PB_any (b : List UInt8) (v : Nat) (w : World) (hb : b.length ≤ 5000) :
    Calls Try.prog 9 #[.string (bstr b), .int .u8 ((v : Int) % 256)] w fun e w' => e = .returned (.string (bstr (b ++ [(v % 256).toUInt8]))) ∧ Below w.heap.size w w' := by
  have h := PutByte_any (bstr b) (v % 256) w (by omega) (by rw [size_bstr]; omega)
  rw [append_bstr, show ((v % 256 : Nat) : Int) = (v : Int) % 256 from by omega] at h
  exact h
theorem PN_any (b : List UInt8) (v : Nat) (w : World) (hb : b.length ≤ 5000) (hv : v < 18446744073709551616) :
    Calls Try.prog 10 #[.string (bstr b), .int .u64 v] w fun e w' => e = .returned (.string (bstr (b ++ Lib.uvarint v))) ∧ Below w.heap.size w w' := by
  have h := PutNumber_any (bstr b) v w hv (by rw [size_bstr]; omega)
  rw [append_bstr] at h
  exact h
theorem PT_any (b s : List UInt8) (w : World) (hb : b.length ≤ 5000) (hs : s.length ≤ 5000) :
    Calls Try.prog 12 #[.string (bstr b), .string (bstr s)] w fun e w' => e = .returned (.string (bstr (b ++ (Lib.uvarint s.length ++ s)))) ∧ Below w.heap.size w w' := by
  have h := PutText_any (bstr b) (bstr s) w (by rw [size_bstr]; omega) (by rw [size_bstr]; omega)
  rw [append_text, data_bstr, data_bstr, size_bstr] at h
  exact h

/-- 'string([]byte{byte(v)})' in whatever world has that block. -/
theorem conv_at {W : World} {g v : Nat} (h : W.heap[g]? = some (.cells #[.int .u8 ((v : Int) % 256)] 5 (0, 0))) :
    (convert 26 9 (.slice (some ⟨g, 0, none⟩) 1 1)).run Try.prog W = .ok (.string (bstr [(v % 256).toUInt8])) W := by
  have hown : W.ownsRow 0 5 1 (.slice (some ⟨g, 0, none⟩) 1 1) 1 (Lib.byteCells [(v % 256).toUInt8]) := by
    have e : Lib.byteCells [(v % 256).toUInt8] = [.int .u8 ((v : Int) % 256)] := by
      have h1 := toNat_toUInt8 (show v % 256 < 256 from by omega)
      simp only [Lib.byteCells, List.map_cons, List.map_nil, h1]
      congr 2
    rw [e]
    exact ⟨rfl, .inr ⟨g, 1, _, rfl, by omega, h, by omega, by decide, rfl, rfl⟩⟩
  exact run_convert_own hown Try.underlying26 Try.underlying5 Try.underlying9

set_option maxHeartbeats 16000000 in
set_option maxRecDepth 100000 in
theorem lays_walk (B S : List UInt8) (v : Nat) (w : World) (hv : v < 18446744073709551616) :
    Calls Try.prog 3 #[.string (bstr B), .int .u64 v, .string (bstr S)] w fun e w' => e = .returned (.bool true) ∧ Below w.heap.size w w' := by
  have hsl1 := fun w : World => run_cut (P := Try.prog) 9 B 5000 5000 rfl w Try.underlying9
  have hle1 : (B.take 5000).length ≤ 5000 := List.length_take_le _ _
  generalize B.take 5000 = b at *
  have hsl2 := fun w : World => run_cut (P := Try.prog) 9 S 5000 5000 rfl w Try.underlying9
  have hle2 : (S.take 5000).length ≤ 5000 := List.length_take_le _ _
  generalize S.take 5000 = s at *
  have hlu := Lib.uvarint_length64 hv
  have hls := Lib.uvarint_length64 (x := s.length) (by omega)
  have hw8 : IntKind.u8.wrap (v : Int) = (v : Int) % 256 := IntKind.wrap_u8 _
  have HPB : Hid (∀ W : World, Calls Try.prog 9 #[.string (bstr b), .int .u8 ((v : Int) % 256)] W fun e w' => e = .returned (.string (bstr (b ++ [(v % 256).toUInt8]))) ∧ Below W.heap.size W w') := fun W => PB_any b v W hle1
  have HCV : Hid (∀ (W : World) (g : Nat), W.heap[g]? = some (.cells #[.int .u8 ((v : Int) % 256)] 5 (0, 0)) → (convert 26 9 (.slice (some ⟨g, 0, none⟩) 1 1)).run Try.prog W = .ok (.string (bstr [(v % 256).toUInt8])) W) := fun W g h => conv_at h
  have hU : ∃ (ut : List UInt8) (uf : Bool), unRet (unhexOf s) = .tuple #[.string (bstr ut), .bool uf] := ⟨_, _, rfl⟩
  obtain ⟨ut, uf, hut⟩ := hU
  have HU1 := Unhex_any s
  have HU2 := RUnhex_any s
  rw [hut] at HU1 HU2
  have HH1 : Hid _ := HU1
  have HH2 : Hid _ := HU2
  clear HU1 HU2 hut
  go_enter Try.func3, Try.ntmps3
  go_wp2_with fail
  refine (HH1.out _ (by omega)).mono ?_
  rintro e w1 ⟨rfl, hb⟩
  go_wp2_with fail
  refine (HH2.out _ (by omega)).mono ?_
  rintro e w2 ⟨rfl, hq⟩
  replace hb := l_step hb hq
  clear hq
  have hcvA : ∀ W : World, (convert 26 9 (.slice (some ⟨W.heap.size, 0, none⟩) 1 1)).run Try.prog (W.alloc (.cells #[.int .u8 ((v : Int) % 256)] 5)) = .ok (.string (bstr [(v % 256).toUInt8])) (W.alloc (.cells #[.int .u8 ((v : Int) % 256)] 5)) := fun W => conv_at (heap_alloc_new W _)
  have hcvD : ∀ W : World, (convert 26 9 (.slice (some ⟨W.heap.size, 0, none⟩) 1 1)).run Try.prog (W.alloc (.cells #[.int .u8 ((v : Int) % 256)] 5)).drew = .ok (.string (bstr [(v % 256).toUInt8])) (W.alloc (.cells #[.int .u8 ((v : Int) % 256)] 5)).drew := fun W => conv_at (W := (W.alloc (.cells #[.int .u8 ((v : Int) % 256)] 5)).drew) (heap_alloc_new W _)
  generalize (v % 256).toUInt8 = bb at *
  have hadd1 : ∀ W : World, (Op.stringOp .add (bstr b) (bstr [bb])).run Try.prog W = .ok (.string (bstr (b ++ [bb]))) W := fun W => by rw [run_string_add_sum W _ _ (by rw [size_bstr, size_bstr]; simp; omega), append_bstr]
  have hadd2 : ∀ W : World, (Op.stringOp .add (bstr b) (bstr (Lib.uvarint v))).run Try.prog W = .ok (.string (bstr (b ++ Lib.uvarint v))) W := fun W => by rw [run_string_add_sum W _ _ (by rw [size_bstr, size_bstr]; omega), append_bstr]
  have hadd3 : ∀ W : World, (Op.stringOp .add (bstr b) (bstr (Lib.uvarint s.length ++ s))).run Try.prog W = .ok (.string (bstr (b ++ (Lib.uvarint s.length ++ s)))) W := fun W => by rw [run_string_add_sum W _ _ (by rw [size_bstr, size_bstr, List.length_append]; omega), append_bstr]
  go_wp2_with fail
  refine wp_region_noPanic ?_
  refine wp_region_any (by kernel_rfl) ?_
  change wpAny _ _ _ _ _ _ _ (World.drew _)
  refine wpAny_take (i := 0) (v := ?v1) rfl (by kernel_rfl) (by kernel_rfl) (by kernel_rfl) (fun _ _ _ h => h) (Or.inl ⟨by rfl, ?y1⟩) ?_
  case y1 => (intro w; go_simp; try with_reducible rfl)
  refine wpAny_take (i := 1) (v := ?v2) rfl (by kernel_rfl) (by kernel_rfl) (by kernel_rfl) (fun _ _ _ h => h) (Or.inl ⟨by rfl, ?y2⟩) ?_
  case y2 => (intro w; go_simp; try with_reducible rfl)
  refine wpAny_take (i := 2) (v := ?v3) rfl (by kernel_rfl) (by kernel_rfl) (by kernel_rfl) (fun _ _ _ h => h) (Or.inl ⟨by rfl, ?y3⟩) ?_
  case y3 => (intro w; go_simp; try with_reducible rfl)
  refine wpAny_take (i := 4) (v := ?v4) rfl (by kernel_rfl) (by kernel_rfl) (by kernel_rfl) (fun _ _ _ h => h) (Or.inl ⟨by rfl, ?y4⟩) ?_
  case y4 => (intro w; go_simp; try with_reducible rfl)
  refine wpAny_take (i := 5) (v := ?v5) rfl (by kernel_rfl) (by kernel_rfl) (by kernel_rfl) (fun _ _ _ h => h) (Or.inl ⟨by rfl, ?y5⟩) ?_
  case y5 => (intro w; go_simp; try with_reducible rfl)
  refine wpAny_take (i := 6) (v := ?v6) rfl (by kernel_rfl) (by kernel_rfl) (by kernel_rfl) (fun _ _ _ h => h) (Or.inl ⟨by rfl, ?y6⟩) ?_
  case y6 => (intro w; go_simp; try with_reducible rfl)
  refine wpAny_ready (rs := [3, 7]) (by kernel_rfl) (by simp) ?_
  refine AllReady.cons rfl (fun K hK => ?_) ?_
  · go_simp
    refine (HPB.out _).mono ?_
    rintro e wq ⟨rfl, hq⟩
    have hbq : Below w.heap.size w wq := l_step hb.drew hq
    clear hq
    refine hK _ _ ?_
    clear hK K
    refine wpAny_ready (rs := [7]) (by kernel_rfl) (by simp) ?_
    refine AllReady.cons rfl (fun K hK => ?_) ?_
    · go_simp
      refine hK _ _ ?_
      clear hK K
      refine wpAny_ready (rs := [8]) (by kernel_rfl) (by simp) ?_
      refine AllReady.cons rfl (fun K hK => ?_) ?_
      · go_simp
        refine hK _ _ ?_
        clear hK K
        refine wpAny_take (i := 9) (v := ?v7) rfl (by kernel_rfl) (by kernel_rfl) (by kernel_rfl) (fun _ _ _ h => h) (Or.inl ⟨by rfl, ?y7⟩) ?_
        case y7 => (intro w; go_simp; try with_reducible rfl)
        refine wpAny_take (i := 10) (v := ?v8) rfl (by kernel_rfl) (by kernel_rfl) (by kernel_rfl) (fun _ _ _ h => h) (Or.inl ⟨by rfl, ?y8⟩) ?_
        case y8 => (intro w; go_simp; try with_reducible rfl)
        refine wpAny_take (i := 11) (v := ?v9) rfl (by kernel_rfl) (by kernel_rfl) (by kernel_rfl) (fun _ _ _ h => h) (Or.inl ⟨by rfl, ?y9⟩) ?_
        case y9 => (intro w; go_simp; try with_reducible rfl)
        refine wpAny_quiet_tail_below _ 12 40 (by kernel_rfl) (by kernel_rfl) rfl (by kernel_rfl) ?_
        simp only [Act.put, List.getElem_toArray, List.getElem_cons_zero, List.getElem_cons_succ, List.setIfInBounds_toArray, List.set_cons_zero, List.set_cons_succ, List.drop_succ_cons, List.drop_zero]
        repeat (go_big_quiet_step (first | (go_at_call 10; exact Calls.regrown_of (PN_any b v _ hle1 hv)) | (go_at_call 11; exact Calls.regrown_of (RNumber_any v _ hv)) | (go_at_call 12; exact Calls.regrown_of (PT_any b s _ hle1 hle2)) | (go_at_call 13; exact Calls.regrown_of (RText_any s _ (by omega))) | (go_at_call 14; exact Calls.regrown_of (Hex_any b _ (by omega))) | (go_at_call 15; exact Calls.regrown_of (RHex_any b _ (by omega))) | (go_at_call 16; exact Calls.regrown_of (works_any _))))
        refine wpQuiet_nil ?_
        intro _ hw'
        obtain ⟨⟨dq, osq⟩, hw''⟩ := hw'
        subst hw''
        refine NoPanic.normal ?_
        go_wp2
        go_ret
        exact ⟨rfl, l_step (hbq.alloc hbq.size _) (below_regrown _ dq osq)⟩
      · exact AllReady.nil
    · exact AllReady.nil
  refine AllReady.cons rfl (fun K hK => ?_) ?_
  · go_simp
    refine hK _ _ ?_
    clear hK K
    refine wpAny_ready (rs := [3, 8]) (by kernel_rfl) (by simp) ?_
    refine AllReady.cons rfl (fun K hK => ?_) ?_
    · go_simp
      refine (HPB.out _).mono ?_
      rintro e wq ⟨rfl, hq⟩
      have hcq := HCV.out wq w2.heap.size ((hq.block w2.heap.size (by simp)).trans (heap_alloc_new w2 _))
      have hbq : Below w.heap.size w wq := l_step (hb.alloc hb.size _).drew hq
      clear hq
      refine hK _ _ ?_
      clear hK K
      refine wpAny_ready (rs := [8]) (by kernel_rfl) (by simp) ?_
      refine AllReady.cons rfl (fun K hK => ?_) ?_
      · go_simp
        refine hK _ _ ?_
        clear hK K
        refine wpAny_take (i := 9) (v := ?v10) rfl (by kernel_rfl) (by kernel_rfl) (by kernel_rfl) (fun _ _ _ h => h) (Or.inl ⟨by rfl, ?y10⟩) ?_
        case y10 => (intro w; go_simp; try with_reducible rfl)
        refine wpAny_take (i := 10) (v := ?v11) rfl (by kernel_rfl) (by kernel_rfl) (by kernel_rfl) (fun _ _ _ h => h) (Or.inl ⟨by rfl, ?y11⟩) ?_
        case y11 => (intro w; go_simp; try with_reducible rfl)
        refine wpAny_take (i := 11) (v := ?v12) rfl (by kernel_rfl) (by kernel_rfl) (by kernel_rfl) (fun _ _ _ h => h) (Or.inl ⟨by rfl, ?y12⟩) ?_
        case y12 => (intro w; go_simp; try with_reducible rfl)
        refine wpAny_quiet_tail_below _ 12 40 (by kernel_rfl) (by kernel_rfl) rfl (by kernel_rfl) ?_
        simp only [Act.put, List.getElem_toArray, List.getElem_cons_zero, List.getElem_cons_succ, List.setIfInBounds_toArray, List.set_cons_zero, List.set_cons_succ, List.drop_succ_cons, List.drop_zero]
        repeat (go_big_quiet_step (first | (go_at_call 10; exact Calls.regrown_of (PN_any b v _ hle1 hv)) | (go_at_call 11; exact Calls.regrown_of (RNumber_any v _ hv)) | (go_at_call 12; exact Calls.regrown_of (PT_any b s _ hle1 hle2)) | (go_at_call 13; exact Calls.regrown_of (RText_any s _ (by omega))) | (go_at_call 14; exact Calls.regrown_of (Hex_any b _ (by omega))) | (go_at_call 15; exact Calls.regrown_of (RHex_any b _ (by omega))) | (go_at_call 16; exact Calls.regrown_of (works_any _))))
        refine wpQuiet_nil ?_
        intro _ hw'
        obtain ⟨⟨dq, osq⟩, hw''⟩ := hw'
        subst hw''
        refine NoPanic.normal ?_
        go_wp2
        go_ret
        exact ⟨rfl, l_step hbq (below_regrown _ dq osq)⟩
      · exact AllReady.nil
    refine AllReady.cons rfl (fun K hK => ?_) ?_
    · go_simp
      refine hK _ _ ?_
      clear hK K
      refine wpAny_take (i := 9) (v := ?v13) rfl (by kernel_rfl) (by kernel_rfl) (by kernel_rfl) (fun _ _ _ h => h) (Or.inl ⟨by rfl, ?y13⟩) ?_
      case y13 => (intro w; go_simp; try with_reducible rfl)
      refine wpAny_ready (rs := [3]) (by kernel_rfl) (by simp) ?_
      refine AllReady.cons rfl (fun K hK => ?_) ?_
      · go_simp
        refine (HPB.out _).mono ?_
        rintro e wq ⟨rfl, hq⟩
        have hcq := HCV.out wq w2.heap.size ((hq.block w2.heap.size (by simp)).trans (heap_alloc_new w2 _))
        have hbq : Below w.heap.size w wq := l_step (hb.alloc hb.size _).drew hq
        clear hq
        refine hK _ _ ?_
        clear hK K
        refine wpAny_take (i := 10) (v := ?v14) rfl (by kernel_rfl) (by kernel_rfl) (by kernel_rfl) (fun _ _ _ h => h) (Or.inl ⟨by rfl, ?y14⟩) ?_
        case y14 => (intro w; go_simp; try with_reducible rfl)
        refine wpAny_take (i := 11) (v := ?v15) rfl (by kernel_rfl) (by kernel_rfl) (by kernel_rfl) (fun _ _ _ h => h) (Or.inl ⟨by rfl, ?y15⟩) ?_
        case y15 => (intro w; go_simp; try with_reducible rfl)
        refine wpAny_quiet_tail_below _ 12 40 (by kernel_rfl) (by kernel_rfl) rfl (by kernel_rfl) ?_
        simp only [Act.put, List.getElem_toArray, List.getElem_cons_zero, List.getElem_cons_succ, List.setIfInBounds_toArray, List.set_cons_zero, List.set_cons_succ, List.drop_succ_cons, List.drop_zero]
        repeat (go_big_quiet_step (first | (go_at_call 10; exact Calls.regrown_of (PN_any b v _ hle1 hv)) | (go_at_call 11; exact Calls.regrown_of (RNumber_any v _ hv)) | (go_at_call 12; exact Calls.regrown_of (PT_any b s _ hle1 hle2)) | (go_at_call 13; exact Calls.regrown_of (RText_any s _ (by omega))) | (go_at_call 14; exact Calls.regrown_of (Hex_any b _ (by omega))) | (go_at_call 15; exact Calls.regrown_of (RHex_any b _ (by omega))) | (go_at_call 16; exact Calls.regrown_of (works_any _))))
        refine wpQuiet_nil ?_
        intro _ hw'
        obtain ⟨⟨dq, osq⟩, hw''⟩ := hw'
        subst hw''
        refine NoPanic.normal ?_
        go_wp2
        go_ret
        exact ⟨rfl, l_step hbq (below_regrown _ dq osq)⟩
      · exact AllReady.nil
    · exact AllReady.nil
  · exact AllReady.nil

end Go.Proofs.Ytbkalfpgeclibaa
