/-
  quorum: is it in a list, a majority's number; arrays compared.
-/
import Derived.Test.YtdoiknfpgmglaabUMem
namespace Go.Proofs.Ytdoiknfpgmglaab
open Go.RowKit Go.BigFrame

theorem most_eq (l : List Int) : (l.length : Int) / 2 + 1 = (most l : Int) := by
  unfold most
  omega

set_option maxHeartbeats 1000000 in
theorem Most_any (q : Option Addr) (cap : Nat) (l : List Int) (w : World) (hl : l.length ≤ 9223372036854775807) :
    Calls Try.prog 9 #[.slice q l.length cap] w fun e w' => e = .returned (.int .i64 (most l : Int)) ∧ w' = w := by
  have HM : Hid _ := most_eq l
  go_enter Try.func9, Try.ntmps9
  go_wp2
  go_ret
  exact ⟨by rw [← HM.out]; rfl, rfl⟩

theorem Try.infoBool : (Try.prog.info? 4).map (fun i => (i.zero, i.size, i.bytes)) = some (some (.bool false), 1, 1) := by kernel_rfl
theorem nd_eql (a0 a1 a2 a3 a4 b0 b1 b2 b3 b4 : Bool) (w : World) : (binOp .eql 37 (.agg #[.bool a0, .bool a1, .bool a2, .bool a3, .bool a4]) (.agg #[.bool b0, .bool b1, .bool b2, .bool b3, .bool b4])).run Try.prog w = .ok (.bool (a0 == b0 && a1 == b1 && a2 == b2 && a3 == b3 && a4 == b4)) w := by
  have ht := Try.underlying37
  have u3 := Try.underlying4
  have ag3 := Try.isAgg4
  have sz3 := Try.sizeOf4
  obtain ⟨i, hi, _⟩ := info_parts Try.infoBool
  rw [run_eql_struct, show (10000 : Nat) = 9999 + 1 from rfl, run_equalIn_array w 9999 _ _ ht hi]
  rw [show List.range 5 = [0, 1, 2, 3, 4] from rfl]
  have hce : Try.prog.cellsOf 4 = 1 := by kernel_rfl
  simp only [Op.eqItems, hce]
  go_simp
  by_cases h0 : a0 = b0 <;> by_cases h1 : a1 = b1 <;> by_cases h2 : a2 = b2 <;> by_cases h3 : a3 = b3 <;> by_cases h4 : a4 = b4 <;> simp [h0, h1, h2, h3, h4]

end Go.Proofs.Ytdoiknfpgmglaab
