/- WHAT IS PROVED HERE: saplingref.decimal answers four digits. Conditions: the number is 0 to 9999. -/
import Derived.Test.YtajobgmnmbnhiaaDoorW1
import Derived.Deep.QuietTactic
import Derived.BigQuiet
namespace Go.Proofs.YtajobgmnmbnhiaaDoor.Sap
open Go.RowKit

set_option maxRecDepth 100000 in
set_option maxHeartbeats 800000 in
theorem decimal_any (n : Nat) (w : World) (hn : n ≤ 9999) :
    Calls Tryd.prog 45 #[.int .i64 n] w fun e w' => e = .returned (.string ⟨(dg 4 n).toArray⟩) ∧ ∃ k, w' = w.drewN k := by
  have h0 : (0 : Int) ≤ (n : Int) := by omega
  have h1 : (n : Int) ≤ 9999 := by omega
  have a0 : (0 : Int) ≤ (n : Int) / 1000 % 10 := by omega
  have a1 : (n : Int) / 1000 % 10 ≤ 9 := by omega
  have b0 : (0 : Int) ≤ (n : Int) / 100 % 10 := by omega
  have b1 : (n : Int) / 100 % 10 ≤ 9 := by omega
  have c0 : (0 : Int) ≤ (n : Int) / 10 % 10 := by omega
  have c1 : (n : Int) / 10 % 10 ≤ 9 := by omega
  have d0 : (0 : Int) ≤ (n : Int) % 10 := by omega
  have d1 : (n : Int) % 10 ≤ 9 := by omega
  go_enter Tryd.func45, Tryd.ntmps45
  go_wp2
  go_quiet (fail)
  go_wp2
  go_ret
  refine ⟨?_, nq, rfl⟩
  refine congrArg (fun b => Ending.returned (Value.string b)) (ba_ext ?_)
  rw [ba_append, ba_append, ba_append, ba_extract, ba_extract, ba_extract, ba_extract, ba_mk, dg4]
  simp only [dig_at _ (Nat.mod_lt _ (by decide : 0 < 10))]
  rfl
end Go.Proofs.YtajobgmnmbnhiaaDoor.Sap
