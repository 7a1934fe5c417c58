/- WHAT IS PROVED HERE: tree.Next asks for Read of its page. Conditions: named at each theorem. -/
import Derived.Test.YtajobgmnmbnhiaaDoorT7
import Derived.Test.YtajobgmnmbnhiaaDoorR1
import Derived.Deep.RegionHeld3
import Derived.Deep.DeepCutAuto
namespace Go.Proofs.YtajobgmnmbnhiaaDoor.Sap
open Go.RowKit

set_option maxRecDepth 100000 in
set_option maxHeartbeats 1600000 in
theorem next_read (s : St) (t : ByteArray) (w : World) (ht : t.data.toList = frT s) (hok : StOk s) (hsw : s.sw = ⟨#[]⟩) :
    Calls Tryd.prog 26 #[.string t] w fun e w' => e = .returned (.tuple #[.agg #[.int .i64 1, .int .i64 s.pg, .int .i64 0, .string ⟨#[]⟩], .int .i64 0]) ∧ Below w.heap.size w w' := by
  have N0 := hideIt (heap_alloc_new w (.cells #[.int .i64 0, .int .i64 0, .int .i64 0, .string ⟨#[]⟩] 45))
  have B0 := hideIt ((Below.refl w.heap.size w).alloc (Nat.le_refl _) (.cells #[.int .i64 0, .int .i64 0, .int .i64 0, .string ⟨#[]⟩] 45))
  have C := hideIt (readFrame_yes s t (w.alloc (.cells #[.int .i64 0, .int .i64 0, .int .i64 0, .string ⟨#[]⟩] 45)) ht hok)
  have hsb : s.sw.toList.isEmpty = true := by rw [hsw, ByteArray.toList_eq]; rfl
  clear ht hok
  go_enter Tryd.func26, Tryd.ntmps26
  go_wp2_with fail
  refine C.out.mono ?_
  rintro e w1 ⟨⟨kv, vv, bv, pv, xv, yv, hO, rfl⟩, hb⟩
  obtain ⟨ak, ck, rfl⟩ := own_form hO.keys
  obtain ⟨av, cv, rfl⟩ := own_form hO.vals
  obtain ⟨ab, cb, rfl⟩ := own_form hO.bel
  obtain ⟨ap, cp, rfl⟩ := own_form hO.pts
  obtain ⟨ax, cx, rfl⟩ := own_form hO.sp
  obtain ⟨ay, cy, rfl⟩ := own_form hO.sv
  have N1 := hideIt (block_below N0.out hb)
  have B1 := hideIt (step B0.out hb)
  clear hb hO C
  have q0 := cellOf N1.out 0 _ rfl
  have q1 := cellOf N1.out 1 _ rfl
  have q2 := cellOf N1.out 2 _ rfl
  have q3 := cellOf N1.out 3 _ rfl
  have f0 := Go.Joins.unfrozen_of_block N1.out 0
  have f1 := Go.Joins.unfrozen_of_block N1.out 1
  have f2 := Go.Joins.unfrozen_of_block N1.out 2
  have f3 := Go.Joins.unfrozen_of_block N1.out 3
  have hsz := lt_of_block N1.out
  go_wp2
  refine bodyPost_ret (v := .tuple #[.agg #[.int .i64 1, .int .i64 s.pg, .int .i64 0, .string ⟨#[]⟩], .int .i64 0]) (by simp [results, Tryd.results26, go_sem, *]) rfl ⟨rfl, ?_⟩
  refine Below.alloc ?_ (by simpa using B1.out.size) _
  repeat (refine Below.setCell ?_ (by simp) _)
  exact B1.out

end Go.Proofs.YtajobgmnmbnhiaaDoor.Sap
