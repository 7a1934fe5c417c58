/- WHAT IS PROVED HERE: the whole walk of saplinglaw.Begins: it answers true, and nothing that was there has turned. Conditions: the table of powers of ten is laid. -/
import Derived.Test.YtajobgmnmbnhiaaDoorT2
import Derived.Test.YtajobgmnmbnhiaaDoorW15
import Derived.Test.YtajobgmnmbnhiaaDoorF0
namespace Go.Proofs.YtajobgmnmbnhiaaDoor.Sap
open Go.RowKit

/-- What Unpack answers to the first page. -/
def FirstR (w' : World) (B : Nat) (e : Ending) : Prop :=
  ∃ ak ck av cv, Own w' B (.slice ak 0 ck) (.slice av 0 cv) [] [] ∧ e = .returned (.tuple #[.agg #[.int .i64 0, .int .i64 (-1), .int .i64 10000, .slice ak 0 ck, .slice av 0 cv], .int .i64 0])
theorem first_view {w : World} {B : Nat} {e : Ending} (h : UnpR firstB.data.toList w B e) : FirstR w B e := by
  obtain ⟨n, kv, vv, er, h1, h2, h3⟩ := h.view
  obtain ⟨rfl, rfl⟩ := h1.uniq (Or.inl ⟨rfl, first_unp⟩)
  obtain ⟨ak, ck, rfl⟩ := own_form h2.1
  obtain ⟨av, cv, rfl⟩ := own_form h2.2.1
  exact ⟨ak, ck, av, cv, h2, h3⟩

set_option maxRecDepth 100000 in
set_option maxHeartbeats 1600000 in
theorem begins_walk (k key v : Int) (w : World) (htab : Tab w) :
    Calls Tryd.prog 4 #[.agg #[.int .i64 k, .int .i64 key, .int .i64 v]] w fun e w' => e = .returned (.bool true) ∧ Below w.heap.size w w' := by
  have N0 := hideIt (heap_alloc_new w (.cells #[.int .i64 k, .int .i64 key, .int .i64 v] 37))
  have B0 := hideIt ((Below.refl w.heap.size w).alloc (Nat.le_refl _) (.cells #[.int .i64 k, .int .i64 key, .int .i64 v] 37))
  go_enter Tryd.func4, Tryd.ntmps4
  go_wp2_with fail
  refine (first_any _).mono ?_
  rintro e w' ⟨rfl, rfl⟩
  go_wp2_with fail
  refine (refUnpack_any firstB _ (by decide)).mono ?_
  rintro e w1 ⟨hU, hb⟩
  obtain ⟨ak, ck, av, cv, -, rfl⟩ := first_view hU
  clear hU
  have N1 := hideIt (block_below N0.out hb)
  have B1 := hideIt (step B0.out hb)
  clear hb
  have q := fun o => cellOf (block_alloc N1.out o) 0 _ rfl
  have q1 := fun o => cellOf (block_alloc N1.out o) 1 _ rfl
  have q2 := fun o => cellOf (block_alloc N1.out o) 2 _ rfl
  go_wp2_with fail
  have B2 := hideIt (B1.out.alloc B1.out.size (.cells #[.int .i64 0, .int .i64 (-1), .int .i64 10000, .slice ak 0 ck, .slice av 0 cv] 24))
  have N2 := hideIt (block_alloc N1.out (.cells #[.int .i64 0, .int .i64 (-1), .int .i64 10000, .slice ak 0 ck, .slice av 0 cv] 24))
  refine (begin_any k key v _ (htab.below B2.out)).mono ?_
  rintro e w2 ⟨hR, hb⟩
  have N3 := hideIt (block_below N2.out hb)
  have B3 := hideIt (step B2.out hb)
  clear hb q q1 q2
  have q := cellOf N3.out 0 _ rfl
  have q1 := cellOf N3.out 1 _ rfl
  have q2 := cellOf N3.out 2 _ rfl
  rcases hR with ⟨ho, rfl⟩ | ⟨ho, c, rfl, -⟩
  · have HO := hideIt ho
    clear ho
    go_wp2_with fail
    refine (refOpRight_any k key v _).mono ?_
    rintro e w3 ⟨rfl, hb⟩
    rw [HO.out]
    have B4 := hideIt (step B3.out hb)
    clear hb
    go_wp2
    go_ret
    exact ⟨rfl, B4.out⟩
  · have HO := hideIt ho
    clear ho
    go_wp2_with fail
    refine (refOpRight_any k key v _).mono ?_
    rintro e w3 ⟨rfl, hb⟩
    rw [HO.out]
    have B4 := hideIt (step B3.out hb)
    clear hb
    go_wp2
    go_ret
    exact ⟨rfl, B4.out⟩
end Go.Proofs.YtajobgmnmbnhiaaDoor.Sap
