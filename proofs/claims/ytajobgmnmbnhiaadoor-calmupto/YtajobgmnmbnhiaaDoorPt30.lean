/- WHAT IS PROVED HERE: saplingkeep's says and fitted: the node of a page. Conditions: the page unpacks, or it is free; named at each theorem. -/
import Derived.Test.YtajobgmnmbnhiaaDoorPt33
import Derived.Test.YtajobgmnmbnhiaaDoorPt36
namespace Go.Proofs.YtajobgmnmbnhiaaDoor.Sap
open Go.RowKit
theorem Own.m {w w' : World} {kv vv : Value} {ks vs : List Int} (h : Own w' w.heap.size kv vv ks vs) (hb : Below w.heap.size w w') : M w w.heap.size w' [.row 3 1 kv ks.length (ints ks), .row 3 1 vv vs.length (ints vs)] := by
  refine ⟨fun a ha => ?_, ?_, hb, hb.size⟩
  · rcases List.mem_cons.1 ha with rfl | ha
    · exact h.1
    · rcases List.mem_singleton.1 ha with rfl
      exact h.2.1
  · exact List.pairwise_cons.2 ⟨fun b hb2 k h1 h2 => by rcases List.mem_singleton.1 hb2 with rfl; exact h.2.2 k h1 h2, List.pairwise_singleton _ _⟩
theorem M.pages {w0 W : World} {B : Nat} {x : Wd} {fr : List As} (h : M w0 B W (x.as ++ fr)) : PgR x.gw x.tg x.tc x.ug x.uc x.T x.U W := by
  refine ⟨h.cell (i := 0) rfl 0 _ rfl, h.cell (i := 0) rfl 1 _ rfl, fun p hp => ?_⟩
  have h1 := (h.get (i := 3) rfl).own.1
  have h2 := (h.get (i := 4) rfl).own.1
  simp [strs] at h1
  simp [bools] at h2
  have ht : x.T[p]? = some (x.T[p]'(by omega)) := List.getElem?_eq_getElem (by omega)
  have hu : x.U[p]? = some (x.U[p]'(by omega)) := List.getElem?_eq_getElem (by omega)
  exact ⟨_, _, ht, hu, h.rowCell (i := 3) rfl p _ (strs_get ht), h.rowCell (i := 4) rfl p _ (bools_get hu)⟩
end Go.Proofs.YtajobgmnmbnhiaaDoor.Sap
