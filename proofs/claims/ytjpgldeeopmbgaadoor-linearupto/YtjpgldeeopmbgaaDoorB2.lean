/- WHAT IS PROVED HERE: how an operation of saplingkeep lies in memory. Conditions: none. -/
import Derived.Test.YtjpgldeeopmbgaaDoorB1
import Derived.Test.YtjpgldeeopmbgaaDoorS2
namespace Go.Proofs.YtjpgldeeopmbgaaDoor.Sap
open Go.RowKit

theorem infoDeed : (Tryd.prog.info? 61).map (fun i => (i.zero, i.size, i.bytes)) = some (some (.pointer none), 1, 8) := by kernel_rfl
/-- The cells of an operation that is under way or has ended. -/
def DC (k key v : Int) (f : ByteArray) (tv kv : Value) (rf en : Bool) (er : Int) (fd : Bool) (va pt : Int) (ks vs cs : Value) : Array Value := #[.int .i64 k, .int .i64 key, .int .i64 v, .string f, tv, kv, .bool rf, .bool en, .int .i64 er, .bool fd, .int .i64 va, .int .i64 pt, ks, vs, cs]

theorem M.bne {w0 w : World} {B i j b g : Nat} {l : List As} {c d : Array Value} {t u : TypeId} (h : M w0 B w l) (hi : l[i]? = some (.blk b c t)) (hj : l[j]? = some (.blk g d u)) (hij : i < j) : b ≠ g := by
  intro e
  subst e
  have hil : i < l.length := (List.getElem?_eq_some_iff.1 hi).1
  have hjl : j < l.length := (List.getElem?_eq_some_iff.1 hj).1
  have hia := (List.getElem?_eq_some_iff.1 hi).2
  have hja := (List.getElem?_eq_some_iff.1 hj).2
  have := List.pairwise_iff_getElem.1 h.apart i j hil hjl hij
  rw [hia, hja] at this
  exact this b rfl rfl
end Go.Proofs.YtjpgldeeopmbgaaDoor.Sap
