/- WHAT IS PROVED HERE: saplingkeep's learns, legal and act, where a page is swapped or a fresh one is asked for. Conditions: named at each theorem. -/
import Derived.Test.YtjpgldeeopmbgaaDoorB3
import Derived.Test.YtjpgldeeopmbgaaDoorW11
namespace Go.Proofs.YtjpgldeeopmbgaaDoor.Sap
open Go.RowKit

set_option maxRecDepth 100000 in
set_option maxHeartbeats 3200000 in
theorem learns_swap (gd kg kc p : Nat) (t : ByteArray) (ver : Int) (w0 w : World) (B i j : Nat) (l : List As) (c : Array Value) (xs : List Value) (h : M w0 B w l) (hi : l[i]? = some (.blk gd c 68)) (hc : c[5]? = some (.slice (some ⟨kg, 0, none⟩) 64 kc))
    (hj : l[j]? = some (.row 3 1 (.slice (some ⟨kg, 0, none⟩) 64 kc) 64 xs)) (hp : p < 64) (hv0 : 0 ≤ ver) (hv1 : ver ≤ 1000000000) :
    Calls Tryd.prog 91 #[.pointer (some ⟨gd, 0, none⟩), .agg #[.int .i64 2, .int .i64 p, .int .i64 ver, .string t], .agg #[.int .i64 0, .int .i64 0, .string ⟨#[]⟩, .bool true]] w fun e w' => (∃ u, e = .returned u) ∧ M w0 B w' (l.set j (.row 3 1 (.slice (some ⟨kg, 0, none⟩) 64 kc) 64 (xs.set p (.int .i64 (ver + 1))))) := by
  have A0 := (h.alloc #[.int .i64 2, .int .i64 p, .int .i64 ver, .string t] 45).alloc #[.int .i64 0, .int .i64 0, .string ⟨#[]⟩, .bool true] 86
  have q5 := A0.cell (i := i + 2) (by simpa using hi) 5 _ hc
  have hrow := A0.get (i := j + 2) (by simpa using hj)
  obtain ⟨x, hx⟩ : ∃ x, xs[p]? = some x := by
    have := hrow.own.1
    exact ⟨_, List.getElem?_eq_getElem (by simp at this; omega)⟩
  have HS : Hid (∀ d, M w0 B ((((w.alloc (.cells #[.int .i64 2, .int .i64 p, .int .i64 ver, .string t] 45)).alloc (.cells #[.int .i64 0, .int .i64 0, .string ⟨#[]⟩, .bool true] 86)).drewN d).setCell ⟨kg, p, none⟩ (.int .i64 (ver + 1))) (l.set j (.row 3 1 (.slice (some ⟨kg, 0, none⟩) 64 kc) 64 (xs.set p (.int .i64 (ver + 1)))))) := fun d =>
    ((((A0.drewN d).storeRow (i := j + 2) (j := p) (by simpa using hj) (.int .i64 (ver + 1))).sub (List.sublist_cons_self _ _)).sub (List.sublist_cons_self _ _))
  have hlt := h.lt hi
  have hlt2 : kg < w.heap.size := ((h.get hj).lt rfl).2
  have hp1 : (0 : Int) ≤ (p : Int) := by omega
  have hp2 : (p : Int) < 64 := by omega
  have q5' : w.cell? ⟨gd, 5, none⟩ = some (.slice (some ⟨kg, 0, none⟩) 64 kc) := h.cell hi 5 _ hc
  have t1' : w.cell? ⟨kg, p, none⟩ = some x := by have h2 := World.ownsRow.cellAt (h.get hj).own p (by omega); rw [hx] at h2; exact h2
  have tf' : w.frozen? ⟨kg, p, none⟩ = false := World.ownsRow.frozenAt (h.get hj).own p
  clear A0 hrow hx h hi hj hc q5
  go_enter Tryd.func91, Tryd.ntmps91
  go_wp2
  go_quiet (fail)
  go_wp2
  go_region
  all_goals
    go_wp2
    exact bodyPost_end (results_none Tryd.results91 _ _ _) rfl ⟨⟨_, rfl⟩, HS.out _⟩

set_option maxRecDepth 100000 in
set_option maxHeartbeats 3200000 in
theorem learns_swap_no (gd p : Nat) (t : ByteArray) (ver : Int) (w : World) :
    Calls Tryd.prog 91 #[.pointer (some ⟨gd, 0, none⟩), .agg #[.int .i64 2, .int .i64 p, .int .i64 ver, .string t], .agg #[.int .i64 0, .int .i64 0, .string ⟨#[]⟩, .bool false]] w fun e w' => (∃ u, e = .returned u) ∧ Below w.heap.size w w' := by
  have HS : Hid (∀ d, Below w.heap.size w (((w.alloc (.cells #[.int .i64 2, .int .i64 p, .int .i64 ver, .string t] 45)).alloc (.cells #[.int .i64 0, .int .i64 0, .string ⟨#[]⟩, .bool false] 86)).drewN d)) := fun d => (((Below.refl _ _).alloc (Nat.le_refl _) _).alloc (by simp) _).trans ⟨rfl, rfl, rfl, Nat.le_refl _, fun _ _ => rfl⟩
  go_enter Tryd.func91, Tryd.ntmps91
  go_wp2
  go_quiet (fail)
  go_wp2
  exact bodyPost_end (results_none Tryd.results91 _ _ _) rfl ⟨⟨_, rfl⟩, HS.out _⟩

set_option maxRecDepth 100000 in
set_option maxHeartbeats 3200000 in
theorem learns_fresh (gd kg kc p : Nat) (q ver : Int) (t : ByteArray) (w0 w : World) (B i j : Nat) (l : List As) (c : Array Value) (xs : List Value) (h : M w0 B w l) (hi : l[i]? = some (.blk gd c 68)) (hc : c[5]? = some (.slice (some ⟨kg, 0, none⟩) 64 kc))
    (hj : l[j]? = some (.row 3 1 (.slice (some ⟨kg, 0, none⟩) 64 kc) 64 xs)) (hp : p < 64) :
    Calls Tryd.prog 91 #[.pointer (some ⟨gd, 0, none⟩), .agg #[.int .i64 3, .int .i64 q, .int .i64 ver, .string t], .agg #[.int .i64 0, .int .i64 p, .string ⟨#[]⟩, .bool false]] w fun e w' => (∃ u, e = .returned u) ∧ M w0 B w' (l.set j (.row 3 1 (.slice (some ⟨kg, 0, none⟩) 64 kc) 64 (xs.set p (.int .i64 0)))) := by
  have A0 := (h.alloc #[.int .i64 3, .int .i64 q, .int .i64 ver, .string t] 45).alloc #[.int .i64 0, .int .i64 p, .string ⟨#[]⟩, .bool false] 86
  have q5 := A0.cell (i := i + 2) (by simpa using hi) 5 _ hc
  have hrow := A0.get (i := j + 2) (by simpa using hj)
  obtain ⟨x, hx⟩ : ∃ x, xs[p]? = some x := by
    have := hrow.own.1
    exact ⟨_, List.getElem?_eq_getElem (by simp at this; omega)⟩
  have HS : Hid (∀ d, M w0 B ((((w.alloc (.cells #[.int .i64 3, .int .i64 q, .int .i64 ver, .string t] 45)).alloc (.cells #[.int .i64 0, .int .i64 p, .string ⟨#[]⟩, .bool false] 86)).drewN d).setCell ⟨kg, p, none⟩ (.int .i64 0)) (l.set j (.row 3 1 (.slice (some ⟨kg, 0, none⟩) 64 kc) 64 (xs.set p (.int .i64 0))))) := fun d =>
    ((((A0.drewN d).storeRow (i := j + 2) (j := p) (by simpa using hj) (.int .i64 0)).sub (List.sublist_cons_self _ _)).sub (List.sublist_cons_self _ _))
  have hlt := h.lt hi
  have hlt2 : kg < w.heap.size := ((h.get hj).lt rfl).2
  have hp1 : (0 : Int) ≤ (p : Int) := by omega
  have hp2 : (p : Int) < 64 := by omega
  have q5' : w.cell? ⟨gd, 5, none⟩ = some (.slice (some ⟨kg, 0, none⟩) 64 kc) := h.cell hi 5 _ hc
  have t1' : w.cell? ⟨kg, p, none⟩ = some x := by have h2 := World.ownsRow.cellAt (h.get hj).own p (by omega); rw [hx] at h2; exact h2
  have tf' : w.frozen? ⟨kg, p, none⟩ = false := World.ownsRow.frozenAt (h.get hj).own p
  clear A0 hrow hx h hi hj hc q5
  go_enter Tryd.func91, Tryd.ntmps91
  go_wp2
  go_quiet (fail)
  go_wp2
  go_region
  all_goals
    go_wp2
    exact bodyPost_end (results_none Tryd.results91 _ _ _) rfl ⟨⟨_, rfl⟩, HS.out _⟩

set_option maxRecDepth 100000 in
set_option maxHeartbeats 3200000 in
theorem learns_fresh_no (gd : Nat) (q ver : Int) (t : ByteArray) (w0 w : World) (B i : Nat) (l : List As) (c c' : Array Value) (u : Value) (h : M w0 B w l) (hi : l[i]? = some (.blk gd c 68)) (hc : c.setIfInBounds 6 (.bool true) = c') (h6 : c[6]? = some u) :
    Calls Tryd.prog 91 #[.pointer (some ⟨gd, 0, none⟩), .agg #[.int .i64 3, .int .i64 q, .int .i64 ver, .string t], .agg #[.int .i64 0, .int .i64 (-1), .string ⟨#[]⟩, .bool false]] w fun e w' => (∃ u, e = .returned u) ∧ M w0 B w' (l.set i (.blk gd c' 68)) := by
  have A0 := (h.alloc #[.int .i64 3, .int .i64 q, .int .i64 ver, .string t] 45).alloc #[.int .i64 0, .int .i64 (-1), .string ⟨#[]⟩, .bool false] 86
  have HS : Hid (∀ d, M w0 B ((((w.alloc (.cells #[.int .i64 3, .int .i64 q, .int .i64 ver, .string t] 45)).alloc (.cells #[.int .i64 0, .int .i64 (-1), .string ⟨#[]⟩, .bool false] 86)).drewN d).setCell ⟨gd, 6, none⟩ (.bool true)) (l.set i (.blk gd c' 68))) := fun d =>
    ((((A0.drewN d).store (i := i + 2) (j := 6) (by simpa using hi) (.bool true) hc).sub (List.sublist_cons_self _ _)).sub (List.sublist_cons_self _ _))
  have hlt := h.lt hi
  have q6 := h.cell hi 6 _ h6
  have f6 := h.free hi 6
  clear A0 h hi hc
  go_enter Tryd.func91, Tryd.ntmps91
  go_wp2
  go_quiet (fail)
  go_wp2
  exact bodyPost_end (results_none Tryd.results91 _ _ _) rfl ⟨⟨_, rfl⟩, HS.out _⟩
end Go.Proofs.YtjpgldeeopmbgaaDoor.Sap
