/- WHAT IS PROVED HERE: saplingkeep's there, legal and act, where a page that is there is read. Conditions: named at each theorem. -/
import Derived.Test.YtjpgldeeopmbgaaDoorU0
import Derived.Test.YtjpgldeeopmbgaaDoorR1
import Derived.Deep.RegionHeld3
import Derived.Deep.DeepCutAuto
import Derived.Test.YtjpgldeeopmbgaaDoorS0
import Derived.Deep.RegionLaw
namespace Go.Proofs.YtjpgldeeopmbgaaDoor.Sap
open Go.RowKit

set_option maxRecDepth 100000 in
set_option maxHeartbeats 1600000 in
theorem there_yes (gw ug uc p : Nat) (w : World) (h1 : w.cell? ⟨gw, 1, none⟩ = some (.slice (some ⟨ug, 0, none⟩) 64 uc)) (h2 : w.cell? ⟨ug, p, none⟩ = some (.bool true)) (hp : p < 64) :
    Calls Tryd.prog 94 #[.pointer (some ⟨gw, 0, none⟩), .int .i64 p] w fun e w' => e = .returned (.bool true) ∧ w' = w := by
  have hp1 : (0 : Int) ≤ (p : Int) := by omega
  have hp2 : (p : Int) < 64 := by omega
  go_enter Tryd.func94, Tryd.ntmps94
  go_wp2
  go_ret
  exact ⟨rfl, rfl⟩

set_option maxRecDepth 100000 in
set_option maxHeartbeats 1600000 in
theorem legal_read (gw ug uc p : Nat) (dv : Value) (w : World) (h1 : w.cell? ⟨gw, 1, none⟩ = some (.slice (some ⟨ug, 0, none⟩) 64 uc)) (h2 : w.cell? ⟨ug, p, none⟩ = some (.bool true)) (hp : p < 64) :
    Calls Tryd.prog 89 #[.pointer (some ⟨gw, 0, none⟩), dv, .agg #[.int .i64 1, .int .i64 p, .int .i64 0, .string ⟨#[]⟩]] w fun e w' => e = .returned (.bool true) ∧ Below w.heap.size w w' := by
  have B0 : ∀ o, Hid (Below w.heap.size w (w.alloc o)) := fun o => (Below.refl _ _).alloc (Nat.le_refl _) o
  have k1 : ∀ o, Hid ((w.alloc o).cell? ⟨gw, 1, none⟩ = some (.slice (some ⟨ug, 0, none⟩) 64 uc)) := fun o => cell_below (B0 o).out _ _ h1
  have k2 : ∀ o, Hid ((w.alloc o).cell? ⟨ug, p, none⟩ = some (.bool true)) := fun o => cell_below (B0 o).out _ _ h2
  clear h1 h2
  go_enter Tryd.func89, Tryd.ntmps89
  go_wp2_with fail
  refine (there_yes gw ug uc p _ (k1 _).out (k2 _).out hp).mono ?_
  rintro e w' ⟨rfl, rfl⟩
  go_wp2
  go_ret
  exact ⟨rfl, (B0 _).out⟩

set_option maxRecDepth 100000 in
set_option maxHeartbeats 3200000 in
theorem act_read (gw ug uc tg tc vg vc p : Nat) (t : ByteArray) (ver : Int) (w : World) (h1 : w.cell? ⟨gw, 1, none⟩ = some (.slice (some ⟨ug, 0, none⟩) 64 uc)) (h2 : w.cell? ⟨ug, p, none⟩ = some (.bool true)) (hp : p < 64)
    (h3 : w.cell? ⟨gw, 0, none⟩ = some (.slice (some ⟨tg, 0, none⟩) 64 tc)) (h4 : w.cell? ⟨tg, p, none⟩ = some (.string t)) (h5 : w.cell? ⟨gw, 2, none⟩ = some (.slice (some ⟨vg, 0, none⟩) 64 vc)) (h6 : w.cell? ⟨vg, p, none⟩ = some (.int .i64 ver)) :
    Calls Tryd.prog 90 #[.pointer (some ⟨gw, 0, none⟩), .agg #[.int .i64 1, .int .i64 p, .int .i64 0, .string ⟨#[]⟩]] w fun e w' => e = .returned (.agg #[.int .i64 ver, .int .i64 0, .string t, .bool false]) ∧ Below w.heap.size w w' := by
  have A0 := hideIt (((M.start w).alloc #[.int .i64 1, .int .i64 p, .int .i64 0, .string ⟨#[]⟩] 45).alloc #[.int .i64 0, .int .i64 0, .string ⟨#[]⟩, .bool false] 86)
  rw [alloc_size] at A0
  have k1 := cell_below A0.out.bl _ _ h1
  have k2 := cell_below A0.out.bl _ _ h2
  have k3 := cell_below A0.out.bl _ _ h3
  have k4 := cell_below A0.out.bl _ _ h4
  have k5 := cell_below A0.out.bl _ _ h5
  have k6 := cell_below A0.out.bl _ _ h6
  have K1 := hideIt k1
  have K2 := hideIt k2
  have hp1 : (0 : Int) ≤ (p : Int) := by omega
  have hp2 : (p : Int) < 64 := by omega
  clear h1 h2 h3 h4 h5 h6
  go_enter Tryd.func90, Tryd.ntmps90
  go_wp2_with fail
  refine (there_yes gw ug uc p _ K1.out K2.out hp).mono ?_
  rintro e w' ⟨rfl, rfl⟩
  go_wp2
  go_region
  all_goals
    go_wp2
    refine bodyPost_ret (v := .agg #[.int .i64 ver, .int .i64 0, .string t, .bool false]) (by simp [results, Tryd.results90, go_sem, *]) rfl ⟨rfl, ?_⟩
    refine Below.drew ?_
    exact ((Below.refl _ _).alloc (Nat.le_refl _) _).alloc (by simp) _

set_option maxRecDepth 100000 in
set_option maxHeartbeats 3200000 in
theorem learns_read (gd kg kc p : Nat) (t : ByteArray) (ver : Int) (w0 w : World) (B i j : Nat) (l : List As) (c : Array Value) (xs : List Value) (h : M w0 B w l) (hi : l[i]? = some (.blk gd c 68)) (hc : c[5]? = some (.slice (some ⟨kg, 0, none⟩) 64 kc))
    (hj : l[j]? = some (.row 3 1 (.slice (some ⟨kg, 0, none⟩) 64 kc) 64 xs)) (hp : p < 64) :
    Calls Tryd.prog 91 #[.pointer (some ⟨gd, 0, none⟩), .agg #[.int .i64 1, .int .i64 p, .int .i64 0, .string ⟨#[]⟩], .agg #[.int .i64 ver, .int .i64 0, .string t, .bool false]] w fun e w' => (∃ u, e = .returned u) ∧ M w0 B w' (l.set j (.row 3 1 (.slice (some ⟨kg, 0, none⟩) 64 kc) 64 (xs.set p (.int .i64 ver)))) := by
  have A0 := (h.alloc #[.int .i64 1, .int .i64 p, .int .i64 0, .string ⟨#[]⟩] 45).alloc #[.int .i64 ver, .int .i64 0, .string t, .bool false] 86
  have q5 := A0.cell (i := i + 2) (by simpa using hi) 5 _ hc
  have hrow := A0.get (i := j + 2) (by simpa using hj)
  obtain ⟨x, hx⟩ : ∃ x, xs[p]? = some x := by
    have := hrow.1
    exact ⟨_, List.getElem?_eq_getElem (by simp at this; omega)⟩
  have t1 := World.ownsRow.cellAt hrow p (by omega)
  rw [hx] at t1
  have tf := World.ownsRow.frozenAt hrow p
  have HS : Hid (∀ d, M w0 B ((((w.alloc (.cells #[.int .i64 1, .int .i64 p, .int .i64 0, .string ⟨#[]⟩] 45)).alloc (.cells #[.int .i64 ver, .int .i64 0, .string t, .bool false] 86)).drewN d).setCell ⟨kg, p, none⟩ (.int .i64 ver)) (l.set j (.row 3 1 (.slice (some ⟨kg, 0, none⟩) 64 kc) 64 (xs.set p (.int .i64 ver))))) := fun d =>
    ((((A0.drewN d).storeRow (i := j + 2) (j := p) (by simpa using hj) (.int .i64 ver)).sub (List.sublist_cons_self _ _)).sub (List.sublist_cons_self _ _))
  have hlt := h.lt hi
  have hlt2 : kg < w.heap.size := ((h.get hj).lt rfl).2
  have hp1 : (0 : Int) ≤ (p : Int) := by omega
  have hp2 : (p : Int) < 64 := by omega
  have q5' : w.cell? ⟨gd, 5, none⟩ = some (.slice (some ⟨kg, 0, none⟩) 64 kc) := h.cell hi 5 _ hc
  have t1' : w.cell? ⟨kg, p, none⟩ = some x := by have h2 := World.ownsRow.cellAt (h.get hj) p (by omega); rw [hx] at h2; exact h2
  have tf' : w.frozen? ⟨kg, p, none⟩ = false := World.ownsRow.frozenAt (h.get hj) p
  clear A0 hrow hx h hi hj hc
  go_enter Tryd.func91, Tryd.ntmps91
  go_wp2
  go_quiet (fail)
  go_wp2
  go_region
  all_goals
    go_wp2
    exact bodyPost_end (results_none Tryd.results91 _ _ _) rfl ⟨⟨_, rfl⟩, HS.out _⟩
end Go.Proofs.YtjpgldeeopmbgaaDoor.Sap
