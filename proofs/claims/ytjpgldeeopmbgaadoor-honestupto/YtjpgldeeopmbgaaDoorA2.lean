/- WHAT IS PROVED HERE: saplingkeep's legal, where a page is swapped or a fresh one is asked for as P7 lets it. Conditions: named at each theorem. -/
import Derived.Test.YtjpgldeeopmbgaaDoorA1
namespace Go.Proofs.YtjpgldeeopmbgaaDoor.Sap
open Go.RowKit

theorem lt_of_cell {w : World} {b j : Nat} {u : Value} (h : w.cell? ⟨b, j, none⟩ = some u) : b < w.heap.size := by
  rcases Nat.lt_or_ge b w.heap.size with h1 | h1
  · exact h1
  · have : w.heap[b]? = none := Array.getElem?_eq_none (by omega)
    simp [World.cell?, this] at h

set_option maxRecDepth 100000 in
set_option maxHeartbeats 1600000 in
theorem there_any (gw ug uc p : Nat) (b : Bool) (w : World) (h1 : w.cell? ⟨gw, 1, none⟩ = some (.slice (some ⟨ug, 0, none⟩) 64 uc)) (h2 : w.cell? ⟨ug, p, none⟩ = some (.bool b)) (hp : p < 64) :
    Calls Tryd.prog 94 #[.pointer (some ⟨gw, 0, none⟩), .int .i64 p] w fun e w' => e = .returned (.bool b) ∧ w' = w := by
  have hp1 : (0 : Int) ≤ (p : Int) := by omega
  have hp2 : (p : Int) < 64 := by omega
  go_enter Tryd.func94, Tryd.ntmps94
  go_wp2
  go_ret
  exact ⟨rfl, rfl⟩

set_option maxRecDepth 100000 in
set_option maxHeartbeats 3200000 in
theorem legal_swap (gw ug uc gd kg kc p : Nat) (kd ver : Int) (t : ByteArray) (w : World) (h1 : w.cell? ⟨gw, 1, none⟩ = some (.slice (some ⟨ug, 0, none⟩) 64 uc)) (h2 : w.cell? ⟨ug, p, none⟩ = some (.bool true)) (hp : p < 64)
    (h3 : w.cell? ⟨gd, 0, none⟩ = some (.int .i64 kd)) (h4 : w.cell? ⟨gd, 5, none⟩ = some (.slice (some ⟨kg, 0, none⟩) 64 kc)) (h5 : w.cell? ⟨kg, p, none⟩ = some (.int .i64 ver)) (hkd : kd = 2 ∨ kd = 3) (hver : 0 ≤ ver) (ht : ∃ n, Unp t.data.toList n) :
    Calls Tryd.prog 89 #[.pointer (some ⟨gw, 0, none⟩), .pointer (some ⟨gd, 0, none⟩), .agg #[.int .i64 2, .int .i64 p, .int .i64 ver, .string t]] w fun e w' => e = .returned (.bool true) ∧ Below w.heap.size w w' := by
  have A0 := hideIt ((M.start w).alloc #[.int .i64 2, .int .i64 p, .int .i64 ver, .string t] 45)
  have k1 := hideIt (cell_below A0.out.bl _ _ h1)
  have k2 := hideIt (cell_below A0.out.bl _ _ h2)
  have K3 : Hid (∀ W, Below w.heap.size w W → W.cell? ⟨gd, 0, none⟩ = some (.int .i64 kd)) := fun W hW => cell_below hW _ _ h3
  have K4 : Hid (∀ W, Below w.heap.size w W → W.cell? ⟨gd, 5, none⟩ = some (.slice (some ⟨kg, 0, none⟩) 64 kc)) := fun W hW => cell_below hW _ _ h4
  have K5 : Hid (∀ W, Below w.heap.size w W → W.cell? ⟨kg, p, none⟩ = some (.int .i64 ver)) := fun W hW => cell_below hW _ _ h5
  have HT := hideIt ht
  have hsz : t.size ≤ 140737488351232 := by
    obtain ⟨n, hn⟩ := ht
    have := (len_packT n hn.1).2
    rw [hn.2, ba_size] at this
    omega
  have hp1 : (0 : Int) ≤ (p : Int) := by omega
  have hp2 : (p : Int) < 64 := by omega
  clear h1 h2 h3 h4 h5 ht
  go_enter Tryd.func89, Tryd.ntmps89
  go_wp2_with fail
  refine (there_yes gw ug uc p _ k1.out k2.out hp).mono ?_
  rintro e w' ⟨rfl, rfl⟩
  clear k1 k2
  go_wp2_with fail
  refine (unpack_any t _ hsz).mono ?_
  rintro e w1 ⟨hR, hb⟩
  rcases hR with ⟨n, kv, vv, hn, hO, rfl⟩ | ⟨hno, -⟩
  case inr => obtain ⟨n, hn⟩ := HT.out; exact absurd hn (hno n)
  obtain ⟨g0, hg0⟩ : ∃ g, w.heap.size = g := ⟨_, rfl⟩
  have A1 := A0.out.below hb
  rw [hg0] at A1 K3 K4 K5 ⊢
  have A2 := hideIt (A1.alloc #[.int .i64 n.lv, .int .i64 n.lk, .int .i64 n.hi, kv, vv] 24)
  obtain ⟨ka, kc', rfl⟩ := own_form hO.1
  obtain ⟨va, vc', rfl⟩ := own_form hO.2.1
  have a0 := A1.cell (i := 0) rfl 0 (.int .i64 2) rfl
  have a1 := A1.cell (i := 0) rfl 1 (.int .i64 p) rfl
  have a2 := A1.cell (i := 0) rfl 2 (.int .i64 ver) rfl
  have c3 := K3.out _ A1.bl
  have c4 := K4.out _ A1.bl
  have c5 := K5.out _ A1.bl
  have hl0 := A1.lt (i := 0) rfl
  have hl3 : gd < w1.heap.size := lt_of_cell c3
  have hl4 : kg < w1.heap.size := lt_of_cell c5
  have HG := hideIt hg0
  clear A0 A1 hb hn hO HT K3 K4 K5 hg0
  have hv : (ver == ver) = true := by simp
  rcases hkd with rfl | rfl
  · go_wp2
    go_quiet (fail)
    go_wp2
    go_ret
    refine ⟨rfl, ?_⟩
    rw [HG.out]
    exact (A2.out.drewN _).bl
  · go_wp2
    go_quiet (fail)
    go_wp2
    go_ret
    refine ⟨rfl, ?_⟩
    rw [HG.out]
    exact (A2.out.drewN _).bl
set_option maxRecDepth 100000 in
set_option maxHeartbeats 3200000 in
theorem legal_fresh (gw ug uc gd q : Nat) (b : Bool) (kd ver : Int) (t : ByteArray) (w : World) (h1 : w.cell? ⟨gw, 1, none⟩ = some (.slice (some ⟨ug, 0, none⟩) 64 uc)) (h2 : w.cell? ⟨ug, q, none⟩ = some (.bool b)) (hq : q < 64)
    (h3 : w.cell? ⟨gd, 0, none⟩ = some (.int .i64 kd)) (hkd : kd = 2 ∨ kd = 3) (ht : ∃ n, Unp t.data.toList n) :
    Calls Tryd.prog 89 #[.pointer (some ⟨gw, 0, none⟩), .pointer (some ⟨gd, 0, none⟩), .agg #[.int .i64 3, .int .i64 q, .int .i64 ver, .string t]] w fun e w' => e = .returned (.bool true) ∧ Below w.heap.size w w' := by
  have A0 := hideIt ((M.start w).alloc #[.int .i64 3, .int .i64 q, .int .i64 ver, .string t] 45)
  have k1 := hideIt (cell_below A0.out.bl _ _ h1)
  have k2 := hideIt (cell_below A0.out.bl _ _ h2)
  have K3 : Hid (∀ W, Below w.heap.size w W → W.cell? ⟨gd, 0, none⟩ = some (.int .i64 kd)) := fun W hW => cell_below hW _ _ h3
  have HT := hideIt ht
  have hsz : t.size ≤ 140737488351232 := by
    obtain ⟨n, hn⟩ := ht
    have := (len_packT n hn.1).2
    rw [hn.2, ba_size] at this
    omega
  clear h1 h2 h3 ht
  go_enter Tryd.func89, Tryd.ntmps89
  go_wp2_with fail
  refine (there_any gw ug uc q b _ k1.out k2.out hq).mono ?_
  rintro e w' ⟨rfl, rfl⟩
  clear k1 k2
  go_wp2_with fail
  refine (unpack_any t _ hsz).mono ?_
  rintro e w1 ⟨hR, hb⟩
  rcases hR with ⟨n, kv, vv, hn, hO, rfl⟩ | ⟨hno, -⟩
  case inr => obtain ⟨n, hn⟩ := HT.out; exact absurd hn (hno n)
  obtain ⟨g0, hg0⟩ : ∃ g, w.heap.size = g := ⟨_, rfl⟩
  have A1 := A0.out.below hb
  rw [hg0] at A1 K3 ⊢
  have A2 := hideIt (A1.alloc #[.int .i64 n.lv, .int .i64 n.lk, .int .i64 n.hi, kv, vv] 24)
  obtain ⟨ka, kc', rfl⟩ := own_form hO.1
  obtain ⟨va, vc', rfl⟩ := own_form hO.2.1
  have a0 := A1.cell (i := 0) rfl 0 (.int .i64 3) rfl
  have c3 := K3.out _ A1.bl
  have hl0 := A1.lt (i := 0) rfl
  have hl3 : gd < w1.heap.size := lt_of_cell c3
  have HG := hideIt hg0
  clear A0 A1 hb hn hO HT K3 hg0
  rcases hkd with rfl | rfl
  · go_wp2
    go_ret
    refine ⟨rfl, ?_⟩
    rw [HG.out]
    exact A2.out.bl
  · go_wp2
    go_ret
    refine ⟨rfl, ?_⟩
    rw [HG.out]
    exact A2.out.bl
end Go.Proofs.YtjpgldeeopmbgaaDoor.Sap
