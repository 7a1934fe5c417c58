/- WHAT IS PROVED HERE: saplingkeep's learns, legal and act, where a page is swapped or a fresh one is asked for. Conditions: named at each theorem. -/
import Derived.Test.YtajobgmnmbnhiaaDoorXParseS0
import Derived.Test.YtajobgmnmbnhiaaDoorXS5B3
namespace Go.Proofs.YtajobgmnmbnhiaaDoor.Sap
open Go.RowKit

set_option maxRecDepth 100000 in
set_option maxHeartbeats 3200000 in
theorem learns_swap (gd kg kc p : Nat) (t : ByteArray) (ver : Int) (w0 w : World) (B i j : Nat) (l : List As) (c : Array Value) (xs : List Value) (h : M w0 B w l) (hi : l[i]? = some (.blk gd c 84)) (hc : c[5]? = some (.slice (some ⟨kg, 0, none⟩) 64 kc))
    (hj : l[j]? = some (.row 3 1 (.slice (some ⟨kg, 0, none⟩) 64 kc) 64 xs)) (hp : p < 64) (hv0 : 0 ≤ ver) (hv1 : ver ≤ 1000000000) :
    Calls Tryd.prog 83 #[.pointer (some ⟨gd, 0, none⟩), .agg #[.int .i64 2, .int .i64 p, .int .i64 ver, .string t], .agg #[.int .i64 0, .int .i64 0, .string ⟨#[]⟩, .bool true]] w fun e w' => (∃ u, e = .returned u) ∧ M w0 B w' (l.set j (.row 3 1 (.slice (some ⟨kg, 0, none⟩) 64 kc) 64 (xs.set p (.int .i64 (ver + 1))))) := by
  have A0 := (h.alloc #[.int .i64 2, .int .i64 p, .int .i64 ver, .string t] 45).alloc #[.int .i64 0, .int .i64 0, .string ⟨#[]⟩, .bool true] 73
  have q5 := A0.cell (i := i + 2) (by simpa using hi) 5 _ hc
  have hrow := A0.get (i := j + 2) (by simpa using hj)
  obtain ⟨x, hx⟩ : ∃ x, xs[p]? = some x := by
    have := hrow.own.1
    exact ⟨_, List.getElem?_eq_getElem (by simp at this; omega)⟩
  have HS : Hid (∀ d, M w0 B ((((w.alloc (.cells #[.int .i64 2, .int .i64 p, .int .i64 ver, .string t] 45)).alloc (.cells #[.int .i64 0, .int .i64 0, .string ⟨#[]⟩, .bool true] 73)).drewN d).setCell ⟨kg, p, none⟩ (.int .i64 (ver + 1))) (l.set j (.row 3 1 (.slice (some ⟨kg, 0, none⟩) 64 kc) 64 (xs.set p (.int .i64 (ver + 1)))))) := fun d =>
    ((((A0.drewN d).storeRow (i := j + 2) (j := p) (by simpa using hj) (.int .i64 (ver + 1))).sub (List.sublist_cons_self _ _)).sub (List.sublist_cons_self _ _))
  have hlt := h.lt hi
  have hlt2 : kg < w.heap.size := ((h.get hj).lt rfl).2
  have hp1 : (0 : Int) ≤ (p : Int) := by omega
  have hp2 : (p : Int) < 64 := by omega
  have q5' : w.cell? ⟨gd, 5, none⟩ = some (.slice (some ⟨kg, 0, none⟩) 64 kc) := h.cell hi 5 _ hc
  have t1' : w.cell? ⟨kg, p, none⟩ = some x := by have h2 := World.ownsRow.cellAt (h.get hj).own p (by omega); rw [hx] at h2; exact h2
  have tf' : w.frozen? ⟨kg, p, none⟩ = false := World.ownsRow.frozenAt (h.get hj).own p
  clear A0 hrow hx h hi hj hc q5
  go_enter Tryd.func83, Tryd.ntmps83
  go_wp2
  go_quiet (fail)
  go_wp2
  go_region
  all_goals
    go_wp2
    exact bodyPost_end (results_none Tryd.results83 _ _ _) rfl ⟨⟨_, rfl⟩, HS.out _⟩

set_option maxRecDepth 100000 in
set_option maxHeartbeats 3200000 in
theorem learns_swap_no (gd p : Nat) (t : ByteArray) (ver : Int) (w : World) :
    Calls Tryd.prog 83 #[.pointer (some ⟨gd, 0, none⟩), .agg #[.int .i64 2, .int .i64 p, .int .i64 ver, .string t], .agg #[.int .i64 0, .int .i64 0, .string ⟨#[]⟩, .bool false]] w fun e w' => (∃ u, e = .returned u) ∧ Below w.heap.size w w' := by
  have HS : Hid (∀ d, Below w.heap.size w (((w.alloc (.cells #[.int .i64 2, .int .i64 p, .int .i64 ver, .string t] 45)).alloc (.cells #[.int .i64 0, .int .i64 0, .string ⟨#[]⟩, .bool false] 73)).drewN d)) := fun d => (((Below.refl _ _).alloc (Nat.le_refl _) _).alloc (by simp) _).trans ⟨rfl, rfl, rfl, Nat.le_refl _, fun _ _ => rfl⟩
  go_enter Tryd.func83, Tryd.ntmps83
  go_wp2
  go_quiet (fail)
  go_wp2
  exact bodyPost_end (results_none Tryd.results83 _ _ _) rfl ⟨⟨_, rfl⟩, HS.out _⟩

set_option maxRecDepth 100000 in
set_option maxHeartbeats 3200000 in
theorem learns_fresh (gd kg kc p : Nat) (q ver : Int) (t : ByteArray) (w0 w : World) (B i j : Nat) (l : List As) (c : Array Value) (xs : List Value) (h : M w0 B w l) (hi : l[i]? = some (.blk gd c 84)) (hc : c[5]? = some (.slice (some ⟨kg, 0, none⟩) 64 kc))
    (hj : l[j]? = some (.row 3 1 (.slice (some ⟨kg, 0, none⟩) 64 kc) 64 xs)) (hp : p < 64) :
    Calls Tryd.prog 83 #[.pointer (some ⟨gd, 0, none⟩), .agg #[.int .i64 3, .int .i64 q, .int .i64 ver, .string t], .agg #[.int .i64 0, .int .i64 p, .string ⟨#[]⟩, .bool false]] w fun e w' => (∃ u, e = .returned u) ∧ M w0 B w' (l.set j (.row 3 1 (.slice (some ⟨kg, 0, none⟩) 64 kc) 64 (xs.set p (.int .i64 0)))) := by
  have A0 := (h.alloc #[.int .i64 3, .int .i64 q, .int .i64 ver, .string t] 45).alloc #[.int .i64 0, .int .i64 p, .string ⟨#[]⟩, .bool false] 73
  have q5 := A0.cell (i := i + 2) (by simpa using hi) 5 _ hc
  have hrow := A0.get (i := j + 2) (by simpa using hj)
  obtain ⟨x, hx⟩ : ∃ x, xs[p]? = some x := by
    have := hrow.own.1
    exact ⟨_, List.getElem?_eq_getElem (by simp at this; omega)⟩
  have HS : Hid (∀ d, M w0 B ((((w.alloc (.cells #[.int .i64 3, .int .i64 q, .int .i64 ver, .string t] 45)).alloc (.cells #[.int .i64 0, .int .i64 p, .string ⟨#[]⟩, .bool false] 73)).drewN d).setCell ⟨kg, p, none⟩ (.int .i64 0)) (l.set j (.row 3 1 (.slice (some ⟨kg, 0, none⟩) 64 kc) 64 (xs.set p (.int .i64 0))))) := fun d =>
    ((((A0.drewN d).storeRow (i := j + 2) (j := p) (by simpa using hj) (.int .i64 0)).sub (List.sublist_cons_self _ _)).sub (List.sublist_cons_self _ _))
  have hlt := h.lt hi
  have hlt2 : kg < w.heap.size := ((h.get hj).lt rfl).2
  have hp1 : (0 : Int) ≤ (p : Int) := by omega
  have hp2 : (p : Int) < 64 := by omega
  have q5' : w.cell? ⟨gd, 5, none⟩ = some (.slice (some ⟨kg, 0, none⟩) 64 kc) := h.cell hi 5 _ hc
  have t1' : w.cell? ⟨kg, p, none⟩ = some x := by have h2 := World.ownsRow.cellAt (h.get hj).own p (by omega); rw [hx] at h2; exact h2
  have tf' : w.frozen? ⟨kg, p, none⟩ = false := World.ownsRow.frozenAt (h.get hj).own p
  clear A0 hrow hx h hi hj hc q5
  go_enter Tryd.func83, Tryd.ntmps83
  go_wp2
  go_quiet (fail)
  go_wp2
  go_region
  all_goals
    go_wp2
    exact bodyPost_end (results_none Tryd.results83 _ _ _) rfl ⟨⟨_, rfl⟩, HS.out _⟩

set_option maxRecDepth 100000 in
set_option maxHeartbeats 3200000 in
theorem learns_fresh_no (gd : Nat) (q ver : Int) (t : ByteArray) (w0 w : World) (B i : Nat) (l : List As) (c c' : Array Value) (u : Value) (h : M w0 B w l) (hi : l[i]? = some (.blk gd c 84)) (hc : c.setIfInBounds 6 (.bool true) = c') (h6 : c[6]? = some u) :
    Calls Tryd.prog 83 #[.pointer (some ⟨gd, 0, none⟩), .agg #[.int .i64 3, .int .i64 q, .int .i64 ver, .string t], .agg #[.int .i64 0, .int .i64 (-1), .string ⟨#[]⟩, .bool false]] w fun e w' => (∃ u, e = .returned u) ∧ M w0 B w' (l.set i (.blk gd c' 84)) := by
  have A0 := (h.alloc #[.int .i64 3, .int .i64 q, .int .i64 ver, .string t] 45).alloc #[.int .i64 0, .int .i64 (-1), .string ⟨#[]⟩, .bool false] 73
  have HS : Hid (∀ d, M w0 B ((((w.alloc (.cells #[.int .i64 3, .int .i64 q, .int .i64 ver, .string t] 45)).alloc (.cells #[.int .i64 0, .int .i64 (-1), .string ⟨#[]⟩, .bool false] 73)).drewN d).setCell ⟨gd, 6, none⟩ (.bool true)) (l.set i (.blk gd c' 84))) := fun d =>
    ((((A0.drewN d).store (i := i + 2) (j := 6) (by simpa using hi) (.bool true) hc).sub (List.sublist_cons_self _ _)).sub (List.sublist_cons_self _ _))
  have hlt := h.lt hi
  have q6 := h.cell hi 6 _ h6
  have f6 := h.free hi 6
  clear A0 h hi hc
  go_enter Tryd.func83, Tryd.ntmps83
  go_wp2
  go_quiet (fail)
  go_wp2
  exact bodyPost_end (results_none Tryd.results83 _ _ _) rfl ⟨⟨_, rfl⟩, HS.out _⟩
end Go.Proofs.YtajobgmnmbnhiaaDoor.Sap

/- WHAT IS PROVED HERE: saplingkeep's legal, where a page is swapped or a fresh one is asked for as P7 lets it. Conditions: named at each theorem. -/
namespace Go.Proofs.YtajobgmnmbnhiaaDoor.Sap
open Go.RowKit

theorem lt_of_cell {w : World} {b j : Nat} {u : Value} (h : w.cell? ⟨b, j, none⟩ = some u) : b < w.heap.size := by
  rcases Nat.lt_or_ge b w.heap.size with h1 | h1
  · exact h1
  · have : w.heap[b]? = none := Array.getElem?_eq_none (by omega)
    simp [World.cell?, this] at h

set_option maxRecDepth 100000 in
set_option maxHeartbeats 1600000 in
theorem there_any (gw ug uc p : Nat) (b : Bool) (w : World) (h1 : w.cell? ⟨gw, 1, none⟩ = some (.slice (some ⟨ug, 0, none⟩) 64 uc)) (h2 : w.cell? ⟨ug, p, none⟩ = some (.bool b)) (hp : p < 64) :
    Calls Tryd.prog 86 #[.pointer (some ⟨gw, 0, none⟩), .int .i64 p] w fun e w' => e = .returned (.bool b) ∧ w' = w := by
  have hp1 : (0 : Int) ≤ (p : Int) := by omega
  have hp2 : (p : Int) < 64 := by omega
  go_enter Tryd.func86, Tryd.ntmps86
  go_wp2
  go_ret
  exact ⟨rfl, rfl⟩

set_option maxRecDepth 100000 in
set_option maxHeartbeats 3200000 in
theorem legal_swap (gw ug uc gd kg kc p : Nat) (kd ver : Int) (t : ByteArray) (w : World) (h1 : w.cell? ⟨gw, 1, none⟩ = some (.slice (some ⟨ug, 0, none⟩) 64 uc)) (h2 : w.cell? ⟨ug, p, none⟩ = some (.bool true)) (hp : p < 64)
    (h3 : w.cell? ⟨gd, 0, none⟩ = some (.int .i64 kd)) (h4 : w.cell? ⟨gd, 5, none⟩ = some (.slice (some ⟨kg, 0, none⟩) 64 kc)) (h5 : w.cell? ⟨kg, p, none⟩ = some (.int .i64 ver)) (hkd : kd = 2 ∨ kd = 3) (hver : 0 ≤ ver) (ht : ∃ n, Unp t.data.toList n) :
    Calls Tryd.prog 81 #[.pointer (some ⟨gw, 0, none⟩), .pointer (some ⟨gd, 0, none⟩), .agg #[.int .i64 2, .int .i64 p, .int .i64 ver, .string t]] w fun e w' => e = .returned (.bool true) ∧ Below w.heap.size w w' := by
  have A0 := hideIt ((M.start w).alloc #[.int .i64 2, .int .i64 p, .int .i64 ver, .string t] 45)
  have k1 := hideIt (cell_below A0.out.bl _ _ h1)
  have k2 := hideIt (cell_below A0.out.bl _ _ h2)
  have K3 : Hid (∀ W, Below w.heap.size w W → W.cell? ⟨gd, 0, none⟩ = some (.int .i64 kd)) := fun W hW => cell_below hW _ _ h3
  have K4 : Hid (∀ W, Below w.heap.size w W → W.cell? ⟨gd, 5, none⟩ = some (.slice (some ⟨kg, 0, none⟩) 64 kc)) := fun W hW => cell_below hW _ _ h4
  have K5 : Hid (∀ W, Below w.heap.size w W → W.cell? ⟨kg, p, none⟩ = some (.int .i64 ver)) := fun W hW => cell_below hW _ _ h5
  have HT := hideIt ht
  have hsz : t.size ≤ 140737488351232 := by
    obtain ⟨n, hn⟩ := ht
    have := (len_packT n hn.1).2
    rw [hn.2, ba_size] at this
    omega
  have hp1 : (0 : Int) ≤ (p : Int) := by omega
  have hp2 : (p : Int) < 64 := by omega
  clear h1 h2 h3 h4 h5 ht
  go_enter Tryd.func81, Tryd.ntmps81
  go_wp2_with fail
  refine (there_yes gw ug uc p _ k1.out k2.out hp).mono ?_
  rintro e w' ⟨rfl, rfl⟩
  clear k1 k2
  go_wp2_with fail
  refine (unpack_any t _ hsz).mono ?_
  rintro e w1 ⟨hR, hb⟩
  rcases hR with ⟨n, kv, vv, hn, hO, rfl⟩ | ⟨hno, -⟩
  case inr => obtain ⟨n, hn⟩ := HT.out; exact absurd hn (hno n)
  obtain ⟨g0, hg0⟩ : ∃ g, w.heap.size = g := ⟨_, rfl⟩
  have A1 := A0.out.below hb
  rw [hg0] at A1 K3 K4 K5 ⊢
  have A2 := hideIt (A1.alloc #[.int .i64 n.lv, .int .i64 n.lk, .int .i64 n.hi, kv, vv] 24)
  obtain ⟨ka, kc', rfl⟩ := own_form hO.1
  obtain ⟨va, vc', rfl⟩ := own_form hO.2.1
  have a0 := A1.cell (i := 0) rfl 0 (.int .i64 2) rfl
  have a1 := A1.cell (i := 0) rfl 1 (.int .i64 p) rfl
  have a2 := A1.cell (i := 0) rfl 2 (.int .i64 ver) rfl
  have c3 := K3.out _ A1.bl
  have c4 := K4.out _ A1.bl
  have c5 := K5.out _ A1.bl
  have hl0 := A1.lt (i := 0) rfl
  have hl3 : gd < w1.heap.size := lt_of_cell c3
  have hl4 : kg < w1.heap.size := lt_of_cell c5
  have HG := hideIt hg0
  clear A0 A1 hb hn hO HT K3 K4 K5 hg0
  have hv : (ver == ver) = true := by simp
  rcases hkd with rfl | rfl
  · go_wp2
    go_quiet (fail)
    go_wp2
    go_ret
    refine ⟨rfl, ?_⟩
    rw [HG.out]
    exact (A2.out.drewN _).bl
  · go_wp2
    go_quiet (fail)
    go_wp2
    go_ret
    refine ⟨rfl, ?_⟩
    rw [HG.out]
    exact (A2.out.drewN _).bl
set_option maxRecDepth 100000 in
set_option maxHeartbeats 3200000 in
theorem legal_fresh (gw ug uc gd q : Nat) (b : Bool) (kd ver : Int) (t : ByteArray) (w : World) (h1 : w.cell? ⟨gw, 1, none⟩ = some (.slice (some ⟨ug, 0, none⟩) 64 uc)) (h2 : w.cell? ⟨ug, q, none⟩ = some (.bool b)) (hq : q < 64)
    (h3 : w.cell? ⟨gd, 0, none⟩ = some (.int .i64 kd)) (hkd : kd = 2 ∨ kd = 3) (ht : ∃ n, Unp t.data.toList n) :
    Calls Tryd.prog 81 #[.pointer (some ⟨gw, 0, none⟩), .pointer (some ⟨gd, 0, none⟩), .agg #[.int .i64 3, .int .i64 q, .int .i64 ver, .string t]] w fun e w' => e = .returned (.bool true) ∧ Below w.heap.size w w' := by
  have A0 := hideIt ((M.start w).alloc #[.int .i64 3, .int .i64 q, .int .i64 ver, .string t] 45)
  have k1 := hideIt (cell_below A0.out.bl _ _ h1)
  have k2 := hideIt (cell_below A0.out.bl _ _ h2)
  have K3 : Hid (∀ W, Below w.heap.size w W → W.cell? ⟨gd, 0, none⟩ = some (.int .i64 kd)) := fun W hW => cell_below hW _ _ h3
  have HT := hideIt ht
  have hsz : t.size ≤ 140737488351232 := by
    obtain ⟨n, hn⟩ := ht
    have := (len_packT n hn.1).2
    rw [hn.2, ba_size] at this
    omega
  clear h1 h2 h3 ht
  go_enter Tryd.func81, Tryd.ntmps81
  go_wp2_with fail
  refine (there_any gw ug uc q b _ k1.out k2.out hq).mono ?_
  rintro e w' ⟨rfl, rfl⟩
  clear k1 k2
  go_wp2_with fail
  refine (unpack_any t _ hsz).mono ?_
  rintro e w1 ⟨hR, hb⟩
  rcases hR with ⟨n, kv, vv, hn, hO, rfl⟩ | ⟨hno, -⟩
  case inr => obtain ⟨n, hn⟩ := HT.out; exact absurd hn (hno n)
  obtain ⟨g0, hg0⟩ : ∃ g, w.heap.size = g := ⟨_, rfl⟩
  have A1 := A0.out.below hb
  rw [hg0] at A1 K3 ⊢
  have A2 := hideIt (A1.alloc #[.int .i64 n.lv, .int .i64 n.lk, .int .i64 n.hi, kv, vv] 24)
  obtain ⟨ka, kc', rfl⟩ := own_form hO.1
  obtain ⟨va, vc', rfl⟩ := own_form hO.2.1
  have a0 := A1.cell (i := 0) rfl 0 (.int .i64 3) rfl
  have c3 := K3.out _ A1.bl
  have hl0 := A1.lt (i := 0) rfl
  have hl3 : gd < w1.heap.size := lt_of_cell c3
  have HG := hideIt hg0
  clear A0 A1 hb hn hO HT K3 hg0
  rcases hkd with rfl | rfl
  · go_wp2
    go_ret
    refine ⟨rfl, ?_⟩
    rw [HG.out]
    exact A2.out.bl
  · go_wp2
    go_ret
    refine ⟨rfl, ?_⟩
    rw [HG.out]
    exact A2.out.bl
end Go.Proofs.YtajobgmnmbnhiaaDoor.Sap

/- WHAT IS PROVED HERE: saplingkeep's act, where a page is swapped (done or not) or a fresh one is asked for (given or not). Conditions: named at each theorem. -/
namespace Go.Proofs.YtajobgmnmbnhiaaDoor.Sap
open Go.RowKit

theorem set_other {l : List As} {i j : Nat} {a b : As} (h : l[j]? = some a) (hij : i ≠ j) : (l.set i b)[j]? = some a := by
  rw [List.getElem?_set, if_neg hij]; exact h

set_option maxRecDepth 100000 in
set_option maxHeartbeats 3200000 in
theorem act_swap (gw ug uc tg tc vg vc p : Nat) (t t0 : ByteArray) (ver : Int) (w0 w : World) (B iw jt ju jv : Nat) (l : List As) (c : Array Value) (T U V : List Value) (h : M w0 B w l) (hw : l[iw]? = some (.blk gw c 58))
    (c0 : c[0]? = some (.slice (some ⟨tg, 0, none⟩) 64 tc)) (c1 : c[1]? = some (.slice (some ⟨ug, 0, none⟩) 64 uc)) (c2 : c[2]? = some (.slice (some ⟨vg, 0, none⟩) 64 vc))
    (hT : l[jt]? = some (.row 9 1 (.slice (some ⟨tg, 0, none⟩) 64 tc) 64 T)) (hU : l[ju]? = some (.row 4 1 (.slice (some ⟨ug, 0, none⟩) 64 uc) 64 U)) (hV : l[jv]? = some (.row 3 1 (.slice (some ⟨vg, 0, none⟩) 64 vc) 64 V)) (hne : jt ≠ jv)
    (hp : p < 64) (hTp : T[p]? = some (.string t0)) (hUp : U[p]? = some (.bool true)) (hVp : V[p]? = some (.int .i64 ver)) (hv0 : 0 ≤ ver) (hv1 : ver ≤ 1000000000) (ht : t.size ≤ 47) :
    Calls Tryd.prog 82 #[.pointer (some ⟨gw, 0, none⟩), .agg #[.int .i64 2, .int .i64 p, .int .i64 ver, .string t]] w fun e w' => e = .returned (.agg #[.int .i64 0, .int .i64 0, .string ⟨#[]⟩, .bool true]) ∧
      M w0 B w' ((l.set jt (.row 9 1 (.slice (some ⟨tg, 0, none⟩) 64 tc) 64 (T.set p (.string t)))).set jv (.row 3 1 (.slice (some ⟨vg, 0, none⟩) 64 vc) 64 (V.set p (.int .i64 (ver + 1))))) := by
  have A0 := hideIt ((h.alloc #[.int .i64 2, .int .i64 p, .int .i64 ver, .string t] 45).alloc #[.int .i64 0, .int .i64 0, .string ⟨#[]⟩, .bool false] 73)
  rw [alloc_size] at A0
  obtain ⟨W, hW⟩ : ∃ W, (w.alloc (.cells #[.int .i64 2, .int .i64 p, .int .i64 ver, .string t] 45)).alloc (.cells #[.int .i64 0, .int .i64 0, .string ⟨#[]⟩, .bool false] 73) = W := ⟨_, rfl⟩
  have HW := hideIt hW
  rw [hW] at A0
  have K1 := hideIt (A0.out.cell (i := iw + 2) (by simpa using hw) 1 _ c1)
  have K2 := hideIt (A0.out.rowCell (i := ju + 2) (by simpa using hU) p _ hUp)
  have hp1 : (0 : Int) ≤ (p : Int) := by omega
  have hp2 : (p : Int) < 64 := by omega
  have hts : (t.size : Int) ≤ 47 := by omega
  have hvv : (ver == ver) = true := by simp
  have hvn : (ver != ver) = false := by simp
  obtain ⟨ga, hga⟩ : ∃ g, w.heap.size = g := ⟨_, rfl⟩
  rw [hga] at A0
  have HGA := hideIt hga
  clear hW hga
  go_enter Tryd.func82, Tryd.ntmps82
  go_wp2_with fail
  rw [HW.out, HGA.out]
  refine (there_yes gw ug uc p _ K1.out K2.out hp).mono ?_
  rintro e w' ⟨rfl, rfl⟩
  clear K1 K2 HW HGA
  obtain ⟨gr, hgr⟩ : ∃ g, ga + 1 = g := ⟨_, rfl⟩
  rw [hgr] at A0 ⊢
  clear hgr
  have a0 := A0.out.cell (i := 1) rfl 0 (.int .i64 2) rfl
  have a1 := A0.out.cell (i := 1) rfl 1 (.int .i64 p) rfl
  have a2 := A0.out.cell (i := 1) rfl 2 (.int .i64 ver) rfl
  have a3 := A0.out.cell (i := 1) rfl 3 (.string t) rfl
  have w0c := A0.out.cell (i := iw + 2) (by simpa using hw) 0 _ c0
  have w2c := A0.out.cell (i := iw + 2) (by simpa using hw) 2 _ c2
  have tp := A0.out.rowCell (i := jt + 2) (by simpa using hT) p _ hTp
  have vp := A0.out.rowCell (i := jv + 2) (by simpa using hV) p _ hVp
  have tf := A0.out.rowFree (i := jt + 2) (by simpa using hT) p
  have S1 : Hid (∀ d, M w0 B ((w'.drewN d).setCell ⟨tg, p, none⟩ (.string t)) (.blk gr #[.int .i64 0, .int .i64 0, .string ⟨#[]⟩, .bool false] 73 :: .blk ga #[.int .i64 2, .int .i64 p, .int .i64 ver, .string t] 45 :: l.set jt (.row 9 1 (.slice (some ⟨tg, 0, none⟩) 64 tc) 64 (T.set p (.string t))))) := fun d => (A0.out.drewN d).storeRow (i := jt + 2) (j := p) (by simpa using hT) (.string t)
  obtain ⟨l1, hl1⟩ : ∃ x, l.set jt (.row 9 1 (.slice (some ⟨tg, 0, none⟩) 64 tc) 64 (T.set p (.string t))) = x := ⟨_, rfl⟩
  have hV1 : Hid (l1[jv]? = some (.row 3 1 (.slice (some ⟨vg, 0, none⟩) 64 vc) 64 V)) := by unfold Hid; rw [← hl1]; exact set_other hV hne
  have hw1 : Hid (∃ c', l1[iw]? = some (.blk gw c' 58) ∧ c'[2]? = some (.slice (some ⟨vg, 0, none⟩) 64 vc)) := by
    have : jt ≠ iw := fun e => by rw [e, hw] at hT; cases hT
    unfold Hid; rw [← hl1]; exact ⟨c, set_other hw this, c2⟩
  rw [hl1] at S1
  have HL1 := hideIt hl1
  have HVP := hideIt hVp
  clear hl1 hT hU hV hw c0 c1 c2 h hTp hUp hVp hne
  go_wp2
  go_quiet (fail)
  go_upto_region 11 with fail
  go_cut [] (fun wy => Hid (M w0 B wy (.blk gr #[.int .i64 0, .int .i64 0, .string ⟨#[]⟩, .bool false] 73 :: .blk ga #[.int .i64 2, .int .i64 p, .int .i64 ver, .string t] 45 :: l1)))
  case first =>
    go_region
    all_goals
      go_wp2
      go_meet
      case rel => exact S1.out (nq + 1)
  case rest =>
    clear A0 a0 a1 a2 a3 w0c w2c tp vp tf S1
    obtain ⟨c', hw1, hc'⟩ := hw1.out
    have a1 := hcut.out.cell (i := 1) rfl 1 (.int .i64 p) rfl
    have w2c := hcut.out.cell (i := iw + 2) (by simpa using hw1) 2 _ hc'
    have vp := hcut.out.rowCell (i := jv + 2) (by simpa using hV1.out) p _ HVP.out
    have vf := hcut.out.rowFree (i := jv + 2) (by simpa using hV1.out) p
    have S2 : Hid (∀ d, M w0 B ((wc.drewN d).setCell ⟨vg, p, none⟩ (.int .i64 (ver + 1))) (.blk gr #[.int .i64 0, .int .i64 0, .string ⟨#[]⟩, .bool false] 73 :: .blk ga #[.int .i64 2, .int .i64 p, .int .i64 ver, .string t] 45 :: l1.set jv (.row 3 1 (.slice (some ⟨vg, 0, none⟩) 64 vc) 64 (V.set p (.int .i64 (ver + 1)))))) := fun d => (hcut.out.drewN d).storeRow (i := jv + 2) (j := p) (by simpa using hV1.out) (.int .i64 (ver + 1))
    go_upto_region 12 with fail
    go_cut [] (fun wy => Hid (M w0 B wy (.blk gr #[.int .i64 0, .int .i64 0, .string ⟨#[]⟩, .bool false] 73 :: .blk ga #[.int .i64 2, .int .i64 p, .int .i64 ver, .string t] 45 :: l1.set jv (.row 3 1 (.slice (some ⟨vg, 0, none⟩) 64 vc) 64 (V.set p (.int .i64 (ver + 1)))))))
    case first =>
      clear hcut hw1 hc'
      go_region
      all_goals
        go_wp2
        go_meet
        case rel => exact S2.out 1
    case rest =>
      have HN := hideIt hcut.out
      clear hcut hw1 hc' a1 w2c vp vf S2
      have r0 := HN.out.cell (i := 0) rfl 0 (.int .i64 0) rfl
      have r1 := HN.out.cell (i := 0) rfl 1 (.int .i64 0) rfl
      have r2 := HN.out.cell (i := 0) rfl 2 (.string ⟨#[]⟩) rfl
      have r3 := HN.out.cell (i := 0) rfl 3 (.bool false) rfl
      have f0 := HN.out.free (i := 0) rfl 0
      have f1 := HN.out.free (i := 0) rfl 1
      have f2 := HN.out.free (i := 0) rfl 2
      have f3 := HN.out.free (i := 0) rfl 3
      have S4 := hideIt ((((HN.out.store (i := 0) (j := 0) rfl (.int .i64 0) rfl).store (i := 0) (j := 1) rfl (.int .i64 0) rfl).store (i := 0) (j := 2) rfl (.string ⟨#[]⟩) rfl).store (i := 0) (j := 3) rfl (.bool true) rfl)
      clear HN
      go_wp2
      refine bodyPost_ret (v := .agg #[.int .i64 0, .int .i64 0, .string ⟨#[]⟩, .bool true]) (by simp [results, Tryd.results82, go_sem, *]) rfl ⟨rfl, ?_⟩
      rw [HL1.out]
      exact (S4.out.sub (List.sublist_cons_self _ _)).sub (List.sublist_cons_self _ _)
end Go.Proofs.YtajobgmnmbnhiaaDoor.Sap
