/- WHAT IS PROVED HERE: saplingkeep's learns, legal and act, where a page is swapped or a fresh one is asked for. Conditions: named at each theorem. -/
import Derived.Test.YtajobgmnmbnhiaaDoorPt16
namespace Go.Proofs.YtajobgmnmbnhiaaDoor.Sap
open Go.RowKit
set_option maxRecDepth 100000 in
set_option maxHeartbeats 3200000 in
theorem learns_swap (gd kg kc p : Nat) (t : ByteArray) (ver : Int) (w0 w : World) (B i j : Nat) (l : List As) (c : Array Value) (xs : List Value) (h : M w0 B w l) (hi : l[i]? = some (.blk gd c 84)) (hc : c[5]? = some (.slice (some ⟨kg, 0, none⟩) 64 kc))
    (hj : l[j]? = some (.row 3 1 (.slice (some ⟨kg, 0, none⟩) 64 kc) 64 xs)) (hp : p < 64) (hv0 : 0 ≤ ver) (hv1 : ver ≤ 1000000000) :
    Calls Tryd.prog 83 #[.pointer (some ⟨gd, 0, none⟩), .agg #[.int .i64 2, .int .i64 p, .int .i64 ver, .string t], .agg #[.int .i64 0, .int .i64 0, .string ⟨#[]⟩, .bool true]] w fun e w' => (∃ u, e = .returned u) ∧ M w0 B w' (l.set j (.row 3 1 (.slice (some ⟨kg, 0, none⟩) 64 kc) 64 (xs.set p (.int .i64 (ver + 1))))) := by
  have A0 := (h.alloc #[.int .i64 2, .int .i64 p, .int .i64 ver, .string t] 45).alloc #[.int .i64 0, .int .i64 0, .string ⟨#[]⟩, .bool true] 73
  have q5 := A0.cell (i := i + 2) (by simpa using hi) 5 _ hc
  have hrow := A0.get (i := j + 2) (by simpa using hj)
  obtain ⟨x, hx⟩ : ∃ x, xs[p]? = some x := by
    have := hrow.own.1
    exact ⟨_, List.getElem?_eq_getElem (by simp at this; omega)⟩
  have HS : Hid (∀ d, M w0 B ((((w.alloc (.cells #[.int .i64 2, .int .i64 p, .int .i64 ver, .string t] 45)).alloc (.cells #[.int .i64 0, .int .i64 0, .string ⟨#[]⟩, .bool true] 73)).drewN d).setCell ⟨kg, p, none⟩ (.int .i64 (ver + 1))) (l.set j (.row 3 1 (.slice (some ⟨kg, 0, none⟩) 64 kc) 64 (xs.set p (.int .i64 (ver + 1)))))) := fun d =>
    ((((A0.drewN d).storeRow (i := j + 2) (j := p) (by simpa using hj) (.int .i64 (ver + 1))).sub (List.sublist_cons_self _ _)).sub (List.sublist_cons_self _ _))
  have hlt := h.lt hi
  have hlt2 : kg < w.heap.size := ((h.get hj).lt rfl).2
  have hp1 : (0 : Int) ≤ (p : Int) := by omega
  have hp2 : (p : Int) < 64 := by omega
  have q5' : w.cell? ⟨gd, 5, none⟩ = some (.slice (some ⟨kg, 0, none⟩) 64 kc) := h.cell hi 5 _ hc
  have t1' : w.cell? ⟨kg, p, none⟩ = some x := by have h2 := World.ownsRow.cellAt (h.get hj).own p (by omega); rw [hx] at h2; exact h2
  have tf' : w.frozen? ⟨kg, p, none⟩ = false := World.ownsRow.frozenAt (h.get hj).own p
  clear A0 hrow hx h hi hj hc q5
  go_enter Tryd.func83, Tryd.ntmps83
  go_wp2
  go_quiet (fail)
  go_wp2
  go_region
  all_goals
    go_wp2
    exact bodyPost_end (results_none Tryd.results83 _ _ _) rfl ⟨⟨_, rfl⟩, HS.out _⟩
set_option maxRecDepth 100000 in
set_option maxHeartbeats 3200000 in
theorem learns_swap_no (gd p : Nat) (t : ByteArray) (ver : Int) (w : World) :
    Calls Tryd.prog 83 #[.pointer (some ⟨gd, 0, none⟩), .agg #[.int .i64 2, .int .i64 p, .int .i64 ver, .string t], .agg #[.int .i64 0, .int .i64 0, .string ⟨#[]⟩, .bool false]] w fun e w' => (∃ u, e = .returned u) ∧ Below w.heap.size w w' := by
  have HS : Hid (∀ d, Below w.heap.size w (((w.alloc (.cells #[.int .i64 2, .int .i64 p, .int .i64 ver, .string t] 45)).alloc (.cells #[.int .i64 0, .int .i64 0, .string ⟨#[]⟩, .bool false] 73)).drewN d)) := fun d => (((Below.refl _ _).alloc (Nat.le_refl _) _).alloc (by simp) _).trans ⟨rfl, rfl, rfl, Nat.le_refl _, fun _ _ => rfl⟩
  go_enter Tryd.func83, Tryd.ntmps83
  go_wp2
  go_quiet (fail)
  go_wp2
  exact bodyPost_end (results_none Tryd.results83 _ _ _) rfl ⟨⟨_, rfl⟩, HS.out _⟩
set_option maxRecDepth 100000 in
set_option maxHeartbeats 3200000 in
theorem learns_fresh (gd kg kc p : Nat) (q ver : Int) (t : ByteArray) (w0 w : World) (B i j : Nat) (l : List As) (c : Array Value) (xs : List Value) (h : M w0 B w l) (hi : l[i]? = some (.blk gd c 84)) (hc : c[5]? = some (.slice (some ⟨kg, 0, none⟩) 64 kc))
    (hj : l[j]? = some (.row 3 1 (.slice (some ⟨kg, 0, none⟩) 64 kc) 64 xs)) (hp : p < 64) :
    Calls Tryd.prog 83 #[.pointer (some ⟨gd, 0, none⟩), .agg #[.int .i64 3, .int .i64 q, .int .i64 ver, .string t], .agg #[.int .i64 0, .int .i64 p, .string ⟨#[]⟩, .bool false]] w fun e w' => (∃ u, e = .returned u) ∧ M w0 B w' (l.set j (.row 3 1 (.slice (some ⟨kg, 0, none⟩) 64 kc) 64 (xs.set p (.int .i64 0)))) := by
  have A0 := (h.alloc #[.int .i64 3, .int .i64 q, .int .i64 ver, .string t] 45).alloc #[.int .i64 0, .int .i64 p, .string ⟨#[]⟩, .bool false] 73
  have q5 := A0.cell (i := i + 2) (by simpa using hi) 5 _ hc
  have hrow := A0.get (i := j + 2) (by simpa using hj)
  obtain ⟨x, hx⟩ : ∃ x, xs[p]? = some x := by
    have := hrow.own.1
    exact ⟨_, List.getElem?_eq_getElem (by simp at this; omega)⟩
  have HS : Hid (∀ d, M w0 B ((((w.alloc (.cells #[.int .i64 3, .int .i64 q, .int .i64 ver, .string t] 45)).alloc (.cells #[.int .i64 0, .int .i64 p, .string ⟨#[]⟩, .bool false] 73)).drewN d).setCell ⟨kg, p, none⟩ (.int .i64 0)) (l.set j (.row 3 1 (.slice (some ⟨kg, 0, none⟩) 64 kc) 64 (xs.set p (.int .i64 0))))) := fun d =>
    ((((A0.drewN d).storeRow (i := j + 2) (j := p) (by simpa using hj) (.int .i64 0)).sub (List.sublist_cons_self _ _)).sub (List.sublist_cons_self _ _))
  have hlt := h.lt hi
  have hlt2 : kg < w.heap.size := ((h.get hj).lt rfl).2
  have hp1 : (0 : Int) ≤ (p : Int) := by omega
  have hp2 : (p : Int) < 64 := by omega
  have q5' : w.cell? ⟨gd, 5, none⟩ = some (.slice (some ⟨kg, 0, none⟩) 64 kc) := h.cell hi 5 _ hc
  have t1' : w.cell? ⟨kg, p, none⟩ = some x := by have h2 := World.ownsRow.cellAt (h.get hj).own p (by omega); rw [hx] at h2; exact h2
  have tf' : w.frozen? ⟨kg, p, none⟩ = false := World.ownsRow.frozenAt (h.get hj).own p
  clear A0 hrow hx h hi hj hc q5
  go_enter Tryd.func83, Tryd.ntmps83
  go_wp2
  go_quiet (fail)
  go_wp2
  go_region
  all_goals
    go_wp2
    exact bodyPost_end (results_none Tryd.results83 _ _ _) rfl ⟨⟨_, rfl⟩, HS.out _⟩
set_option maxRecDepth 100000 in
set_option maxHeartbeats 3200000 in
theorem learns_fresh_no (gd : Nat) (q ver : Int) (t : ByteArray) (w0 w : World) (B i : Nat) (l : List As) (c c' : Array Value) (u : Value) (h : M w0 B w l) (hi : l[i]? = some (.blk gd c 84)) (hc : c.setIfInBounds 6 (.bool true) = c') (h6 : c[6]? = some u) :
    Calls Tryd.prog 83 #[.pointer (some ⟨gd, 0, none⟩), .agg #[.int .i64 3, .int .i64 q, .int .i64 ver, .string t], .agg #[.int .i64 0, .int .i64 (-1), .string ⟨#[]⟩, .bool false]] w fun e w' => (∃ u, e = .returned u) ∧ M w0 B w' (l.set i (.blk gd c' 84)) := by
  have A0 := (h.alloc #[.int .i64 3, .int .i64 q, .int .i64 ver, .string t] 45).alloc #[.int .i64 0, .int .i64 (-1), .string ⟨#[]⟩, .bool false] 73
  have HS : Hid (∀ d, M w0 B ((((w.alloc (.cells #[.int .i64 3, .int .i64 q, .int .i64 ver, .string t] 45)).alloc (.cells #[.int .i64 0, .int .i64 (-1), .string ⟨#[]⟩, .bool false] 73)).drewN d).setCell ⟨gd, 6, none⟩ (.bool true)) (l.set i (.blk gd c' 84))) := fun d =>
    ((((A0.drewN d).store (i := i + 2) (j := 6) (by simpa using hi) (.bool true) hc).sub (List.sublist_cons_self _ _)).sub (List.sublist_cons_self _ _))
  have hlt := h.lt hi
  have q6 := h.cell hi 6 _ h6
  have f6 := h.free hi 6
  clear A0 h hi hc
  go_enter Tryd.func83, Tryd.ntmps83
  go_wp2
  go_quiet (fail)
  go_wp2
  exact bodyPost_end (results_none Tryd.results83 _ _ _) rfl ⟨⟨_, rfl⟩, HS.out _⟩
theorem lt_of_cell {w : World} {b j : Nat} {u : Value} (h : w.cell? ⟨b, j, none⟩ = some u) : b < w.heap.size := by
  rcases Nat.lt_or_ge b w.heap.size with h1 | h1
  · exact h1
  · have : w.heap[b]? = none := Array.getElem?_eq_none (by omega)
    simp [World.cell?, this] at h
set_option maxRecDepth 100000 in
set_option maxHeartbeats 1600000 in
theorem there_any (gw ug uc p : Nat) (b : Bool) (w : World) (h1 : w.cell? ⟨gw, 1, none⟩ = some (.slice (some ⟨ug, 0, none⟩) 64 uc)) (h2 : w.cell? ⟨ug, p, none⟩ = some (.bool b)) (hp : p < 64) :
    Calls Tryd.prog 86 #[.pointer (some ⟨gw, 0, none⟩), .int .i64 p] w fun e w' => e = .returned (.bool b) ∧ w' = w := by
  have hp1 : (0 : Int) ≤ (p : Int) := by omega
  have hp2 : (p : Int) < 64 := by omega
  go_enter Tryd.func86, Tryd.ntmps86
  go_wp2
  go_ret
  exact ⟨rfl, rfl⟩
set_option maxRecDepth 100000 in
set_option maxHeartbeats 3200000 in
theorem legal_swap (gw ug uc gd kg kc p : Nat) (kd ver : Int) (t : ByteArray) (w : World) (h1 : w.cell? ⟨gw, 1, none⟩ = some (.slice (some ⟨ug, 0, none⟩) 64 uc)) (h2 : w.cell? ⟨ug, p, none⟩ = some (.bool true)) (hp : p < 64)
    (h3 : w.cell? ⟨gd, 0, none⟩ = some (.int .i64 kd)) (h4 : w.cell? ⟨gd, 5, none⟩ = some (.slice (some ⟨kg, 0, none⟩) 64 kc)) (h5 : w.cell? ⟨kg, p, none⟩ = some (.int .i64 ver)) (hkd : kd = 2 ∨ kd = 3) (hver : 0 ≤ ver) (ht : ∃ n, Unp t.data.toList n) :
    Calls Tryd.prog 81 #[.pointer (some ⟨gw, 0, none⟩), .pointer (some ⟨gd, 0, none⟩), .agg #[.int .i64 2, .int .i64 p, .int .i64 ver, .string t]] w fun e w' => e = .returned (.bool true) ∧ Below w.heap.size w w' := by
  have A0 := hideIt ((M.start w).alloc #[.int .i64 2, .int .i64 p, .int .i64 ver, .string t] 45)
  have k1 := hideIt (cell_below A0.out.bl _ _ h1)
  have k2 := hideIt (cell_below A0.out.bl _ _ h2)
  have K3 : Hid (∀ W, Below w.heap.size w W → W.cell? ⟨gd, 0, none⟩ = some (.int .i64 kd)) := fun W hW => cell_below hW _ _ h3
  have K4 : Hid (∀ W, Below w.heap.size w W → W.cell? ⟨gd, 5, none⟩ = some (.slice (some ⟨kg, 0, none⟩) 64 kc)) := fun W hW => cell_below hW _ _ h4
  have K5 : Hid (∀ W, Below w.heap.size w W → W.cell? ⟨kg, p, none⟩ = some (.int .i64 ver)) := fun W hW => cell_below hW _ _ h5
  have HT := hideIt ht
  have hsz : t.size ≤ 140737488351232 := by
    obtain ⟨n, hn⟩ := ht
    have := (len_packT n hn.1).2
    rw [hn.2, ba_size] at this
    omega
  have hp1 : (0 : Int) ≤ (p : Int) := by omega
  have hp2 : (p : Int) < 64 := by omega
  clear h1 h2 h3 h4 h5 ht
  go_enter Tryd.func81, Tryd.ntmps81
  go_wp2_with fail
  refine (there_yes gw ug uc p _ k1.out k2.out hp).mono ?_
  rintro e w' ⟨rfl, rfl⟩
  clear k1 k2
  go_wp2_with fail
  refine (unpack_any t _ hsz).mono ?_
  rintro e w1 ⟨hR, hb⟩
  rcases hR with ⟨n, kv, vv, hn, hO, rfl⟩ | ⟨hno, -⟩
  case inr => obtain ⟨n, hn⟩ := HT.out; exact absurd hn (hno n)
  obtain ⟨g0, hg0⟩ : ∃ g, w.heap.size = g := ⟨_, rfl⟩
  have A1 := A0.out.below hb
  rw [hg0] at A1 K3 K4 K5 ⊢
  have A2 := hideIt (A1.alloc #[.int .i64 n.lv, .int .i64 n.lk, .int .i64 n.hi, kv, vv] 24)
  obtain ⟨ka, kc', rfl⟩ := own_form hO.1
  obtain ⟨va, vc', rfl⟩ := own_form hO.2.1
  have a0 := A1.cell (i := 0) rfl 0 (.int .i64 2) rfl
  have a1 := A1.cell (i := 0) rfl 1 (.int .i64 p) rfl
  have a2 := A1.cell (i := 0) rfl 2 (.int .i64 ver) rfl
  have c3 := K3.out _ A1.bl
  have c4 := K4.out _ A1.bl
  have c5 := K5.out _ A1.bl
  have hl0 := A1.lt (i := 0) rfl
  have hl3 : gd < w1.heap.size := lt_of_cell c3
  have hl4 : kg < w1.heap.size := lt_of_cell c5
  have HG := hideIt hg0
  clear A0 A1 hb hn hO HT K3 K4 K5 hg0
  have hv : (ver == ver) = true := by simp
  rcases hkd with rfl | rfl
  · go_wp2
    go_quiet (fail)
    go_wp2
    go_ret
    refine ⟨rfl, ?_⟩
    rw [HG.out]
    exact (A2.out.drewN _).bl
  · go_wp2
    go_quiet (fail)
    go_wp2
    go_ret
    refine ⟨rfl, ?_⟩
    rw [HG.out]
    exact (A2.out.drewN _).bl
set_option maxRecDepth 100000 in
set_option maxHeartbeats 3200000 in
theorem legal_fresh (gw ug uc gd q : Nat) (b : Bool) (kd ver : Int) (t : ByteArray) (w : World) (h1 : w.cell? ⟨gw, 1, none⟩ = some (.slice (some ⟨ug, 0, none⟩) 64 uc)) (h2 : w.cell? ⟨ug, q, none⟩ = some (.bool b)) (hq : q < 64)
    (h3 : w.cell? ⟨gd, 0, none⟩ = some (.int .i64 kd)) (hkd : kd = 2 ∨ kd = 3) (ht : ∃ n, Unp t.data.toList n) :
    Calls Tryd.prog 81 #[.pointer (some ⟨gw, 0, none⟩), .pointer (some ⟨gd, 0, none⟩), .agg #[.int .i64 3, .int .i64 q, .int .i64 ver, .string t]] w fun e w' => e = .returned (.bool true) ∧ Below w.heap.size w w' := by
  have A0 := hideIt ((M.start w).alloc #[.int .i64 3, .int .i64 q, .int .i64 ver, .string t] 45)
  have k1 := hideIt (cell_below A0.out.bl _ _ h1)
  have k2 := hideIt (cell_below A0.out.bl _ _ h2)
  have K3 : Hid (∀ W, Below w.heap.size w W → W.cell? ⟨gd, 0, none⟩ = some (.int .i64 kd)) := fun W hW => cell_below hW _ _ h3
  have HT := hideIt ht
  have hsz : t.size ≤ 140737488351232 := by
    obtain ⟨n, hn⟩ := ht
    have := (len_packT n hn.1).2
    rw [hn.2, ba_size] at this
    omega
  clear h1 h2 h3 ht
  go_enter Tryd.func81, Tryd.ntmps81
  go_wp2_with fail
  refine (there_any gw ug uc q b _ k1.out k2.out hq).mono ?_
  rintro e w' ⟨rfl, rfl⟩
  clear k1 k2
  go_wp2_with fail
  refine (unpack_any t _ hsz).mono ?_
  rintro e w1 ⟨hR, hb⟩
  rcases hR with ⟨n, kv, vv, hn, hO, rfl⟩ | ⟨hno, -⟩
  case inr => obtain ⟨n, hn⟩ := HT.out; exact absurd hn (hno n)
  obtain ⟨g0, hg0⟩ : ∃ g, w.heap.size = g := ⟨_, rfl⟩
  have A1 := A0.out.below hb
  rw [hg0] at A1 K3 ⊢
  have A2 := hideIt (A1.alloc #[.int .i64 n.lv, .int .i64 n.lk, .int .i64 n.hi, kv, vv] 24)
  obtain ⟨ka, kc', rfl⟩ := own_form hO.1
  obtain ⟨va, vc', rfl⟩ := own_form hO.2.1
  have a0 := A1.cell (i := 0) rfl 0 (.int .i64 3) rfl
  have c3 := K3.out _ A1.bl
  have hl0 := A1.lt (i := 0) rfl
  have hl3 : gd < w1.heap.size := lt_of_cell c3
  have HG := hideIt hg0
  clear A0 A1 hb hn hO HT K3 hg0
  rcases hkd with rfl | rfl
  · go_wp2
    go_ret
    refine ⟨rfl, ?_⟩
    rw [HG.out]
    exact A2.out.bl
  · go_wp2
    go_ret
    refine ⟨rfl, ?_⟩
    rw [HG.out]
    exact A2.out.bl
theorem set_other {l : List As} {i j : Nat} {a b : As} (h : l[j]? = some a) (hij : i ≠ j) : (l.set i b)[j]? = some a := by
  rw [List.getElem?_set, if_neg hij]; exact h
set_option maxRecDepth 100000 in
set_option maxHeartbeats 3200000 in
theorem act_swap (gw ug uc tg tc vg vc p : Nat) (t t0 : ByteArray) (ver : Int) (w0 w : World) (B iw jt ju jv : Nat) (l : List As) (c : Array Value) (T U V : List Value) (h : M w0 B w l) (hw : l[iw]? = some (.blk gw c 58))
    (c0 : c[0]? = some (.slice (some ⟨tg, 0, none⟩) 64 tc)) (c1 : c[1]? = some (.slice (some ⟨ug, 0, none⟩) 64 uc)) (c2 : c[2]? = some (.slice (some ⟨vg, 0, none⟩) 64 vc))
    (hT : l[jt]? = some (.row 9 1 (.slice (some ⟨tg, 0, none⟩) 64 tc) 64 T)) (hU : l[ju]? = some (.row 4 1 (.slice (some ⟨ug, 0, none⟩) 64 uc) 64 U)) (hV : l[jv]? = some (.row 3 1 (.slice (some ⟨vg, 0, none⟩) 64 vc) 64 V)) (hne : jt ≠ jv)
    (hp : p < 64) (hTp : T[p]? = some (.string t0)) (hUp : U[p]? = some (.bool true)) (hVp : V[p]? = some (.int .i64 ver)) (hv0 : 0 ≤ ver) (hv1 : ver ≤ 1000000000) (ht : t.size ≤ 47) :
    Calls Tryd.prog 82 #[.pointer (some ⟨gw, 0, none⟩), .agg #[.int .i64 2, .int .i64 p, .int .i64 ver, .string t]] w fun e w' => e = .returned (.agg #[.int .i64 0, .int .i64 0, .string ⟨#[]⟩, .bool true]) ∧
      M w0 B w' ((l.set jt (.row 9 1 (.slice (some ⟨tg, 0, none⟩) 64 tc) 64 (T.set p (.string t)))).set jv (.row 3 1 (.slice (some ⟨vg, 0, none⟩) 64 vc) 64 (V.set p (.int .i64 (ver + 1))))) := by
  have A0 := hideIt ((h.alloc #[.int .i64 2, .int .i64 p, .int .i64 ver, .string t] 45).alloc #[.int .i64 0, .int .i64 0, .string ⟨#[]⟩, .bool false] 73)
  rw [alloc_size] at A0
  obtain ⟨W, hW⟩ : ∃ W, (w.alloc (.cells #[.int .i64 2, .int .i64 p, .int .i64 ver, .string t] 45)).alloc (.cells #[.int .i64 0, .int .i64 0, .string ⟨#[]⟩, .bool false] 73) = W := ⟨_, rfl⟩
  have HW := hideIt hW
  rw [hW] at A0
  have K1 := hideIt (A0.out.cell (i := iw + 2) (by simpa using hw) 1 _ c1)
  have K2 := hideIt (A0.out.rowCell (i := ju + 2) (by simpa using hU) p _ hUp)
  have hp1 : (0 : Int) ≤ (p : Int) := by omega
  have hp2 : (p : Int) < 64 := by omega
  have hts : (t.size : Int) ≤ 47 := by omega
  have hvv : (ver == ver) = true := by simp
  have hvn : (ver != ver) = false := by simp
  obtain ⟨ga, hga⟩ : ∃ g, w.heap.size = g := ⟨_, rfl⟩
  rw [hga] at A0
  have HGA := hideIt hga
  clear hW hga
  go_enter Tryd.func82, Tryd.ntmps82
  go_wp2_with fail
  rw [HW.out, HGA.out]
  refine (there_yes gw ug uc p _ K1.out K2.out hp).mono ?_
  rintro e w' ⟨rfl, rfl⟩
  clear K1 K2 HW HGA
  obtain ⟨gr, hgr⟩ : ∃ g, ga + 1 = g := ⟨_, rfl⟩
  rw [hgr] at A0 ⊢
  clear hgr
  have a0 := A0.out.cell (i := 1) rfl 0 (.int .i64 2) rfl
  have a1 := A0.out.cell (i := 1) rfl 1 (.int .i64 p) rfl
  have a2 := A0.out.cell (i := 1) rfl 2 (.int .i64 ver) rfl
  have a3 := A0.out.cell (i := 1) rfl 3 (.string t) rfl
  have w0c := A0.out.cell (i := iw + 2) (by simpa using hw) 0 _ c0
  have w2c := A0.out.cell (i := iw + 2) (by simpa using hw) 2 _ c2
  have tp := A0.out.rowCell (i := jt + 2) (by simpa using hT) p _ hTp
  have vp := A0.out.rowCell (i := jv + 2) (by simpa using hV) p _ hVp
  have tf := A0.out.rowFree (i := jt + 2) (by simpa using hT) p
  have S1 : Hid (∀ d, M w0 B ((w'.drewN d).setCell ⟨tg, p, none⟩ (.string t)) (.blk gr #[.int .i64 0, .int .i64 0, .string ⟨#[]⟩, .bool false] 73 :: .blk ga #[.int .i64 2, .int .i64 p, .int .i64 ver, .string t] 45 :: l.set jt (.row 9 1 (.slice (some ⟨tg, 0, none⟩) 64 tc) 64 (T.set p (.string t))))) := fun d => (A0.out.drewN d).storeRow (i := jt + 2) (j := p) (by simpa using hT) (.string t)
  obtain ⟨l1, hl1⟩ : ∃ x, l.set jt (.row 9 1 (.slice (some ⟨tg, 0, none⟩) 64 tc) 64 (T.set p (.string t))) = x := ⟨_, rfl⟩
  have hV1 : Hid (l1[jv]? = some (.row 3 1 (.slice (some ⟨vg, 0, none⟩) 64 vc) 64 V)) := by unfold Hid; rw [← hl1]; exact set_other hV hne
  have hw1 : Hid (∃ c', l1[iw]? = some (.blk gw c' 58) ∧ c'[2]? = some (.slice (some ⟨vg, 0, none⟩) 64 vc)) := by
    have : jt ≠ iw := fun e => by rw [e, hw] at hT; cases hT
    unfold Hid; rw [← hl1]; exact ⟨c, set_other hw this, c2⟩
  rw [hl1] at S1
  have HL1 := hideIt hl1
  have HVP := hideIt hVp
  clear hl1 hT hU hV hw c0 c1 c2 h hTp hUp hVp hne
  go_wp2
  go_quiet (fail)
  go_upto_region 11 with fail
  go_cut [] (fun wy => Hid (M w0 B wy (.blk gr #[.int .i64 0, .int .i64 0, .string ⟨#[]⟩, .bool false] 73 :: .blk ga #[.int .i64 2, .int .i64 p, .int .i64 ver, .string t] 45 :: l1)))
  case first =>
    go_region
    all_goals
      go_wp2
      go_meet
      case rel => exact S1.out (nq + 1)
  case rest =>
    clear A0 a0 a1 a2 a3 w0c w2c tp vp tf S1
    obtain ⟨c', hw1, hc'⟩ := hw1.out
    have a1 := hcut.out.cell (i := 1) rfl 1 (.int .i64 p) rfl
    have w2c := hcut.out.cell (i := iw + 2) (by simpa using hw1) 2 _ hc'
    have vp := hcut.out.rowCell (i := jv + 2) (by simpa using hV1.out) p _ HVP.out
    have vf := hcut.out.rowFree (i := jv + 2) (by simpa using hV1.out) p
    have S2 : Hid (∀ d, M w0 B ((wc.drewN d).setCell ⟨vg, p, none⟩ (.int .i64 (ver + 1))) (.blk gr #[.int .i64 0, .int .i64 0, .string ⟨#[]⟩, .bool false] 73 :: .blk ga #[.int .i64 2, .int .i64 p, .int .i64 ver, .string t] 45 :: l1.set jv (.row 3 1 (.slice (some ⟨vg, 0, none⟩) 64 vc) 64 (V.set p (.int .i64 (ver + 1)))))) := fun d => (hcut.out.drewN d).storeRow (i := jv + 2) (j := p) (by simpa using hV1.out) (.int .i64 (ver + 1))
    go_upto_region 12 with fail
    go_cut [] (fun wy => Hid (M w0 B wy (.blk gr #[.int .i64 0, .int .i64 0, .string ⟨#[]⟩, .bool false] 73 :: .blk ga #[.int .i64 2, .int .i64 p, .int .i64 ver, .string t] 45 :: l1.set jv (.row 3 1 (.slice (some ⟨vg, 0, none⟩) 64 vc) 64 (V.set p (.int .i64 (ver + 1)))))))
    case first =>
      clear hcut hw1 hc'
      go_region
      all_goals
        go_wp2
        go_meet
        case rel => exact S2.out 1
    case rest =>
      have HN := hideIt hcut.out
      clear hcut hw1 hc' a1 w2c vp vf S2
      have r0 := HN.out.cell (i := 0) rfl 0 (.int .i64 0) rfl
      have r1 := HN.out.cell (i := 0) rfl 1 (.int .i64 0) rfl
      have r2 := HN.out.cell (i := 0) rfl 2 (.string ⟨#[]⟩) rfl
      have r3 := HN.out.cell (i := 0) rfl 3 (.bool false) rfl
      have f0 := HN.out.free (i := 0) rfl 0
      have f1 := HN.out.free (i := 0) rfl 1
      have f2 := HN.out.free (i := 0) rfl 2
      have f3 := HN.out.free (i := 0) rfl 3
      have S4 := hideIt ((((HN.out.store (i := 0) (j := 0) rfl (.int .i64 0) rfl).store (i := 0) (j := 1) rfl (.int .i64 0) rfl).store (i := 0) (j := 2) rfl (.string ⟨#[]⟩) rfl).store (i := 0) (j := 3) rfl (.bool true) rfl)
      clear HN
      go_wp2
      refine bodyPost_ret (v := .agg #[.int .i64 0, .int .i64 0, .string ⟨#[]⟩, .bool true]) (by simp [results, Tryd.results82, go_sem, *]) rfl ⟨rfl, ?_⟩
      rw [HL1.out]
      exact (S4.out.sub (List.sublist_cons_self _ _)).sub (List.sublist_cons_self _ _)
theorem M.store4 {w0 w : World} {B i b : Nat} {l : List As} {c0 c1 c2 c3 : Value} {t : TypeId} (h : M w0 B w l) (hi : l[i]? = some (.blk b #[c0, c1, c2, c3] t)) (a0 a1 a2 a3 : Value) :
    M w0 B ((((w.setCell ⟨b, 0, none⟩ a0).setCell ⟨b, 1, none⟩ a1).setCell ⟨b, 2, none⟩ a2).setCell ⟨b, 3, none⟩ a3) (l.set i (.blk b #[a0, a1, a2, a3] t)) := by
  have hl : i < l.length := (List.getElem?_eq_some_iff.1 hi).1
  have e : ∀ (a : As), (l.set i a)[i]? = some a := fun a => by rw [List.getElem?_set, if_pos rfl, if_pos hl]
  have s0 := h.store (j := 0) hi a0 (c' := #[a0, c1, c2, c3]) rfl
  have s1 := s0.store (j := 1) (e _) a1 (c' := #[a0, a1, c2, c3]) rfl
  rw [List.set_set] at s1
  have s2 := s1.store (j := 2) (e _) a2 (c' := #[a0, a1, a2, c3]) rfl
  rw [List.set_set] at s2
  have s3 := s2.store (j := 3) (e _) a3 (c' := #[a0, a1, a2, a3]) rfl
  rw [List.set_set] at s3
  exact s3
set_option maxRecDepth 100000 in
set_option maxHeartbeats 3200000 in
theorem act_swap_no (gw ug uc vg vc p : Nat) (t : ByteArray) (ver cur : Int) (w : World) (c1 : w.cell? ⟨gw, 1, none⟩ = some (.slice (some ⟨ug, 0, none⟩) 64 uc)) (c2 : w.cell? ⟨gw, 2, none⟩ = some (.slice (some ⟨vg, 0, none⟩) 64 vc))
    (hp : p < 64) (hUp : w.cell? ⟨ug, p, none⟩ = some (.bool true)) (hVp : w.cell? ⟨vg, p, none⟩ = some (.int .i64 cur)) (hne : cur ≠ ver) (ht : t.size ≤ 47) :
    Calls Tryd.prog 82 #[.pointer (some ⟨gw, 0, none⟩), .agg #[.int .i64 2, .int .i64 p, .int .i64 ver, .string t]] w fun e w' => e = .returned (.agg #[.int .i64 0, .int .i64 0, .string ⟨#[]⟩, .bool false]) ∧ Below w.heap.size w w' := by
  have A0 := hideIt (((M.start w).alloc #[.int .i64 2, .int .i64 p, .int .i64 ver, .string t] 45).alloc #[.int .i64 0, .int .i64 0, .string ⟨#[]⟩, .bool false] 73)
  rw [alloc_size] at A0
  have k1 := cell_below A0.out.bl _ _ c1
  have k2 := cell_below A0.out.bl _ _ c2
  have k3 := cell_below A0.out.bl _ _ hUp
  have k4 := cell_below A0.out.bl _ _ hVp
  have K1 := hideIt k1
  have K3 := hideIt k3
  have hp1 : (0 : Int) ≤ (p : Int) := by omega
  have hp2 : (p : Int) < 64 := by omega
  have hts : (t.size : Int) ≤ 47 := by omega
  have hvn : (cur != ver) = true := by simp [hne]
  clear c1 c2 hUp hVp hne
  go_enter Tryd.func82, Tryd.ntmps82
  go_wp2_with fail
  refine (there_yes gw ug uc p _ K1.out K3.out hp).mono ?_
  rintro e w' ⟨rfl, rfl⟩
  go_wp2
  go_quiet (fail)
  obtain ⟨g, hg⟩ : ∃ g, w.heap.size = g := ⟨_, rfl⟩
  have HG := hideIt hg
  rw [hg] at A0 ⊢
  obtain ⟨W, hW⟩ : ∃ W, (w.alloc (.cells #[.int .i64 2, .int .i64 p, .int .i64 ver, .string t] 45)).alloc (.cells #[.int .i64 0, .int .i64 0, .string ⟨#[]⟩, .bool false] 73) = W := ⟨_, rfl⟩
  rw [hW] at A0 ⊢
  clear k1 k2 k3 k4 K1 K3 hg hW
  have r0 := A0.out.cell (i := 0) rfl 0 (.int .i64 0) rfl
  have r1 := A0.out.cell (i := 0) rfl 1 (.int .i64 0) rfl
  have r2 := A0.out.cell (i := 0) rfl 2 (.string ⟨#[]⟩) rfl
  have r3 := A0.out.cell (i := 0) rfl 3 (.bool false) rfl
  have f0 := A0.out.free (i := 0) rfl 0
  have f1 := A0.out.free (i := 0) rfl 1
  have f2 := A0.out.free (i := 0) rfl 2
  have f3 := A0.out.free (i := 0) rfl 3
  have S4 := hideIt ((A0.out.drewN nq).store4 (i := 0) rfl (.int .i64 0) (.int .i64 0) (.string ⟨#[]⟩) (.bool false))
  go_wp2
  refine bodyPost_ret (v := .agg #[.int .i64 0, .int .i64 0, .string ⟨#[]⟩, .bool false]) (by simp [results, Tryd.results82, go_sem, *]) rfl ⟨rfl, ?_⟩
  rw [HG.out]
  exact S4.out.bl
set_option maxRecDepth 100000 in
set_option maxHeartbeats 6400000 in
theorem act_fresh (gw ug uc tg tc vg vc f q : Nat) (b : Bool) (t t0 : ByteArray) (ver v0 : Int) (w0 w : World) (B iw jt ju jv : Nat) (l : List As) (c : Array Value) (T U V : List Value) (h : M w0 B w l) (hw : l[iw]? = some (.blk gw c 58))
    (c0 : c[0]? = some (.slice (some ⟨tg, 0, none⟩) 64 tc)) (c1 : c[1]? = some (.slice (some ⟨ug, 0, none⟩) 64 uc)) (c2 : c[2]? = some (.slice (some ⟨vg, 0, none⟩) 64 vc))
    (hT : l[jt]? = some (.row 9 1 (.slice (some ⟨tg, 0, none⟩) 64 tc) 64 T)) (hU : l[ju]? = some (.row 4 1 (.slice (some ⟨ug, 0, none⟩) 64 uc) 64 U)) (hV : l[jv]? = some (.row 3 1 (.slice (some ⟨vg, 0, none⟩) 64 vc) 64 V)) (hne : jt ≠ jv) (hne2 : ju ≠ jt) (hne3 : ju ≠ jv)
    (hf : f < 64) (hq : q < 64) (hUq : U[q]? = some (.bool b)) (hTp : T[f]? = some (.string t0)) (hUp : U[f]? = some (.bool false)) (hUl : ∀ k, k < f → U[k]? = some (.bool true)) (hVp : V[f]? = some (.int .i64 v0)) (ht : t.size ≤ 47) :
    Calls Tryd.prog 82 #[.pointer (some ⟨gw, 0, none⟩), .agg #[.int .i64 3, .int .i64 q, .int .i64 ver, .string t]] w fun e w' => e = .returned (.agg #[.int .i64 0, .int .i64 f, .string ⟨#[]⟩, .bool false]) ∧
      M w0 B w' (((l.set ju (.row 4 1 (.slice (some ⟨ug, 0, none⟩) 64 uc) 64 (U.set f (.bool true)))).set jt (.row 9 1 (.slice (some ⟨tg, 0, none⟩) 64 tc) 64 (T.set f (.string t)))).set jv (.row 3 1 (.slice (some ⟨vg, 0, none⟩) 64 vc) 64 (V.set f (.int .i64 0)))) := by
  have A0 := hideIt ((h.alloc #[.int .i64 3, .int .i64 q, .int .i64 ver, .string t] 45).alloc #[.int .i64 0, .int .i64 0, .string ⟨#[]⟩, .bool false] 73)
  rw [alloc_size] at A0
  obtain ⟨W, hW⟩ : ∃ W, (w.alloc (.cells #[.int .i64 3, .int .i64 q, .int .i64 ver, .string t] 45)).alloc (.cells #[.int .i64 0, .int .i64 0, .string ⟨#[]⟩, .bool false] 73) = W := ⟨_, rfl⟩
  have HW := hideIt hW
  rw [hW] at A0
  have K1 := hideIt (A0.out.cell (i := iw + 2) (by simpa using hw) 1 _ c1)
  have K2 := hideIt (A0.out.rowCell (i := ju + 2) (by simpa using hU) q _ hUq)
  have hts : (t.size : Int) ≤ 47 := by omega
  obtain ⟨ga, hga⟩ : ∃ g, w.heap.size = g := ⟨_, rfl⟩
  rw [hga] at A0
  have HGA := hideIt hga
  clear hW hga
  go_enter Tryd.func82, Tryd.ntmps82
  go_wp2_with fail
  rw [HW.out, HGA.out]
  refine (there_any gw ug uc q b _ K1.out K2.out hq).mono ?_
  rintro e w' ⟨rfl, rfl⟩
  clear K2 HW HGA
  obtain ⟨gr, hgr⟩ : ∃ g, ga + 1 = g := ⟨_, rfl⟩
  rw [hgr] at A0 ⊢
  clear hgr
  have S1 : M w0 B (w'.setCell ⟨ug, f, none⟩ (.bool true)) (.blk gr #[.int .i64 0, .int .i64 0, .string ⟨#[]⟩, .bool false] 73 :: .blk ga #[.int .i64 3, .int .i64 q, .int .i64 ver, .string t] 45 :: l.set ju (.row 4 1 (.slice (some ⟨ug, 0, none⟩) 64 uc) 64 (U.set f (.bool true)))) := A0.out.storeRow (i := ju + 2) (j := f) (by simpa using hU) (.bool true)
  obtain ⟨l1, hl1⟩ : ∃ x, l.set ju (.row 4 1 (.slice (some ⟨ug, 0, none⟩) 64 uc) 64 (U.set f (.bool true))) = x := ⟨_, rfl⟩
  have hT1 : l1[jt]? = some (.row 9 1 (.slice (some ⟨tg, 0, none⟩) 64 tc) 64 T) := by rw [← hl1]; exact set_other hT hne2
  have hV1 : l1[jv]? = some (.row 3 1 (.slice (some ⟨vg, 0, none⟩) 64 vc) 64 V) := by rw [← hl1]; exact set_other hV hne3
  rw [hl1] at S1
  have S2 : M w0 B ((w'.setCell ⟨ug, f, none⟩ (.bool true)).setCell ⟨tg, f, none⟩ (.string t)) (.blk gr #[.int .i64 0, .int .i64 0, .string ⟨#[]⟩, .bool false] 73 :: .blk ga #[.int .i64 3, .int .i64 q, .int .i64 ver, .string t] 45 :: l1.set jt (.row 9 1 (.slice (some ⟨tg, 0, none⟩) 64 tc) 64 (T.set f (.string t)))) := S1.storeRow (i := jt + 2) (j := f) (by simpa using hT1) (.string t)
  obtain ⟨l2, hl2⟩ : ∃ x, l1.set jt (.row 9 1 (.slice (some ⟨tg, 0, none⟩) 64 tc) 64 (T.set f (.string t))) = x := ⟨_, rfl⟩
  have hV2 : l2[jv]? = some (.row 3 1 (.slice (some ⟨vg, 0, none⟩) 64 vc) 64 V) := by rw [← hl2]; exact set_other hV1 hne
  rw [hl2] at S2
  have S3 : M w0 B (((w'.setCell ⟨ug, f, none⟩ (.bool true)).setCell ⟨tg, f, none⟩ (.string t)).setCell ⟨vg, f, none⟩ (.int .i64 0)) (.blk gr #[.int .i64 0, .int .i64 0, .string ⟨#[]⟩, .bool false] 73 :: .blk ga #[.int .i64 3, .int .i64 q, .int .i64 ver, .string t] 45 :: l2.set jv (.row 3 1 (.slice (some ⟨vg, 0, none⟩) 64 vc) 64 (V.set f (.int .i64 0)))) := S2.storeRow (i := jv + 2) (j := f) (by simpa using hV2) (.int .i64 0)
  obtain ⟨l3, hl3⟩ : ∃ x, l2.set jv (.row 3 1 (.slice (some ⟨vg, 0, none⟩) 64 vc) 64 (V.set f (.int .i64 0))) = x := ⟨_, rfl⟩
  rw [hl3] at S3
  have HL3 : Hid (((l.set ju (.row 4 1 (.slice (some ⟨ug, 0, none⟩) 64 uc) 64 (U.set f (.bool true)))).set jt (.row 9 1 (.slice (some ⟨tg, 0, none⟩) 64 tc) 64 (T.set f (.string t)))).set jv (.row 3 1 (.slice (some ⟨vg, 0, none⟩) 64 vc) 64 (V.set f (.int .i64 0))) = l3) := by unfold Hid; rw [hl1, hl2, hl3]
  have S4 := S3.store4 (i := 0) rfl (.int .i64 0) (.int .i64 f) (.string ⟨#[]⟩) (.bool false)
  have S5 : Hid (M w0 B _ l3) := (S4.sub (List.sublist_cons_self _ _)).sub (List.sublist_cons_self _ _)
  clear hl1 hl2 hl3 hT1 hV1 hV2
  have a0 := A0.out.cell (i := 1) rfl 0 (.int .i64 3) rfl
  have a3 := A0.out.cell (i := 1) rfl 3 (.string t) rfl
  have w0c := A0.out.cell (i := iw + 2) (by simpa using hw) 0 _ c0
  have w1c := A0.out.cell (i := iw + 2) (by simpa using hw) 1 _ c1
  have w2c := A0.out.cell (i := iw + 2) (by simpa using hw) 2 _ c2
  have HUL : Hid (∀ k, k < f → w'.cell? ⟨ug, k, none⟩ = some (.bool true)) := fun k hk => A0.out.rowCell (i := ju + 2) (by simpa using hU) k _ (hUl k hk)
  have tp := A0.out.rowCell (i := jt + 2) (by simpa using hT) f _ hTp
  have vp := A0.out.rowCell (i := jv + 2) (by simpa using hV) f _ hVp
  have up := A0.out.rowCell (i := ju + 2) (by simpa using hU) f _ hUp
  have tf := A0.out.rowFree (i := jt + 2) (by simpa using hT) f
  have vf := A0.out.rowFree (i := jv + 2) (by simpa using hV) f
  have uf := A0.out.rowFree (i := ju + 2) (by simpa using hU) f
  have r0 := A0.out.cell (i := 0) rfl 0 (.int .i64 0) rfl
  have r1 := A0.out.cell (i := 0) rfl 1 (.int .i64 0) rfl
  have r2 := A0.out.cell (i := 0) rfl 2 (.string ⟨#[]⟩) rfl
  have r3 := A0.out.cell (i := 0) rfl 3 (.bool false) rfl
  have f0 := A0.out.free (i := 0) rfl 0
  have f1 := A0.out.free (i := 0) rfl 1
  have f2 := A0.out.free (i := 0) rfl 2
  have f3 := A0.out.free (i := 0) rfl 3
  have n1 : gr ≠ ug := A0.out.ne (i := 0) (j := ju + 2) rfl (by simpa using hU)
  have n2 : gr ≠ tg := A0.out.ne (i := 0) (j := jt + 2) rfl (by simpa using hT)
  have n3 : gr ≠ vg := A0.out.ne (i := 0) (j := jv + 2) rfl (by simpa using hV)
  have n4 : ga ≠ ug := A0.out.ne (i := 1) (j := ju + 2) rfl (by simpa using hU)
  have n5 : gw ≠ ug := A0.out.ne (i := iw + 2) (j := ju + 2) (by simpa using hw) (by simpa using hU)
  have n6 : gw ≠ tg := A0.out.ne (i := iw + 2) (j := jt + 2) (by simpa using hw) (by simpa using hT)
  have hrr : ∀ (i j g g' e e' n m cp cq : Nat) (x y : List Value), l[i]? = some (.row e 1 (.slice (some ⟨g, 0, none⟩) n cp) n x) → l[j]? = some (.row e' 1 (.slice (some ⟨g', 0, none⟩) m cq) m y) → i ≠ j → g ≠ g' := by
    intro i j g g' e e' n m cp cq x y hi hj hij heq
    subst heq
    have hil := (List.getElem?_eq_some_iff.1 hi).1
    have hjl := (List.getElem?_eq_some_iff.1 hj).1
    have hia := (List.getElem?_eq_some_iff.1 hi).2
    have hja := (List.getElem?_eq_some_iff.1 hj).2
    rcases Nat.lt_or_gt_of_ne hij with hlt | hlt
    · have := List.pairwise_iff_getElem.1 h.apart i j hil hjl hlt
      rw [hia, hja] at this; exact this g rfl rfl
    · have := List.pairwise_iff_getElem.1 h.apart j i hjl hil hlt
      rw [hia, hja] at this; exact this g rfl rfl
  have n7 : ug ≠ tg := hrr ju jt _ _ _ _ _ _ _ _ _ _ hU hT hne2
  have n8 : ug ≠ vg := hrr ju jv _ _ _ _ _ _ _ _ _ _ hU hV hne3
  have n9 : tg ≠ vg := hrr jt jv _ _ _ _ _ _ _ _ _ _ hT hV hne
  clear A0 S1 S2 S3 S4 hrr h hw hT hU hV hne hne2 hne3 c0 c1 c2 hTp hUp hVp hUq hUl K1
  go_wp2
  go_loopw [7] (fun i wr => ∃ k : Nat, k ≤ f ∧ i = .int .i64 k ∧ wr = w') (fun i _ => f - (intOf i).toNat)
  case atStart => exact ⟨0, Nat.zero_le _, rfl, rfl⟩
  case round =>
    obtain ⟨k, hk, rfl, rfl⟩ := hrel
    have hk0 : (0 : Int) ≤ (k : Int) := by omega
    have hk1 : (k : Int) < 64 := by omega
    by_cases hkf : k < f
    · have uk := HUL.out k hkf
      go_wp2
      go_roundw
      case rel => exact ⟨k + 1, by omega, by go_num, by trivial⟩
      case measure => simp [intOf]; omega
    · obtain rfl : k = f := by omega
      go_wp2
      go_region
      all_goals
        go_wp2
        refine bodyPost_ret (v := .agg #[.int .i64 0, .int .i64 k, .string ⟨#[]⟩, .bool false]) (by simp [results, Tryd.results82, go_sem, *]) rfl ⟨rfl, ?_⟩
        rw [HL3.out]
        exact S5.out.drew
set_option maxRecDepth 100000 in
set_option maxHeartbeats 3200000 in
theorem act_fresh_no (gw ug uc q : Nat) (t : ByteArray) (ver : Int) (w : World) (c1 : w.cell? ⟨gw, 1, none⟩ = some (.slice (some ⟨ug, 0, none⟩) 64 uc)) (hq : q < 64) (hU : ∀ k, k < 64 → w.cell? ⟨ug, k, none⟩ = some (.bool true)) (ht : t.size ≤ 47) :
    Calls Tryd.prog 82 #[.pointer (some ⟨gw, 0, none⟩), .agg #[.int .i64 3, .int .i64 q, .int .i64 ver, .string t]] w fun e w' => e = .returned (.agg #[.int .i64 0, .int .i64 (-1), .string ⟨#[]⟩, .bool false]) ∧ Below w.heap.size w w' := by
  have A0 := hideIt (((M.start w).alloc #[.int .i64 3, .int .i64 q, .int .i64 ver, .string t] 45).alloc #[.int .i64 0, .int .i64 0, .string ⟨#[]⟩, .bool false] 73)
  rw [alloc_size] at A0
  obtain ⟨W, hW⟩ : ∃ W, (w.alloc (.cells #[.int .i64 3, .int .i64 q, .int .i64 ver, .string t] 45)).alloc (.cells #[.int .i64 0, .int .i64 0, .string ⟨#[]⟩, .bool false] 73) = W := ⟨_, rfl⟩
  have HW := hideIt hW
  rw [hW] at A0
  have K1 := hideIt (cell_below A0.out.bl _ _ c1)
  have KU : Hid (∀ k, k < 64 → W.cell? ⟨ug, k, none⟩ = some (.bool true)) := fun k hk => cell_below A0.out.bl _ _ (hU k hk)
  have hts : (t.size : Int) ≤ 47 := by omega
  obtain ⟨ga, hga⟩ : ∃ g, w.heap.size = g := ⟨_, rfl⟩
  rw [hga] at A0
  have HGA := hideIt hga
  clear hW hga c1 hU
  go_enter Tryd.func82, Tryd.ntmps82
  go_wp2_with fail
  rw [HW.out, HGA.out]
  refine (there_any gw ug uc q true _ K1.out (KU.out q hq) hq).mono ?_
  rintro e w' ⟨rfl, rfl⟩
  clear HW
  obtain ⟨gr, hgr⟩ : ∃ g, ga + 1 = g := ⟨_, rfl⟩
  rw [hgr] at A0 ⊢
  clear hgr
  have a0 := A0.out.cell (i := 1) rfl 0 (.int .i64 3) rfl
  have a3 := A0.out.cell (i := 1) rfl 3 (.string t) rfl
  have w1c := K1.out
  go_wp2
  go_loopw [7] (fun i wr => ∃ k : Nat, k ≤ 64 ∧ i = .int .i64 k ∧ wr = w') (fun i _ => 64 - (intOf i).toNat)
  case atStart => exact ⟨0, Nat.zero_le _, rfl, rfl⟩
  case round =>
    obtain ⟨k, hk, rfl, rfl⟩ := hrel
    have hk0 : (0 : Int) ≤ (k : Int) := by omega
    by_cases hkf : k < 64
    · have hk1 : (k : Int) < 64 := by omega
      have uk := KU.out k hkf
      go_wp2
      go_roundw
      case rel => exact ⟨k + 1, by omega, by go_num, by trivial⟩
      case measure => simp [intOf]; omega
    · obtain rfl : k = 64 := by omega
      rw [show ((64 : Nat) : Int) = 64 from rfl]
      have r0 := A0.out.cell (i := 0) rfl 0 (.int .i64 0) rfl
      have r1 := A0.out.cell (i := 0) rfl 1 (.int .i64 0) rfl
      have r2 := A0.out.cell (i := 0) rfl 2 (.string ⟨#[]⟩) rfl
      have r3 := A0.out.cell (i := 0) rfl 3 (.bool false) rfl
      have f0 := A0.out.free (i := 0) rfl 0
      have f1 := A0.out.free (i := 0) rfl 1
      have f2 := A0.out.free (i := 0) rfl 2
      have f3 := A0.out.free (i := 0) rfl 3
      have S4 := hideIt (A0.out.store4 (i := 0) rfl (.int .i64 0) (.int .i64 (-1)) (.string ⟨#[]⟩) (.bool false))
      go_wp2
      refine bodyPost_ret (v := .agg #[.int .i64 0, .int .i64 (-1), .string ⟨#[]⟩, .bool false]) (by simp [results, Tryd.results82, go_sem, *]) rfl ⟨rfl, ?_⟩
      rw [HGA.out]
      exact S4.out.bl
end Go.Proofs.YtajobgmnmbnhiaaDoor.Sap
