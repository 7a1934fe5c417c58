/- WHAT IS PROVED HERE: how an operation of saplingkeep lies in memory. Conditions: none. -/
import Derived.Test.YtajobgmnmbnhiaaGreatDoorPt15
namespace Go.Proofs.YtajobgmnmbnhiaaGreatDoor.Sap
open Go.RowKit
theorem infoDeed : (Tryz.prog.info? 40).map (fun i => (i.zero, i.size, i.bytes)) = some (some (.pointer none), 1, 8) := by kernel_rfl
def DC (k key v : Int) (f : ByteArray) (tv kv : Value) (rf en : Bool) (er : Int) (fd : Bool) (va pt : Int) (ks vs cs : Value) : Array Value := #[.int .i64 k, .int .i64 key, .int .i64 v, .string f, tv, kv, .bool rf, .bool en, .int .i64 er, .bool fd, .int .i64 va, .int .i64 pt, ks, vs, cs]
theorem M.bne {w0 w : World} {B i j b g : Nat} {l : List As} {c d : Array Value} {t u : TypeId} (h : M w0 B w l) (hi : l[i]? = some (.blk b c t)) (hj : l[j]? = some (.blk g d u)) (hij : i < j) : b ≠ g := by
  intro e
  subst e
  have hil : i < l.length := (List.getElem?_eq_some_iff.1 hi).1
  have hjl : j < l.length := (List.getElem?_eq_some_iff.1 hj).1
  have hia := (List.getElem?_eq_some_iff.1 hi).2
  have hja := (List.getElem?_eq_some_iff.1 hj).2
  have := List.pairwise_iff_getElem.1 h.apart i j hil hjl hij
  rw [hia, hja] at this
  exact this b rfl rfl
def Out : Type := St ⊕ (Bool × Int × Int × List Int × List Int × List (Int × Int))
def Out.on (s : St) : Out := Sum.inl s
def Out.fin (fd : Bool) (va pt : Int) (ks vs : List Int) (cs : List (Int × Int)) : Out := Sum.inr (fd, va, pt, ks, vs, cs)
theorem Out.is (o : Out) : (∃ s, o = .on s) ∨ ∃ fd va pt ks vs cs, o = .fin fd va pt ks vs cs := by
  rcases o with s | x
  · exact .inl ⟨s, rfl⟩
  · exact .inr ⟨x.1, x.2.1, x.2.2.1, x.2.2.2.1, x.2.2.2.2.1, x.2.2.2.2.2, rfl⟩
def cutc (cs : List (Int × Int)) : List Value := cs.flatMap fun c => [.int .i64 c.1, .int .i64 c.2]
theorem M.rowCell {w0 w : World} {B i g n cap : Nat} {l : List As} {e : TypeId} {xs : List Value} (h : M w0 B w l) (hi : l[i]? = some (.row e 1 (.slice (some ⟨g, 0, none⟩) n cap) n xs)) (j : Nat) (v : Value) (hv : xs[j]? = some v) : w.cell? ⟨g, j, none⟩ = some v := by
  have hr := h.get hi
  have hl := hr.1
  have hj := (List.getElem?_eq_some_iff.1 hv).1
  rw [World.ownsRow.cellAt hr j (by omega)]; exact hv
theorem M.store7 {w0 w : World} {B i b : Nat} {l : List As} {c0 c1 c2 c3 c4 c5 c6 : Value} {t : TypeId} (h : M w0 B w l) (hi : l[i]? = some (.blk b #[c0, c1, c2, c3, c4, c5, c6] t)) (a0 a1 a2 a3 a4 a5 a6 : Value) :
    M w0 B (((((((w.setCell ⟨b, 0, none⟩ a0).setCell ⟨b, 1, none⟩ a1).setCell ⟨b, 2, none⟩ a2).setCell ⟨b, 3, none⟩ a3).setCell ⟨b, 4, none⟩ a4).setCell ⟨b, 5, none⟩ a5).setCell ⟨b, 6, none⟩ a6) (l.set i (.blk b #[a0, a1, a2, a3, a4, a5, a6] t)) := by
  have hl : i < l.length := (List.getElem?_eq_some_iff.1 hi).1
  have e : ∀ (a : As), (l.set i a)[i]? = some a := fun a => by rw [List.getElem?_set, if_pos rfl, if_pos hl]
  have s0 := h.store (j := 0) hi a0 (c' := #[a0, c1, c2, c3, c4, c5, c6]) rfl
  have s1 := s0.store (j := 1) (e _) a1 (c' := #[a0, a1, c2, c3, c4, c5, c6]) rfl
  rw [List.set_set] at s1
  have s2 := s1.store (j := 2) (e _) a2 (c' := #[a0, a1, a2, c3, c4, c5, c6]) rfl
  rw [List.set_set] at s2
  have s3 := s2.store (j := 3) (e _) a3 (c' := #[a0, a1, a2, a3, c4, c5, c6]) rfl
  rw [List.set_set] at s3
  have s4 := s3.store (j := 4) (e _) a4 (c' := #[a0, a1, a2, a3, a4, c5, c6]) rfl
  rw [List.set_set] at s4
  have s5 := s4.store (j := 5) (e _) a5 (c' := #[a0, a1, a2, a3, a4, a5, c6]) rfl
  rw [List.set_set] at s5
  have s6 := s5.store (j := 6) (e _) a6 (c' := #[a0, a1, a2, a3, a4, a5, a6]) rfl
  rw [List.set_set] at s6
  exact s6
theorem M.rowFree {w0 w : World} {B i g n cap : Nat} {l : List As} {e : TypeId} {xs : List Value} (h : M w0 B w l) (hi : l[i]? = some (.row e 1 (.slice (some ⟨g, 0, none⟩) n cap) n xs)) (j : Nat) : w.frozen? ⟨g, j, none⟩ = false := World.ownsRow.frozenAt (h.get hi) j
set_option maxRecDepth 100000 in
set_option maxHeartbeats 3200000 in
theorem learns_swap (gd kg kc p : Nat) (t : ByteArray) (ver : Int) (w0 w : World) (B i j : Nat) (l : List As) (c : Array Value) (xs : List Value) (h : M w0 B w l) (hi : l[i]? = some (.blk gd c 48)) (hc : c[5]? = some (.slice (some ⟨kg, 0, none⟩) 64 kc))
    (hj : l[j]? = some (.row 3 1 (.slice (some ⟨kg, 0, none⟩) 64 kc) 64 xs)) (hp : p < 64) (hv0 : 0 ≤ ver) (hv1 : ver ≤ 1000000000) :
    Calls Tryz.prog 45 #[.pointer (some ⟨gd, 0, none⟩), .agg #[.int .i64 2, .int .i64 p, .int .i64 ver, .string t], .agg #[.int .i64 0, .int .i64 0, .string ⟨#[]⟩, .bool true]] w fun e w' => (∃ u, e = .returned u) ∧ M w0 B w' (l.set j (.row 3 1 (.slice (some ⟨kg, 0, none⟩) 64 kc) 64 (xs.set p (.int .i64 (ver + 1))))) := by
  have A0 := (h.alloc #[.int .i64 2, .int .i64 p, .int .i64 ver, .string t] 94).alloc #[.int .i64 0, .int .i64 0, .string ⟨#[]⟩, .bool true] 99
  have q5 := A0.cell (i := i + 2) (by simpa using hi) 5 _ hc
  have hrow := A0.get (i := j + 2) (by simpa using hj)
  obtain ⟨x, hx⟩ : ∃ x, xs[p]? = some x := by
    have := hrow.own.1
    exact ⟨_, List.getElem?_eq_getElem (by simp at this; omega)⟩
  have HS : Hid (∀ d, M w0 B ((((w.alloc (.cells #[.int .i64 2, .int .i64 p, .int .i64 ver, .string t] 94)).alloc (.cells #[.int .i64 0, .int .i64 0, .string ⟨#[]⟩, .bool true] 99)).drewN d).setCell ⟨kg, p, none⟩ (.int .i64 (ver + 1))) (l.set j (.row 3 1 (.slice (some ⟨kg, 0, none⟩) 64 kc) 64 (xs.set p (.int .i64 (ver + 1)))))) := fun d =>
    ((((A0.drewN d).storeRow (i := j + 2) (j := p) (by simpa using hj) (.int .i64 (ver + 1))).sub (List.sublist_cons_self _ _)).sub (List.sublist_cons_self _ _))
  have hlt := h.lt hi
  have hlt2 : kg < w.heap.size := ((h.get hj).lt rfl).2
  have hp1 : (0 : Int) ≤ (p : Int) := by omega
  have hp2 : (p : Int) < 64 := by omega
  have q5' : w.cell? ⟨gd, 5, none⟩ = some (.slice (some ⟨kg, 0, none⟩) 64 kc) := h.cell hi 5 _ hc
  have t1' : w.cell? ⟨kg, p, none⟩ = some x := by have h2 := World.ownsRow.cellAt (h.get hj).own p (by omega); rw [hx] at h2; exact h2
  have tf' : w.frozen? ⟨kg, p, none⟩ = false := World.ownsRow.frozenAt (h.get hj).own p
  clear A0 hrow hx h hi hj hc q5
  go_enter Tryz.func45, Tryz.ntmps45
  go_wp2
  go_quiet (fail)
  go_wp2
  go_region
  all_goals
    go_wp2
    exact bodyPost_end (results_none Tryz.results45 _ _ _) rfl ⟨⟨_, rfl⟩, HS.out _⟩
set_option maxRecDepth 100000 in
set_option maxHeartbeats 3200000 in
theorem learns_swap_no (gd p : Nat) (t : ByteArray) (ver : Int) (w : World) :
    Calls Tryz.prog 45 #[.pointer (some ⟨gd, 0, none⟩), .agg #[.int .i64 2, .int .i64 p, .int .i64 ver, .string t], .agg #[.int .i64 0, .int .i64 0, .string ⟨#[]⟩, .bool false]] w fun e w' => (∃ u, e = .returned u) ∧ Below w.heap.size w w' := by
  have HS : Hid (∀ d, Below w.heap.size w (((w.alloc (.cells #[.int .i64 2, .int .i64 p, .int .i64 ver, .string t] 94)).alloc (.cells #[.int .i64 0, .int .i64 0, .string ⟨#[]⟩, .bool false] 99)).drewN d)) := fun d => (((Below.refl _ _).alloc (Nat.le_refl _) _).alloc (by simp) _).trans ⟨rfl, rfl, rfl, Nat.le_refl _, fun _ _ => rfl⟩
  go_enter Tryz.func45, Tryz.ntmps45
  go_wp2
  go_quiet (fail)
  go_wp2
  exact bodyPost_end (results_none Tryz.results45 _ _ _) rfl ⟨⟨_, rfl⟩, HS.out _⟩
set_option maxRecDepth 100000 in
set_option maxHeartbeats 3200000 in
theorem learns_fresh (gd kg kc p : Nat) (q ver : Int) (t : ByteArray) (w0 w : World) (B i j : Nat) (l : List As) (c : Array Value) (xs : List Value) (h : M w0 B w l) (hi : l[i]? = some (.blk gd c 48)) (hc : c[5]? = some (.slice (some ⟨kg, 0, none⟩) 64 kc))
    (hj : l[j]? = some (.row 3 1 (.slice (some ⟨kg, 0, none⟩) 64 kc) 64 xs)) (hp : p < 64) :
    Calls Tryz.prog 45 #[.pointer (some ⟨gd, 0, none⟩), .agg #[.int .i64 3, .int .i64 q, .int .i64 ver, .string t], .agg #[.int .i64 0, .int .i64 p, .string ⟨#[]⟩, .bool false]] w fun e w' => (∃ u, e = .returned u) ∧ M w0 B w' (l.set j (.row 3 1 (.slice (some ⟨kg, 0, none⟩) 64 kc) 64 (xs.set p (.int .i64 0)))) := by
  have A0 := (h.alloc #[.int .i64 3, .int .i64 q, .int .i64 ver, .string t] 94).alloc #[.int .i64 0, .int .i64 p, .string ⟨#[]⟩, .bool false] 99
  have q5 := A0.cell (i := i + 2) (by simpa using hi) 5 _ hc
  have hrow := A0.get (i := j + 2) (by simpa using hj)
  obtain ⟨x, hx⟩ : ∃ x, xs[p]? = some x := by
    have := hrow.own.1
    exact ⟨_, List.getElem?_eq_getElem (by simp at this; omega)⟩
  have HS : Hid (∀ d, M w0 B ((((w.alloc (.cells #[.int .i64 3, .int .i64 q, .int .i64 ver, .string t] 94)).alloc (.cells #[.int .i64 0, .int .i64 p, .string ⟨#[]⟩, .bool false] 99)).drewN d).setCell ⟨kg, p, none⟩ (.int .i64 0)) (l.set j (.row 3 1 (.slice (some ⟨kg, 0, none⟩) 64 kc) 64 (xs.set p (.int .i64 0))))) := fun d =>
    ((((A0.drewN d).storeRow (i := j + 2) (j := p) (by simpa using hj) (.int .i64 0)).sub (List.sublist_cons_self _ _)).sub (List.sublist_cons_self _ _))
  have hlt := h.lt hi
  have hlt2 : kg < w.heap.size := ((h.get hj).lt rfl).2
  have hp1 : (0 : Int) ≤ (p : Int) := by omega
  have hp2 : (p : Int) < 64 := by omega
  have q5' : w.cell? ⟨gd, 5, none⟩ = some (.slice (some ⟨kg, 0, none⟩) 64 kc) := h.cell hi 5 _ hc
  have t1' : w.cell? ⟨kg, p, none⟩ = some x := by have h2 := World.ownsRow.cellAt (h.get hj).own p (by omega); rw [hx] at h2; exact h2
  have tf' : w.frozen? ⟨kg, p, none⟩ = false := World.ownsRow.frozenAt (h.get hj).own p
  clear A0 hrow hx h hi hj hc q5
  go_enter Tryz.func45, Tryz.ntmps45
  go_wp2
  go_quiet (fail)
  go_wp2
  go_region
  all_goals
    go_wp2
    exact bodyPost_end (results_none Tryz.results45 _ _ _) rfl ⟨⟨_, rfl⟩, HS.out _⟩
set_option maxRecDepth 100000 in
set_option maxHeartbeats 3200000 in
theorem learns_fresh_no (gd : Nat) (q ver : Int) (t : ByteArray) (w0 w : World) (B i : Nat) (l : List As) (c c' : Array Value) (u : Value) (h : M w0 B w l) (hi : l[i]? = some (.blk gd c 48)) (hc : c.setIfInBounds 6 (.bool true) = c') (h6 : c[6]? = some u) :
    Calls Tryz.prog 45 #[.pointer (some ⟨gd, 0, none⟩), .agg #[.int .i64 3, .int .i64 q, .int .i64 ver, .string t], .agg #[.int .i64 0, .int .i64 (-1), .string ⟨#[]⟩, .bool false]] w fun e w' => (∃ u, e = .returned u) ∧ M w0 B w' (l.set i (.blk gd c' 48)) := by
  have A0 := (h.alloc #[.int .i64 3, .int .i64 q, .int .i64 ver, .string t] 94).alloc #[.int .i64 0, .int .i64 (-1), .string ⟨#[]⟩, .bool false] 99
  have HS : Hid (∀ d, M w0 B ((((w.alloc (.cells #[.int .i64 3, .int .i64 q, .int .i64 ver, .string t] 94)).alloc (.cells #[.int .i64 0, .int .i64 (-1), .string ⟨#[]⟩, .bool false] 99)).drewN d).setCell ⟨gd, 6, none⟩ (.bool true)) (l.set i (.blk gd c' 48))) := fun d =>
    ((((A0.drewN d).store (i := i + 2) (j := 6) (by simpa using hi) (.bool true) hc).sub (List.sublist_cons_self _ _)).sub (List.sublist_cons_self _ _))
  have hlt := h.lt hi
  have q6 := h.cell hi 6 _ h6
  have f6 := h.free hi 6
  clear A0 h hi hc
  go_enter Tryz.func45, Tryz.ntmps45
  go_wp2
  go_quiet (fail)
  go_wp2
  exact bodyPost_end (results_none Tryz.results45 _ _ _) rfl ⟨⟨_, rfl⟩, HS.out _⟩
theorem lt_of_cell {w : World} {b j : Nat} {u : Value} (h : w.cell? ⟨b, j, none⟩ = some u) : b < w.heap.size := by
  rcases Nat.lt_or_ge b w.heap.size with h1 | h1
  · exact h1
  · have : w.heap[b]? = none := Array.getElem?_eq_none (by omega)
    simp [World.cell?, this] at h
set_option maxRecDepth 100000 in
set_option maxHeartbeats 1600000 in
theorem there_any (gw ug uc p : Nat) (b : Bool) (w : World) (h1 : w.cell? ⟨gw, 1, none⟩ = some (.slice (some ⟨ug, 0, none⟩) 64 uc)) (h2 : w.cell? ⟨ug, p, none⟩ = some (.bool b)) (hp : p < 64) :
    Calls Tryz.prog 62 #[.pointer (some ⟨gw, 0, none⟩), .int .i64 p] w fun e w' => e = .returned (.bool b) ∧ w' = w := by
  have hp1 : (0 : Int) ≤ (p : Int) := by omega
  have hp2 : (p : Int) < 64 := by omega
  go_enter Tryz.func62, Tryz.ntmps62
  go_wp2
  go_ret
  exact ⟨rfl, rfl⟩
set_option maxRecDepth 100000 in
set_option maxHeartbeats 3200000 in
theorem legal_swap (gw ug uc gd kg kc p : Nat) (kd ver : Int) (t : ByteArray) (w : World) (h1 : w.cell? ⟨gw, 1, none⟩ = some (.slice (some ⟨ug, 0, none⟩) 64 uc)) (h2 : w.cell? ⟨ug, p, none⟩ = some (.bool true)) (hp : p < 64)
    (h3 : w.cell? ⟨gd, 0, none⟩ = some (.int .i64 kd)) (h4 : w.cell? ⟨gd, 5, none⟩ = some (.slice (some ⟨kg, 0, none⟩) 64 kc)) (h5 : w.cell? ⟨kg, p, none⟩ = some (.int .i64 ver)) (hkd : kd = 2 ∨ kd = 3) (hver : 0 ≤ ver) (ht : ∃ n, Unp t.data.toList n) :
    Calls Tryz.prog 43 #[.pointer (some ⟨gw, 0, none⟩), .pointer (some ⟨gd, 0, none⟩), .agg #[.int .i64 2, .int .i64 p, .int .i64 ver, .string t]] w fun e w' => e = .returned (.bool true) ∧ Below w.heap.size w w' := by
  have A0 := hideIt ((M.start w).alloc #[.int .i64 2, .int .i64 p, .int .i64 ver, .string t] 94)
  have k1 := hideIt (cell_below A0.out.bl _ _ h1)
  have k2 := hideIt (cell_below A0.out.bl _ _ h2)
  have K3 : Hid (∀ W, Below w.heap.size w W → W.cell? ⟨gd, 0, none⟩ = some (.int .i64 kd)) := fun W hW => cell_below hW _ _ h3
  have K4 : Hid (∀ W, Below w.heap.size w W → W.cell? ⟨gd, 5, none⟩ = some (.slice (some ⟨kg, 0, none⟩) 64 kc)) := fun W hW => cell_below hW _ _ h4
  have K5 : Hid (∀ W, Below w.heap.size w W → W.cell? ⟨kg, p, none⟩ = some (.int .i64 ver)) := fun W hW => cell_below hW _ _ h5
  have HT := hideIt ht
  have hsz : t.size ≤ 140737488351232 := by
    obtain ⟨n, hn⟩ := ht
    have := (len_packT n hn.1).2
    rw [hn.2, ba_size] at this
    omega
  have hp1 : (0 : Int) ≤ (p : Int) := by omega
  have hp2 : (p : Int) < 64 := by omega
  clear h1 h2 h3 h4 h5 ht
  go_enter Tryz.func43, Tryz.ntmps43
  go_wp2_with fail
  refine (there_yes gw ug uc p _ k1.out k2.out hp).mono ?_
  rintro e w' ⟨rfl, rfl⟩
  clear k1 k2
  go_wp2_with fail
  refine (unpack_any t _ hsz).mono ?_
  rintro e w1 ⟨hR, hb⟩
  rcases hR with ⟨n, kv, vv, hn, hO, rfl⟩ | ⟨hno, -⟩
  case inr => obtain ⟨n, hn⟩ := HT.out; exact absurd hn (hno n)
  obtain ⟨g0, hg0⟩ : ∃ g, w.heap.size = g := ⟨_, rfl⟩
  have A1 := A0.out.below hb
  rw [hg0] at A1 K3 K4 K5 ⊢
  have A2 := hideIt (A1.alloc #[.int .i64 n.lv, .int .i64 n.lk, .int .i64 n.hi, kv, vv] 67)
  obtain ⟨ka, kc', rfl⟩ := own_form hO.1
  obtain ⟨va, vc', rfl⟩ := own_form hO.2.1
  have a0 := A1.cell (i := 0) rfl 0 (.int .i64 2) rfl
  have a1 := A1.cell (i := 0) rfl 1 (.int .i64 p) rfl
  have a2 := A1.cell (i := 0) rfl 2 (.int .i64 ver) rfl
  have c3 := K3.out _ A1.bl
  have c4 := K4.out _ A1.bl
  have c5 := K5.out _ A1.bl
  have hl0 := A1.lt (i := 0) rfl
  have hl3 : gd < w1.heap.size := lt_of_cell c3
  have hl4 : kg < w1.heap.size := lt_of_cell c5
  have HG := hideIt hg0
  clear A0 A1 hb hn hO HT K3 K4 K5 hg0
  have hv : (ver == ver) = true := by simp
  rcases hkd with rfl | rfl
  · go_wp2
    go_quiet (fail)
    go_wp2
    go_ret
    refine ⟨rfl, ?_⟩
    rw [HG.out]
    exact (A2.out.drewN _).bl
  · go_wp2
    go_quiet (fail)
    go_wp2
    go_ret
    refine ⟨rfl, ?_⟩
    rw [HG.out]
    exact (A2.out.drewN _).bl
set_option maxRecDepth 100000 in
set_option maxHeartbeats 3200000 in
theorem legal_fresh (gw ug uc gd q : Nat) (b : Bool) (kd ver : Int) (t : ByteArray) (w : World) (h1 : w.cell? ⟨gw, 1, none⟩ = some (.slice (some ⟨ug, 0, none⟩) 64 uc)) (h2 : w.cell? ⟨ug, q, none⟩ = some (.bool b)) (hq : q < 64)
    (h3 : w.cell? ⟨gd, 0, none⟩ = some (.int .i64 kd)) (hkd : kd = 2 ∨ kd = 3) (ht : ∃ n, Unp t.data.toList n) :
    Calls Tryz.prog 43 #[.pointer (some ⟨gw, 0, none⟩), .pointer (some ⟨gd, 0, none⟩), .agg #[.int .i64 3, .int .i64 q, .int .i64 ver, .string t]] w fun e w' => e = .returned (.bool true) ∧ Below w.heap.size w w' := by
  have A0 := hideIt ((M.start w).alloc #[.int .i64 3, .int .i64 q, .int .i64 ver, .string t] 94)
  have k1 := hideIt (cell_below A0.out.bl _ _ h1)
  have k2 := hideIt (cell_below A0.out.bl _ _ h2)
  have K3 : Hid (∀ W, Below w.heap.size w W → W.cell? ⟨gd, 0, none⟩ = some (.int .i64 kd)) := fun W hW => cell_below hW _ _ h3
  have HT := hideIt ht
  have hsz : t.size ≤ 140737488351232 := by
    obtain ⟨n, hn⟩ := ht
    have := (len_packT n hn.1).2
    rw [hn.2, ba_size] at this
    omega
  clear h1 h2 h3 ht
  go_enter Tryz.func43, Tryz.ntmps43
  go_wp2_with fail
  refine (there_any gw ug uc q b _ k1.out k2.out hq).mono ?_
  rintro e w' ⟨rfl, rfl⟩
  clear k1 k2
  go_wp2_with fail
  refine (unpack_any t _ hsz).mono ?_
  rintro e w1 ⟨hR, hb⟩
  rcases hR with ⟨n, kv, vv, hn, hO, rfl⟩ | ⟨hno, -⟩
  case inr => obtain ⟨n, hn⟩ := HT.out; exact absurd hn (hno n)
  obtain ⟨g0, hg0⟩ : ∃ g, w.heap.size = g := ⟨_, rfl⟩
  have A1 := A0.out.below hb
  rw [hg0] at A1 K3 ⊢
  have A2 := hideIt (A1.alloc #[.int .i64 n.lv, .int .i64 n.lk, .int .i64 n.hi, kv, vv] 67)
  obtain ⟨ka, kc', rfl⟩ := own_form hO.1
  obtain ⟨va, vc', rfl⟩ := own_form hO.2.1
  have a0 := A1.cell (i := 0) rfl 0 (.int .i64 3) rfl
  have c3 := K3.out _ A1.bl
  have hl0 := A1.lt (i := 0) rfl
  have hl3 : gd < w1.heap.size := lt_of_cell c3
  have HG := hideIt hg0
  clear A0 A1 hb hn hO HT K3 hg0
  rcases hkd with rfl | rfl
  · go_wp2
    go_ret
    refine ⟨rfl, ?_⟩
    rw [HG.out]
    exact A2.out.bl
  · go_wp2
    go_ret
    refine ⟨rfl, ?_⟩
    rw [HG.out]
    exact A2.out.bl
end Go.Proofs.YtajobgmnmbnhiaaGreatDoor.Sap
