/- WHAT IS PROVED HERE: raw operations that are handed in lie in memory as a list; where what is handed in is of bulk at most 1048576, there are at most 262144 of them. Conditions: named at each theorem. -/
import Derived.Test.YtajobgmnmbnhiaaGreatDoorPt48
namespace Go.Proofs.YtajobgmnmbnhiaaGreatDoor.Sap
open Go.RowKit Go.ChangeShapes Go.WideShapes Go.Deep
theorem op_in {H : Type} {enc : TypeId × Value → H} {W : World} {base : Nat} {fuel : Nat} {cs : List Value} {x : DataW H × List MemPlace} {sp : Nat → Bool}
    (h : DataW.trod enc Tryz.prog W base sp true fuel 36 cs = some x) : ∃ t : Ro, t.ok ∧ cs = [.int .i64 t.k, .int .i64 t.key, .int .i64 t.v] ∧ 4 ≤ Rows.uptoBulk x.1 := by
  obtain ⟨zs, m2, -, hx, hl, hlen2, hg⟩ := DataW.trod_struct Tryz.underlying36 h
  rw [cellsOp] at hl
  obtain ⟨c1, c2, c3, rfl⟩ := list3s hl
  obtain ⟨z0, z1, z2, rfl⟩ := list3s (l := zs) hlen2
  have g0 : DataW.trod enc Tryz.prog W base sp true m2 3 (List.take (Tryz.prog.cellsOf 3) [c1, c2, c3]) = some z0 := hg 0 _ rfl
  have g1 : DataW.trod enc Tryz.prog W base sp true m2 3 (List.take (Tryz.prog.cellsOf 3) [c2, c3]) = some z1 := hg 1 _ rfl
  have g2 : DataW.trod enc Tryz.prog W base sp true m2 3 (List.take (Tryz.prog.cellsOf 3) [c3]) = some z2 := hg 2 _ rfl
  rw [cellsI] at g0 g1 g2
  obtain ⟨k, e1, -, w1⟩ := DataW.trod_int Tryz.underlying3 g0
  obtain ⟨key, e2, -, w2⟩ := DataW.trod_int Tryz.underlying3 g1
  obtain ⟨v, e3, -, w3⟩ := DataW.trod_int Tryz.underlying3 g2
  simp only [List.take_succ_cons, List.take_zero, List.cons.injEq, and_true] at e1 e2 e3
  subst e1 e2 e3
  refine ⟨⟨k, key, v⟩, ⟨i64_of w1, i64_of w2, i64_of w3⟩, rfl, ?_⟩
  rw [hx]
  have b0 := bulk_one z0.1
  have b1 := bulk_one z1.1
  have b2 := bulk_one z2.1
  simp only [List.map_cons, List.map_nil, Rows.uptoBulk, Rows.uptoBulkAll]
  omega
theorem bulk_four {H : Type} (l : List (DataW H)) (h : ∀ d ∈ l, 4 ≤ Rows.uptoBulk d) : 4 * l.length ≤ Rows.uptoBulkAll l := by
  induction l with
  | nil => simp [Rows.uptoBulkAll]
  | cons x r ih =>
    have h1 := h x (by simp)
    have h2 := ih fun d hd => h d (by simp [hd])
    simp only [Rows.uptoBulkAll, List.length_cons]
    omega
theorem ops_in {H : Type} {enc : TypeId × Value → H} {W : World} {base : Nat} {fuel : Nat} {c : Value} {x : DataW H × List MemPlace} {sp : Nat → Bool}
    (h : DataW.trod enc Tryz.prog W base sp true fuel 51 [c] = some x) :
    ∃ ts : List Ro, ORd W c ts ∧ (∀ t ∈ ts, t.ok) ∧ (ts = [] ∨ ∃ e s, x.1 = .slice e s ∧ 4 * ts.length ≤ Rows.uptoBulkAll e) := by
  rcases open_slice Tryz.underlying51 h with ⟨hc, -⟩ | ⟨a, len, cap, m, n, D, Pl, hc, -, hlc, -, hm, hx, hel⟩
  · simp only [List.cons.injEq, and_true] at hc
    subst hc
    exact ⟨[], ⟨none, 0, rfl, fun hp => absurd hp (by decide)⟩, fun t ht => (by cases ht), Or.inl rfl⟩
  · simp only [List.cons.injEq, and_true] at hc
    subst hc
    have hlm : len ≤ m := by rw [hm]; split <;> omega
    haveI : Inhabited Ro := ⟨⟨0, 0, 0⟩⟩
    obtain ⟨f, hf⟩ := choose_lt (α := Ro) (n := len) (p := fun i t => t.ok ∧ W.cell? (a.add (i * 3)) = some (.int .i64 t.k) ∧ W.cell? (a.add (i * 3 + 1)) = some (.int .i64 t.key) ∧ W.cell? (a.add (i * 3 + 2)) = some (.int .i64 t.v) ∧ 4 ≤ Rows.uptoBulk (D i)) (fun i hi => by
      obtain ⟨cs', h1, h2⟩ := hel i (by omega)
      rw [cellsOp] at h1
      obtain ⟨-, -, hcell⟩ := World.cells?_some h1
      obtain ⟨t, hok, rfl, hb⟩ := op_in h2
      have e0 := hcell 0 (by omega)
      have e1 := hcell 1 (by omega)
      have e2 := hcell 2 (by omega)
      rw [add_add] at e0 e1 e2
      exact ⟨t, hok, e0, e1, e2, hb⟩)
    refine ⟨(List.range len).map f, ⟨some a, cap, by rw [List.length_map, List.length_range], fun hp => ?_⟩, fun t ht => ?_, Or.inr ⟨_, _, by rw [hx], ?_⟩⟩
    · rw [List.length_map, List.length_range] at hp
      obtain ⟨b, off, spot⟩ := a
      have hspot : spot = none := by simpa [Addr.add] using World.cell?_spot (hf 0 hp).2.1
      subst hspot
      refine ⟨b, off, rfl, fun j t hj => ?_⟩
      have hjl : j < len := by have := (List.getElem?_eq_some_iff.1 hj).1; rw [List.length_map, List.length_range] at this; exact this
      obtain rfl : f j = t := by rw [List.getElem?_map, List.getElem?_range hjl] at hj; exact Option.some.inj hj
      have := (hf j hjl).2
      simp only [add_plain] at this
      exact ⟨this.1, by simpa only [Nat.add_assoc] using this.2.1, by simpa only [Nat.add_assoc] using this.2.2.1⟩
    · obtain ⟨j, hj, rfl⟩ := List.mem_map.1 ht
      exact (hf j (List.mem_range.1 hj)).1
    · have := bulk_four ((List.range len).map D) fun d hd => by
        obtain ⟨j, hj, rfl⟩ := List.mem_map.1 hd
        exact (hf j (List.mem_range.1 hj)).2.2.2.2
      rw [List.length_map, List.length_range] at this ⊢
      exact this
theorem bulk_ops {H : Type} {d : DataW H} {r : List (DataW H)} {e s : List (DataW H)} {n : Nat} (hd : d = .slice e s) (hn : 4 * n ≤ Rows.uptoBulkAll e) (hk : Rows.uptoSmall H (d :: r) = true) : n ≤ 262144 := by
  have h1 := of_decide_eq_true hk
  rw [hd] at h1
  simp only [Rows.uptoBulkAll, Rows.uptoBulk] at h1
  omega
end Go.Proofs.YtajobgmnmbnhiaaGreatDoor.Sap
