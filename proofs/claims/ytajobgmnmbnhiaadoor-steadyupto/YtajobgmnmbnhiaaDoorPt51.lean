/- WHAT IS PROVED HERE: a script that is handed in lies in memory as a list of turns; where what is handed in is of bulk at most 1048576, it has at most as many turns. Conditions: named at each theorem. -/
import Derived.Test.YtajobgmnmbnhiaaDoorRows
import Derived.Test.YtajobgmnmbnhiaaDoorPt32
import Derived.Deep.Slices
import Derived.OpenShut
namespace Go.Proofs.YtajobgmnmbnhiaaDoor.Sap
open Go.RowKit Go.ChangeShapes Go.WideShapes Go.Deep
theorem cellsTurn : Tryd.prog.cellsOf 61 = 5 := by kernel_rfl
theorem cellsOp : Tryd.prog.cellsOf 37 = 3 := by kernel_rfl
theorem cellsI : Tryd.prog.cellsOf 3 = 1 := by kernel_rfl
theorem i64_of {n : Int} (h : (Lit.int .i64 n).wf = true) : I64 n := by
  simpa [I64, Lit.wf, IntKind.min, IntKind.max, IntKind.signed, IntKind.bits] using h
theorem list5s {α : Type} {l : List α} (h : l.length = 5) : ∃ a b c d e, l = [a, b, c, d, e] := by
  match l, h with
  | [a, b, c, d, e], _ => exact ⟨a, b, c, d, e, rfl⟩
theorem list3s {α : Type} {l : List α} (h : l.length = 3) : ∃ a b c, l = [a, b, c] := by
  match l, h with
  | [a, b, c], _ => exact ⟨a, b, c, rfl⟩
theorem turn_in {H : Type} {enc : TypeId × Value → H} {W : World} {base : Nat} {fuel : Nat} {cs : List Value} {x : DataW H × List MemPlace} {sp : Nat → Bool}
    (h : DataW.trod enc Tryd.prog W base sp true fuel 61 cs = some x) : ∃ t : Tn, t.ok ∧ cs = [.int .i64 t.cl, .int .i64 t.k, .int .i64 t.key, .int .i64 t.v, .int .i64 t.mv] := by
  obtain ⟨xs, m, -, -, hl, hlen, hf⟩ := DataW.trod_struct Tryd.underlying61 h
  rw [cellsTurn] at hl
  obtain ⟨c0, c1, c2, c3, c4, rfl⟩ := list5s hl
  obtain ⟨y0, y1, y2, rfl⟩ := list3s (l := xs) hlen
  have f0 : DataW.trod enc Tryd.prog W base sp true m 3 (List.take (Tryd.prog.cellsOf 3) [c0, c1, c2, c3, c4]) = some y0 := hf 0 _ rfl
  have f1 : DataW.trod enc Tryd.prog W base sp true m 37 (List.take (Tryd.prog.cellsOf 37) [c1, c2, c3, c4]) = some y1 := hf 1 _ rfl
  have f2 : DataW.trod enc Tryd.prog W base sp true m 3 (List.take (Tryd.prog.cellsOf 3) [c4]) = some y2 := hf 2 _ rfl
  rw [cellsI] at f0 f2
  rw [cellsOp] at f1
  obtain ⟨cl, e0, -, w0⟩ := DataW.trod_int Tryd.underlying3 f0
  obtain ⟨mv, e4, -, w4⟩ := DataW.trod_int Tryd.underlying3 f2
  obtain ⟨zs, m2, -, -, -, hlen2, hg⟩ := DataW.trod_struct Tryd.underlying37 f1
  obtain ⟨z0, z1, z2, rfl⟩ := list3s (l := zs) hlen2
  have g0 : DataW.trod enc Tryd.prog W base sp true m2 3 (List.take (Tryd.prog.cellsOf 3) [c1, c2, c3]) = some z0 := hg 0 _ rfl
  have g1 : DataW.trod enc Tryd.prog W base sp true m2 3 (List.take (Tryd.prog.cellsOf 3) [c2, c3]) = some z1 := hg 1 _ rfl
  have g2 : DataW.trod enc Tryd.prog W base sp true m2 3 (List.take (Tryd.prog.cellsOf 3) [c3]) = some z2 := hg 2 _ rfl
  rw [cellsI] at g0 g1 g2
  obtain ⟨k, e1, -, w1⟩ := DataW.trod_int Tryd.underlying3 g0
  obtain ⟨key, e2, -, w2⟩ := DataW.trod_int Tryd.underlying3 g1
  obtain ⟨v, e3, -, w3⟩ := DataW.trod_int Tryd.underlying3 g2
  simp only [List.take_succ_cons, List.take_zero, List.cons.injEq, and_true] at e0 e1 e2 e3 e4
  subst e0 e1 e2 e3 e4
  exact ⟨⟨cl, k, key, v, mv⟩, ⟨i64_of w0, i64_of w1, i64_of w2, i64_of w3, i64_of w4⟩, rfl⟩
theorem script_in {H : Type} {enc : TypeId × Value → H} {W : World} {base : Nat} {fuel : Nat} {c : Value} {x : DataW H × List MemPlace} {sp : Nat → Bool}
    (h : DataW.trod enc Tryd.prog W base sp true fuel 48 [c] = some x) :
    ∃ ts : List Tn, TRd W c ts ∧ (∀ t ∈ ts, t.ok) ∧ (ts = [] ∨ ∃ e s, x.1 = .slice e s ∧ ts.length = e.length) := by
  rcases open_slice Tryd.underlying48 h with ⟨hc, -⟩ | ⟨a, len, cap, m, n, D, Pl, hc, -, hlc, -, hm, hx, hel⟩
  · simp only [List.cons.injEq, and_true] at hc
    subst hc
    exact ⟨[], ⟨none, 0, rfl, fun hp => absurd hp (by decide)⟩, fun t ht => (by cases ht), Or.inl rfl⟩
  · simp only [List.cons.injEq, and_true] at hc
    subst hc
    have hlm : len ≤ m := by rw [hm]; split <;> omega
    haveI : Inhabited Tn := ⟨⟨0, 0, 0, 0, 0⟩⟩
    obtain ⟨f, hf⟩ := choose_lt (α := Tn) (n := len) (p := fun i t => t.ok ∧ W.cell? (a.add (i * 5)) = some (.int .i64 t.cl) ∧ W.cell? (a.add (i * 5 + 1)) = some (.int .i64 t.k) ∧ W.cell? (a.add (i * 5 + 2)) = some (.int .i64 t.key) ∧ W.cell? (a.add (i * 5 + 3)) = some (.int .i64 t.v) ∧ W.cell? (a.add (i * 5 + 4)) = some (.int .i64 t.mv)) (fun i hi => by
      obtain ⟨cs', h1, h2⟩ := hel i (by omega)
      rw [cellsTurn] at h1
      obtain ⟨-, -, hcell⟩ := World.cells?_some h1
      obtain ⟨t, hok, rfl⟩ := turn_in h2
      have e0 := hcell 0 (by omega)
      have e1 := hcell 1 (by omega)
      have e2 := hcell 2 (by omega)
      have e3 := hcell 3 (by omega)
      have e4 := hcell 4 (by omega)
      rw [add_add] at e0 e1 e2 e3 e4
      exact ⟨t, hok, e0, e1, e2, e3, e4⟩)
    refine ⟨(List.range len).map f, ⟨some a, cap, by rw [List.length_map, List.length_range], fun hp => ?_⟩, fun t ht => ?_, Or.inr ⟨_, _, by rw [hx], by rw [List.length_map, List.length_map]⟩⟩
    · rw [List.length_map, List.length_range] at hp
      obtain ⟨b, off, spot⟩ := a
      have hspot : spot = none := by simpa [Addr.add] using World.cell?_spot (hf 0 hp).2.1
      subst hspot
      refine ⟨b, off, rfl, fun j t hj => ?_⟩
      have hjl : j < len := by have := (List.getElem?_eq_some_iff.1 hj).1; rw [List.length_map, List.length_range] at this; exact this
      obtain rfl : f j = t := by rw [List.getElem?_map, List.getElem?_range hjl] at hj; exact Option.some.inj hj
      have := (hf j hjl).2
      simp only [add_plain] at this
      simpa only [Nat.add_assoc] using this
    · obtain ⟨j, hj, rfl⟩ := List.mem_map.1 ht
      exact (hf j (List.mem_range.1 hj)).1
theorem bulk_one {H : Type} (d : DataW H) : 1 ≤ Rows.uptoBulk d := by
  cases d with
  | lit l => cases l <;> simp [Rows.uptoBulk]
  | nil => simp [Rows.uptoBulk]
  | ptr d => simp [Rows.uptoBulk]
  | slice elems spare => simp [Rows.uptoBulk]
  | agg parts => simp [Rows.uptoBulk]
  | iface t d => simp [Rows.uptoBulk]
  | map entries => simp [Rows.uptoBulk]
  | held h => simp [Rows.uptoBulk]
theorem bulk_len {H : Type} (l : List (DataW H)) : l.length ≤ Rows.uptoBulkAll l := by
  induction l with
  | nil => simp [Rows.uptoBulkAll]
  | cons x r ih => have := bulk_one x; simp only [Rows.uptoBulkAll, List.length_cons]; omega
theorem bulk_slice {H : Type} {d : DataW H} {r : List (DataW H)} {e s : List (DataW H)} (hd : d = .slice e s) (hk : Rows.uptoSmall H (d :: r) = true) : e.length ≤ 1048576 := by
  have h1 := of_decide_eq_true hk
  have h2 := bulk_len e
  rw [hd] at h1
  simp only [Rows.uptoBulkAll, Rows.uptoBulk] at h1
  omega
end Go.Proofs.YtajobgmnmbnhiaaDoor.Sap
