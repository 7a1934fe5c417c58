/- WHAT IS PROVED HERE: saplingkeep's placed: a page is in a row, and the one ahead of it has no High above a number. Conditions: named at the theorem. -/
import Derived.Test.YtajobgmnmbnhiaaDoorRows
import Derived.Test.YtajobgmnmbnhiaaDoorXN5N7
import Derived.Test.YtajobgmnmbnhiaaDoorXJ3Q2
import Derived.Deep.Slices
import Derived.OpenShut
namespace Go.Proofs.YtajobgmnmbnhiaaDoor.Sap
open Go.RowKit

set_option maxRecDepth 100000 in
set_option maxHeartbeats 3200000 in
theorem placed_yes (gw tg tc ug uc p i m : Nat) (T : List ByteArray) (U : List Bool) (ps : List Nat) (rv : Value) (fr : Int) (w : World) (h : PgR gw tg tc ug uc T U w) (hr : Rd w rv (natI ps)) (hm : ps.length = m) (hm1 : m ≤ 64) (hp : ps[i]? = some p) (hu : ∀ j, j < i → ps[j]? ≠ some p)
    (hi : i = 0 ∨ ∃ q n, ps[i - 1]? = some q ∧ Says T U q n ∧ n.hi ≤ fr) :
    Calls Tryd.prog 114 #[.pointer (some ⟨gw, 0, none⟩), rv, .int .i64 p, .int .i64 fr] w fun e w' => e = .returned (.bool true) ∧ Below w.heap.size w w' := by
  have him : i < m := by rw [← hm]; exact (List.getElem?_eq_some_iff.1 hp).1
  obtain ⟨ra, rc, rfl⟩ := hr.len
  have hnl : (natI ps).length = m := by unfold natI; rw [List.length_map]; exact hm
  rw [hnl] at hr ⊢
  have HR := hideIt hr
  have HP := hideIt hp
  have HU := hideIt hu
  have HI := hideIt hi
  have HPG := hideIt h
  have HM := hideIt hm
  clear h hr hm hp hu hi hnl
  go_enter Tryd.func114, Tryd.ntmps114
  go_wp2
  go_loopw [9] (fun vi wr => ∃ j : Nat, j ≤ i ∧ vi = .int .i64 j ∧ wr = w) (fun vi _ => i - (intOf vi).toNat)
  case atStart => exact ⟨0, by omega, rfl, rfl⟩
  case round =>
    obtain ⟨j, hj, rfl, rfl⟩ := hrel
    have hj0 : (0 : Int) ≤ (j : Int) := by omega
    have hjm : (j : Int) < (m : Int) := by omega
    obtain ⟨b1, o1, e1, -, x1⟩ := HR.out.elem j (by omega)
    subst e1
    have y1 := x1 _ (Below.refl _ _)
    obtain ⟨q, hq⟩ : ∃ q, ps[j]? = some q := ⟨_, List.getElem?_eq_getElem (by rw [HM.out]; omega)⟩
    have hqv : (natI ps)[j]?.getD 0 = (q : Int) := by unfold natI; rw [List.getElem?_map, hq]; rfl
    rw [hqv] at y1
    by_cases hlt : j < i
    · have hne : q ≠ p := fun e => HU.out j hlt (by rw [hq, e])
      have hneb : ((q : Int) != (p : Int)) = true := by simp; omega
      clear x1 hq hqv hne
      go_wp2
      go_roundw
      case rel => exact ⟨j + 1, by omega, by go_num, by trivial⟩
      case measure => simp [intOf]; omega
    · obtain rfl : j = i := by omega
      have hqp : q = p := by rw [HP.out] at hq; cases hq; rfl
      subst hqp
      have hneb : ((q : Int) != (q : Int)) = false := by simp
      clear x1 hq hqv
      rcases HI.out with h0 | ⟨q2, n, hq2, hs, hle⟩
      · subst h0
        have hm0 : (0 : Int) < (m : Int) := by omega
        simp only [Nat.add_zero] at y1
        clear hjm hj0
        go_wp2
        go_ret
        exact ⟨rfl, Below.refl _ _⟩
      · rcases Nat.eq_zero_or_pos j with hz | hz
        · subst hz
          have hm0 : (0 : Int) < (m : Int) := by omega
          simp only [Nat.add_zero] at y1
          clear hjm hj0
          go_wp2
          go_ret
          exact ⟨rfl, Below.refl _ _⟩
        · obtain ⟨j', rfl⟩ : ∃ j', j = j' + 1 := ⟨j - 1, by omega⟩
          rw [Nat.add_sub_cancel] at hq2
          obtain ⟨b2, o2, e2, -, x2⟩ := HR.out.elem j' (by omega)
          cases e2
          have y2 := x2 _ (Below.refl _ _)
          have hqv2 : (natI ps)[j']?.getD 0 = (q2 : Int) := by unfold natI; rw [List.getElem?_map, hq2]; rfl
          rw [hqv2] at y2
          have hj1 : ((((j' + 1 : Nat) : Int)) == 0) = false := by rw [beq_eq_false_iff_ne]; omega
          have hj2 : (0 : Int) ≤ (j' : Int) := by omega
          have hj3 : (j' : Int) < (m : Int) := by omega
          have hj4 : (((j' : Int) + 1) == 0) = false := by rw [beq_eq_false_iff_ne]; omega
          have CS := hideIt (says_yes gw tg tc ug uc q2 T U n wr HPG.out hs)
          clear x2 hqv2 hq2 hs hz
          go_wp2_with fail
          refine CS.out.mono ?_
          rintro e w1 ⟨kv, vv, rfl, hM⟩
          obtain ⟨ka, kc, rfl⟩ := As.form0 (hM.get (i := 0) rfl)
          obtain ⟨va, vc, rfl⟩ := As.form0 (hM.get (i := 1) rfl)
          have A1 := hideIt (hM.alloc #[.int .i64 n.lv, .int .i64 n.lk, .int .i64 n.hi, .slice ka n.ks.length kc, .slice va n.vs.length vc] 24)
          clear CS hM
          go_wp2
          go_ret
          exact ⟨rfl, A1.out.bl⟩
end Go.Proofs.YtajobgmnmbnhiaaDoor.Sap

/- WHAT IS PROVED HERE: a script that is handed in lies in memory as a list of turns; where what is handed in is of bulk at most 1048576, it has at most as many turns. Conditions: named at each theorem. -/
namespace Go.Proofs.YtajobgmnmbnhiaaDoor.Sap
open Go.RowKit Go.ChangeShapes Go.WideShapes Go.Deep

theorem cellsTurn : Tryd.prog.cellsOf 61 = 5 := by kernel_rfl
theorem cellsOp : Tryd.prog.cellsOf 37 = 3 := by kernel_rfl
theorem cellsI : Tryd.prog.cellsOf 3 = 1 := by kernel_rfl
theorem i64_of {n : Int} (h : (Lit.int .i64 n).wf = true) : I64 n := by
  simpa [I64, Lit.wf, IntKind.min, IntKind.max, IntKind.signed, IntKind.bits] using h

theorem list5s {α : Type} {l : List α} (h : l.length = 5) : ∃ a b c d e, l = [a, b, c, d, e] := by
  match l, h with
  | [a, b, c, d, e], _ => exact ⟨a, b, c, d, e, rfl⟩
theorem list3s {α : Type} {l : List α} (h : l.length = 3) : ∃ a b c, l = [a, b, c] := by
  match l, h with
  | [a, b, c], _ => exact ⟨a, b, c, rfl⟩

/-- The five cells of a turn. -/
theorem turn_in {H : Type} {enc : TypeId × Value → H} {W : World} {base : Nat} {fuel : Nat} {cs : List Value} {x : DataW H × List MemPlace} {sp : Nat → Bool}
    (h : DataW.trod enc Tryd.prog W base sp true fuel 61 cs = some x) : ∃ t : Tn, t.ok ∧ cs = [.int .i64 t.cl, .int .i64 t.k, .int .i64 t.key, .int .i64 t.v, .int .i64 t.mv] := by
  obtain ⟨xs, m, -, -, hl, hlen, hf⟩ := DataW.trod_struct Tryd.underlying61 h
  rw [cellsTurn] at hl
  obtain ⟨c0, c1, c2, c3, c4, rfl⟩ := list5s hl
  obtain ⟨y0, y1, y2, rfl⟩ := list3s (l := xs) hlen
  have f0 : DataW.trod enc Tryd.prog W base sp true m 3 (List.take (Tryd.prog.cellsOf 3) [c0, c1, c2, c3, c4]) = some y0 := hf 0 _ rfl
  have f1 : DataW.trod enc Tryd.prog W base sp true m 37 (List.take (Tryd.prog.cellsOf 37) [c1, c2, c3, c4]) = some y1 := hf 1 _ rfl
  have f2 : DataW.trod enc Tryd.prog W base sp true m 3 (List.take (Tryd.prog.cellsOf 3) [c4]) = some y2 := hf 2 _ rfl
  rw [cellsI] at f0 f2
  rw [cellsOp] at f1
  obtain ⟨cl, e0, -, w0⟩ := DataW.trod_int Tryd.underlying3 f0
  obtain ⟨mv, e4, -, w4⟩ := DataW.trod_int Tryd.underlying3 f2
  obtain ⟨zs, m2, -, -, -, hlen2, hg⟩ := DataW.trod_struct Tryd.underlying37 f1
  obtain ⟨z0, z1, z2, rfl⟩ := list3s (l := zs) hlen2
  have g0 : DataW.trod enc Tryd.prog W base sp true m2 3 (List.take (Tryd.prog.cellsOf 3) [c1, c2, c3]) = some z0 := hg 0 _ rfl
  have g1 : DataW.trod enc Tryd.prog W base sp true m2 3 (List.take (Tryd.prog.cellsOf 3) [c2, c3]) = some z1 := hg 1 _ rfl
  have g2 : DataW.trod enc Tryd.prog W base sp true m2 3 (List.take (Tryd.prog.cellsOf 3) [c3]) = some z2 := hg 2 _ rfl
  rw [cellsI] at g0 g1 g2
  obtain ⟨k, e1, -, w1⟩ := DataW.trod_int Tryd.underlying3 g0
  obtain ⟨key, e2, -, w2⟩ := DataW.trod_int Tryd.underlying3 g1
  obtain ⟨v, e3, -, w3⟩ := DataW.trod_int Tryd.underlying3 g2
  simp only [List.take_succ_cons, List.take_zero, List.cons.injEq, and_true] at e0 e1 e2 e3 e4
  subst e0 e1 e2 e3 e4
  exact ⟨⟨cl, k, key, v, mv⟩, ⟨i64_of w0, i64_of w1, i64_of w2, i64_of w3, i64_of w4⟩, rfl⟩

/-- A script that is handed in. -/
theorem script_in {H : Type} {enc : TypeId × Value → H} {W : World} {base : Nat} {fuel : Nat} {c : Value} {x : DataW H × List MemPlace} {sp : Nat → Bool}
    (h : DataW.trod enc Tryd.prog W base sp true fuel 48 [c] = some x) :
    ∃ ts : List Tn, TRd W c ts ∧ (∀ t ∈ ts, t.ok) ∧ (ts = [] ∨ ∃ e s, x.1 = .slice e s ∧ ts.length = e.length) := by
  rcases open_slice Tryd.underlying48 h with ⟨hc, -⟩ | ⟨a, len, cap, m, n, D, Pl, hc, -, hlc, -, hm, hx, hel⟩
  · simp only [List.cons.injEq, and_true] at hc
    subst hc
    exact ⟨[], ⟨none, 0, rfl, fun hp => absurd hp (by decide)⟩, fun t ht => (by cases ht), Or.inl rfl⟩
  · simp only [List.cons.injEq, and_true] at hc
    subst hc
    have hlm : len ≤ m := by rw [hm]; split <;> omega
    haveI : Inhabited Tn := ⟨⟨0, 0, 0, 0, 0⟩⟩
    obtain ⟨f, hf⟩ := choose_lt (α := Tn) (n := len) (p := fun i t => t.ok ∧ W.cell? (a.add (i * 5)) = some (.int .i64 t.cl) ∧ W.cell? (a.add (i * 5 + 1)) = some (.int .i64 t.k) ∧ W.cell? (a.add (i * 5 + 2)) = some (.int .i64 t.key) ∧ W.cell? (a.add (i * 5 + 3)) = some (.int .i64 t.v) ∧ W.cell? (a.add (i * 5 + 4)) = some (.int .i64 t.mv)) (fun i hi => by
      obtain ⟨cs', h1, h2⟩ := hel i (by omega)
      rw [cellsTurn] at h1
      obtain ⟨-, -, hcell⟩ := World.cells?_some h1
      obtain ⟨t, hok, rfl⟩ := turn_in h2
      have e0 := hcell 0 (by omega)
      have e1 := hcell 1 (by omega)
      have e2 := hcell 2 (by omega)
      have e3 := hcell 3 (by omega)
      have e4 := hcell 4 (by omega)
      rw [add_add] at e0 e1 e2 e3 e4
      exact ⟨t, hok, e0, e1, e2, e3, e4⟩)
    refine ⟨(List.range len).map f, ⟨some a, cap, by rw [List.length_map, List.length_range], fun hp => ?_⟩, fun t ht => ?_, Or.inr ⟨_, _, by rw [hx], by rw [List.length_map, List.length_map]⟩⟩
    · rw [List.length_map, List.length_range] at hp
      obtain ⟨b, off, spot⟩ := a
      have hspot : spot = none := by simpa [Addr.add] using World.cell?_spot (hf 0 hp).2.1
      subst hspot
      refine ⟨b, off, rfl, fun j t hj => ?_⟩
      have hjl : j < len := by have := (List.getElem?_eq_some_iff.1 hj).1; rw [List.length_map, List.length_range] at this; exact this
      obtain rfl : f j = t := by rw [List.getElem?_map, List.getElem?_range hjl] at hj; exact Option.some.inj hj
      have := (hf j hjl).2
      simp only [add_plain] at this
      simpa only [Nat.add_assoc] using this
    · obtain ⟨j, hj, rfl⟩ := List.mem_map.1 ht
      exact (hf j (List.mem_range.1 hj)).1

/-- How many turns, where the bulk is bound. -/
theorem bulk_one {H : Type} (d : DataW H) : 1 ≤ Rows.uptoBulk d := by
  cases d with
  | lit l => cases l <;> simp [Rows.uptoBulk]
  | nil => simp [Rows.uptoBulk]
  | ptr d => simp [Rows.uptoBulk]
  | slice elems spare => simp [Rows.uptoBulk]
  | agg parts => simp [Rows.uptoBulk]
  | iface t d => simp [Rows.uptoBulk]
  | map entries => simp [Rows.uptoBulk]
  | held h => simp [Rows.uptoBulk]
theorem bulk_len {H : Type} (l : List (DataW H)) : l.length ≤ Rows.uptoBulkAll l := by
  induction l with
  | nil => simp [Rows.uptoBulkAll]
  | cons x r ih => have := bulk_one x; simp only [Rows.uptoBulkAll, List.length_cons]; omega
theorem bulk_slice {H : Type} {d : DataW H} {r : List (DataW H)} {e s : List (DataW H)} (hd : d = .slice e s) (hk : Rows.uptoSmall H (d :: r) = true) : e.length ≤ 1048576 := by
  have h1 := of_decide_eq_true hk
  have h2 := bulk_len e
  rw [hd] at h1
  simp only [Rows.uptoBulkAll, Rows.uptoBulk] at h1
  omega
end Go.Proofs.YtajobgmnmbnhiaaDoor.Sap
