/- WHAT IS PROVED HERE: saplingkeep's Honest and Linear answer true over any program that keeps an invariant of the world (Good) which lets the answers be a plain map's. Conditions: those of Good; the script has at most a million turns. -/
import Derived.Test.YtajobgmnmbnhiabDoorRows
import Derived.Test.YtajobgmnmbnhiabDoorXN5N7
import Derived.Test.YtajobgmnmbnhiabDoorXK4K5
import Derived.Test.YtajobgmnmbnhiabDoorXK6J1
import Derived.Deep.Slices
import Derived.OpenShut
namespace Go.Proofs.YtajobgmnmbnhiabDoor.Sap
open Go.RowKit

/-- A program over which scripts are played, from the beginning: see Mc, Pvd. -/
structure Good (Inv : Nat → Wd → Prop) (rk : Nat → Wd → Nat) : Prop where
  pv : ∀ W, Tab W → ∃ Pv Pb, Pvd Pv Pb W.heap.size W W.heap.size ∧ ∀ tg tc ug uc vg vc bg bc, Pv 0 (Wd.first W.heap.size tg tc ug uc vg vc bg bc)
  mc : ∀ W, Tab W → Mc (Inv W.heap.size) rk W.heap.size W W.heap.size
  ini : ∀ gw tg tc ug uc vg vc bg bc, Inv gw (Wd.first gw tg tc ug uc vg vc bg bc)
  ov : ∀ gw x, Inv gw x → x.ov = .slice none 0 0
  over : ∀ gw x, Inv gw x → (∀ c, c < 64 → x.bs[c]? = some (-1)) → x.now ≤ 90000000 → ∀ d ∈ x.ds, d.over

/-- The world's list of operations, and one of them. -/
theorem M.deedAt {w0 w : World} {B j n : Nat} {x : Wd} {d : Dd} {fr : List As} (h : M w0 B w (x.as ++ fr)) (hd : x.ds[j]? = some d) (hn : x.ds.length = n) : ∃ dg dc, w.cell? ⟨x.gw, 3, none⟩ = some (.slice (some ⟨dg, 0, none⟩) n dc) ∧ w.cell? ⟨dg, j, none⟩ = some (.pointer (some ⟨d.gd, 0, none⟩)) ∧ w.cell? ⟨d.gd, 0, none⟩ = some (.int .i64 d.k) := by
  have hl := (List.getElem?_eq_some_iff.1 hd).1
  obtain ⟨dg, dc, hdv⟩ := As.form (h.get (i := 2) rfl) (show 0 < x.ds.length by omega)
  have g3 := h.cell (i := 0) rfl 3 x.dv rfl
  have hrow := (h.get (i := 2) rfl).own
  have hdp : (x.ds.map Dd.ptr)[j]? = some (.pointer (some ⟨d.gd, 0, none⟩)) := by rw [List.getElem?_map, hd]; rfl
  rw [hdv] at g3 hrow
  have c0 := World.ownsRow.cellAt hrow j (by omega)
  rw [hdp] at c0
  rw [hn] at g3
  have D := M.deed (pre := []) h hd
  exact ⟨dg, dc, g3, c0, D.cell (i := 0) rfl 0 (.int .i64 d.k) rfl⟩

end Go.Proofs.YtajobgmnmbnhiabDoor.Sap

/- WHAT IS PROVED HERE: saplingkeep's Full answers true over any program that keeps an invariant of the world (Good) which lets no more pages be in use than the Puts may take, and lets nobody be refused but a Put whose own Fresh was. Conditions: those of Good; the script has at most a million turns. -/
namespace Go.Proofs.YtajobgmnmbnhiabDoor.Sap
open Go.RowKit

/-- How many of the first j pages are in use. -/
def usedN (U : List Bool) : Nat → Nat
  | 0 => 0
  | j + 1 => usedN U j + if U[j]? = some true then 1 else 0
theorem usedN_list (U : List Bool) (j : Nat) : ∃ A : List Nat, A.Nodup ∧ (∀ p ∈ A, U[p]? = some true ∧ p < j) ∧ A.length = usedN U j := by
  induction j with
  | zero => exact ⟨[], by simp, fun p hp => (by cases hp), rfl⟩
  | succ j ih =>
    obtain ⟨A, h1, h2, h3⟩ := ih
    by_cases h : U[j]? = some true
    · refine ⟨j :: A, List.nodup_cons.2 ⟨fun e => ?_, h1⟩, fun p hp => ?_, ?_⟩
      · have := (h2 j e).2; omega
      · rcases List.mem_cons.1 hp with rfl | hp
        · exact ⟨h, by omega⟩
        · exact ⟨(h2 p hp).1, by have := (h2 p hp).2; omega⟩
      · unfold usedN; rw [if_pos h, List.length_cons, h3]
    · refine ⟨A, h1, fun p hp => ⟨(h2 p hp).1, by have := (h2 p hp).2; omega⟩, ?_⟩
      unfold usedN; rw [if_neg h, h3]; rfl
theorem usedN_le (U : List Bool) (j : Nat) : usedN U j ≤ j := by
  induction j with
  | zero => exact Nat.le_refl _
  | succ j ih => unfold usedN; split <;> omega

set_option maxRecDepth 100000 in
set_option maxHeartbeats 6400000 in
theorem full_gen (sv : Value) (ts : List Tn) (Inv : Nat → Wd → Prop) (rk : Nat → Wd → Nat) (w : World) (htab : Tab w) (hT : TRd w sv ts) (hok : ∀ t ∈ ts, t.ok) (hlen : ts.length ≤ 1048576) (G : Good Inv rk)
    (hPg : ∀ gw x, Inv gw x → x.U.length = 64 ∧ 0 ≤ x.puts ∧ x.puts ≤ x.ds.length ∧ ∀ A : List Nat, A.Nodup → (∀ p ∈ A, x.U[p]? = some true) → (A.length : Int) ≤ 1 + 3 * x.puts)
    (hEr : ∀ gw x, Inv gw x → ∀ d ∈ x.ds, d.er = 0 ∨ (d.er = 4 ∧ d.k = 2 ∧ d.rf = true)) :
    Calls Tryd.prog 3 #[sv] w fun e w' => e = .returned (.bool true) ∧ Below w.heap.size w w' := by
  have HT := hideIt hT
  have HOK := hideIt hok
  have HL := hideIt hlen
  have HG := hideIt G
  have HPG := hideIt hPg
  have HER := hideIt hEr
  obtain ⟨ao, cap, rfl, -⟩ := hT
  obtain ⟨Pv, Pb, hpv, hp0⟩ := G.pv w htab
  have CP := hideIt (proved_gen Pv Pb w hpv hp0)
  clear hok hlen G hpv hp0 hPg hEr
  go_enter Tryd.func3, Tryd.ntmps3
  go_wp2_with fail
  refine CP.out.mono ?_
  rintro e w1 ⟨rfl, hb1⟩
  have HB1 := hideIt hb1
  have HMC := hideIt (HG.out.mc w1 (htab.below hb1))
  have CQ := hideIt (play_gen _ ts (Inv w1.heap.size) rk w1 (HT.out.below hb1) HOK.out HL.out HMC.out (HG.out.ini w1.heap.size))
  clear hb1 CP HT
  go_wp2_with fail
  refine CQ.out.mono ?_
  rintro e w2 ⟨rfl, x, hI, hn, hd, hM⟩
  have CS := hideIt (HMC.out.settle x w2 [] hI (by have := HL.out; omega) hM)
  have HD := hideIt hd
  clear CQ hI hn hM hd
  go_wp2_with fail
  refine CS.out.mono ?_
  rintro e w3 ⟨⟨u, rfl⟩, x3, hI3, hid3, hn3, hd3, hM3⟩
  have hg : Hid (x3.gw = w1.heap.size) := HMC.out.pg x3 hI3
  obtain ⟨hu64, hpu0, hpu1, hpgs⟩ := HPG.out _ x3 hI3
  have HE3 := hideIt (HER.out _ x3 hI3)
  obtain ⟨n, hnn⟩ : ∃ n, x3.ds.length = n := ⟨_, rfl⟩
  have HNN := hideIt hnn
  have HN6 : Hid (n ≤ 1048576) := by unfold Hid; have := HL.out; have := HD.out; omega
  have HU := hideIt hu64
  have HPU : Hid (0 ≤ x3.puts ∧ x3.puts ≤ 1048576) := by unfold Hid; have := HN6.out; omega
  have HPS := hideIt hpgs
  have A0 := hideIt hM3
  clear CS hI3 hM3 hid3 hn3 hd3 hnn hu64 hpu0 hpu1 hpgs
  obtain ⟨gw, hgw⟩ : ∃ g, w1.heap.size = g := ⟨_, rfl⟩
  rw [hgw] at hg A0 ⊢
  have HGW := hideIt hgw
  clear hgw HMC
  have hg' := hg.out
  subst hg'
  go_wp2
  go_loopw [5, 6] (fun pv y wr => ∃ j : Nat, j ≤ 64 ∧ pv = .int .i64 (usedN x3.U j) ∧ y = .int .i64 j ∧ Hid (M w1 x3.gw wr (x3.as ++ []))) (fun _ i _ => 64 - (intOf i).toNat)
  case atStart => exact ⟨0, by omega, rfl, rfl, A0.out⟩
  case round =>
    obtain ⟨j, hj, rfl, rfl, hM⟩ := hrel
    clear A0
    have g1 := hM.out.cell (i := 0) rfl 1 (.slice (some ⟨x3.ug, 0, none⟩) 64 x3.uc) rfl
    have hle := usedN_le x3.U j
    by_cases hlt : j < 64
    · obtain ⟨b, hb⟩ : ∃ b, x3.U[j]? = some b := ⟨_, List.getElem?_eq_getElem (by rw [HU.out]; exact hlt)⟩
      have c1 := hM.out.rowCell (i := 4) rfl j (.bool b) (bools_get hb)
      have hj0 : (0 : Int) ≤ (j : Int) := by omega
      have hj1 : (j : Int) < 64 := by omega
      cases b with
      | true =>
        have HS : Hid (usedN x3.U (j + 1) = usedN x3.U j + 1) := by unfold Hid; rw [usedN, if_pos hb]
        clear hb
        go_wp2
        go_roundw
        case rel => exact ⟨j + 1, by omega, by rw [HS.out]; go_num, by go_num, hM.out⟩
        case measure => simp [intOf]; omega
      | false =>
        have HS : Hid (usedN x3.U (j + 1) = usedN x3.U j) := by unfold Hid; rw [usedN, if_neg (by rw [hb]; decide)]; rfl
        clear hb
        go_wp2
        go_roundw
        case rel => exact ⟨j + 1, by omega, by rw [HS.out], by go_num, hM.out⟩
        case measure => simp [intOf]; omega
    · obtain rfl : j = 64 := by omega
      have HU64 : Hid ((usedN x3.U 64 : Int) ≤ 1 + 3 * x3.puts) := by
        obtain ⟨A, a1, a2, a3⟩ := usedN_list x3.U 64
        have := HPS.out A a1 fun p hp => (a2 p hp).1
        unfold Hid
        omega
      go_wp2
      go_loopw [7] (fun y wr => ∃ i : Nat, i ≤ n ∧ y = .int .i64 i ∧ Hid (M w1 x3.gw wr (x3.as ++ []))) (fun i _ => n - (intOf i).toNat)
      case atStart => exact ⟨0, by omega, rfl, hM.out⟩
      case round =>
        clear hM
        obtain ⟨i, hi, rfl, hM⟩ := hrel
        by_cases hlt : i < n
        · obtain ⟨d, hd⟩ : ∃ d, x3.ds[i]? = some d := ⟨_, List.getElem?_eq_getElem (by rw [HNN.out]; exact hlt)⟩
          have hi0 : (0 : Int) ≤ (i : Int) := by omega
          have hi1 : (i : Int) < (n : Int) := by omega
          have hn6 := HN6.out
          obtain ⟨dg, dc, g3, c0, d0⟩ := M.deedAt hM.out hd HNN.out
          have D := M.deed (pre := []) hM.out hd
          have d6 := D.cell (i := 0) rfl 6 (.bool d.rf) rfl
          have d8 := D.cell (i := 0) rfl 8 (.int .i64 d.er) rfl
          have hor := HE3.out d (List.mem_of_getElem? hd)
          clear D hd
          rcases hor with h0 | ⟨h4, h2, hr⟩
          · rw [h0] at d8
            clear h0
            go_wp2
            go_roundw
            case rel => exact ⟨i + 1, by omega, by go_num, hM.out⟩
            case measure => simp [intOf]; omega
          · rw [h4] at d8
            rw [h2] at d0
            rw [hr] at d6
            clear h4 h2 hr
            go_wp2
            go_roundw
            case rel => exact ⟨i + 1, by omega, by go_num, hM.out⟩
            case measure => simp [intOf]; omega
        · obtain rfl : i = n := by omega
          obtain ⟨da, dc, hdv⟩ := As.form0 (hM.out.get (i := 2) rfl)
          rw [HNN.out] at hdv
          have g3 := hM.out.cell (i := 0) rfl 3 x3.dv rfl
          rw [hdv] at g3
          have g6 := hM.out.cell (i := 0) rfl 6 (.int .i64 x3.puts) rfl
          have g14 := hM.out.cell (i := 0) rfl 14 (.bool false) rfl
          have HB4 := hideIt (step HB1.out (by have := hM.out.bl; rw [← HGW.out] at this; exact this))
          have hp := HPU.out
          have hu := HU64.out
          have hle2 : decide ((usedN x3.U 64 : Int) ≤ 1 + 3 * x3.puts) = true := by rw [decide_eq_true_eq]; exact hu
          go_wp2
          go_ret
          exact ⟨rfl, HB4.out⟩
end Go.Proofs.YtajobgmnmbnhiabDoor.Sap

/- WHAT IS PROVED HERE: a script that is handed in lies in memory as a list of turns; where what is handed in is of bulk at most 1048576, it has at most as many turns. Conditions: named at each theorem. -/
namespace Go.Proofs.YtajobgmnmbnhiabDoor.Sap
open Go.RowKit Go.ChangeShapes Go.WideShapes Go.Deep

theorem cellsTurn : Tryd.prog.cellsOf 50 = 5 := by kernel_rfl
theorem cellsOp : Tryd.prog.cellsOf 40 = 3 := by kernel_rfl
theorem cellsI : Tryd.prog.cellsOf 3 = 1 := by kernel_rfl
theorem i64_of {n : Int} (h : (Lit.int .i64 n).wf = true) : I64 n := by
  simpa [I64, Lit.wf, IntKind.min, IntKind.max, IntKind.signed, IntKind.bits] using h

theorem list5s {α : Type} {l : List α} (h : l.length = 5) : ∃ a b c d e, l = [a, b, c, d, e] := by
  match l, h with
  | [a, b, c, d, e], _ => exact ⟨a, b, c, d, e, rfl⟩
theorem list3s {α : Type} {l : List α} (h : l.length = 3) : ∃ a b c, l = [a, b, c] := by
  match l, h with
  | [a, b, c], _ => exact ⟨a, b, c, rfl⟩

/-- The five cells of a turn. -/
theorem turn_in {H : Type} {enc : TypeId × Value → H} {W : World} {base : Nat} {fuel : Nat} {cs : List Value} {x : DataW H × List MemPlace} {sp : Nat → Bool}
    (h : DataW.trod enc Tryd.prog W base sp true fuel 50 cs = some x) : ∃ t : Tn, t.ok ∧ cs = [.int .i64 t.cl, .int .i64 t.k, .int .i64 t.key, .int .i64 t.v, .int .i64 t.mv] := by
  obtain ⟨xs, m, -, -, hl, hlen, hf⟩ := DataW.trod_struct Tryd.underlying50 h
  rw [cellsTurn] at hl
  obtain ⟨c0, c1, c2, c3, c4, rfl⟩ := list5s hl
  obtain ⟨y0, y1, y2, rfl⟩ := list3s (l := xs) hlen
  have f0 : DataW.trod enc Tryd.prog W base sp true m 3 (List.take (Tryd.prog.cellsOf 3) [c0, c1, c2, c3, c4]) = some y0 := hf 0 _ rfl
  have f1 : DataW.trod enc Tryd.prog W base sp true m 40 (List.take (Tryd.prog.cellsOf 40) [c1, c2, c3, c4]) = some y1 := hf 1 _ rfl
  have f2 : DataW.trod enc Tryd.prog W base sp true m 3 (List.take (Tryd.prog.cellsOf 3) [c4]) = some y2 := hf 2 _ rfl
  rw [cellsI] at f0 f2
  rw [cellsOp] at f1
  obtain ⟨cl, e0, -, w0⟩ := DataW.trod_int Tryd.underlying3 f0
  obtain ⟨mv, e4, -, w4⟩ := DataW.trod_int Tryd.underlying3 f2
  obtain ⟨zs, m2, -, -, -, hlen2, hg⟩ := DataW.trod_struct Tryd.underlying40 f1
  obtain ⟨z0, z1, z2, rfl⟩ := list3s (l := zs) hlen2
  have g0 : DataW.trod enc Tryd.prog W base sp true m2 3 (List.take (Tryd.prog.cellsOf 3) [c1, c2, c3]) = some z0 := hg 0 _ rfl
  have g1 : DataW.trod enc Tryd.prog W base sp true m2 3 (List.take (Tryd.prog.cellsOf 3) [c2, c3]) = some z1 := hg 1 _ rfl
  have g2 : DataW.trod enc Tryd.prog W base sp true m2 3 (List.take (Tryd.prog.cellsOf 3) [c3]) = some z2 := hg 2 _ rfl
  rw [cellsI] at g0 g1 g2
  obtain ⟨k, e1, -, w1⟩ := DataW.trod_int Tryd.underlying3 g0
  obtain ⟨key, e2, -, w2⟩ := DataW.trod_int Tryd.underlying3 g1
  obtain ⟨v, e3, -, w3⟩ := DataW.trod_int Tryd.underlying3 g2
  simp only [List.take_succ_cons, List.take_zero, List.cons.injEq, and_true] at e0 e1 e2 e3 e4
  subst e0 e1 e2 e3 e4
  exact ⟨⟨cl, k, key, v, mv⟩, ⟨i64_of w0, i64_of w1, i64_of w2, i64_of w3, i64_of w4⟩, rfl⟩

/-- A script that is handed in. -/
theorem script_in {H : Type} {enc : TypeId × Value → H} {W : World} {base : Nat} {fuel : Nat} {c : Value} {x : DataW H × List MemPlace} {sp : Nat → Bool}
    (h : DataW.trod enc Tryd.prog W base sp true fuel 22 [c] = some x) :
    ∃ ts : List Tn, TRd W c ts ∧ (∀ t ∈ ts, t.ok) ∧ (ts = [] ∨ ∃ e s, x.1 = .slice e s ∧ ts.length = e.length) := by
  rcases open_slice Tryd.underlying22 h with ⟨hc, -⟩ | ⟨a, len, cap, m, n, D, Pl, hc, -, hlc, -, hm, hx, hel⟩
  · simp only [List.cons.injEq, and_true] at hc
    subst hc
    exact ⟨[], ⟨none, 0, rfl, fun hp => absurd hp (by decide)⟩, fun t ht => (by cases ht), Or.inl rfl⟩
  · simp only [List.cons.injEq, and_true] at hc
    subst hc
    have hlm : len ≤ m := by rw [hm]; split <;> omega
    haveI : Inhabited Tn := ⟨⟨0, 0, 0, 0, 0⟩⟩
    obtain ⟨f, hf⟩ := choose_lt (α := Tn) (n := len) (p := fun i t => t.ok ∧ W.cell? (a.add (i * 5)) = some (.int .i64 t.cl) ∧ W.cell? (a.add (i * 5 + 1)) = some (.int .i64 t.k) ∧ W.cell? (a.add (i * 5 + 2)) = some (.int .i64 t.key) ∧ W.cell? (a.add (i * 5 + 3)) = some (.int .i64 t.v) ∧ W.cell? (a.add (i * 5 + 4)) = some (.int .i64 t.mv)) (fun i hi => by
      obtain ⟨cs', h1, h2⟩ := hel i (by omega)
      rw [cellsTurn] at h1
      obtain ⟨-, -, hcell⟩ := World.cells?_some h1
      obtain ⟨t, hok, rfl⟩ := turn_in h2
      have e0 := hcell 0 (by omega)
      have e1 := hcell 1 (by omega)
      have e2 := hcell 2 (by omega)
      have e3 := hcell 3 (by omega)
      have e4 := hcell 4 (by omega)
      rw [add_add] at e0 e1 e2 e3 e4
      exact ⟨t, hok, e0, e1, e2, e3, e4⟩)
    refine ⟨(List.range len).map f, ⟨some a, cap, by rw [List.length_map, List.length_range], fun hp => ?_⟩, fun t ht => ?_, Or.inr ⟨_, _, by rw [hx], by rw [List.length_map, List.length_map]⟩⟩
    · rw [List.length_map, List.length_range] at hp
      obtain ⟨b, off, spot⟩ := a
      have hspot : spot = none := by simpa [Addr.add] using World.cell?_spot (hf 0 hp).2.1
      subst hspot
      refine ⟨b, off, rfl, fun j t hj => ?_⟩
      have hjl : j < len := by have := (List.getElem?_eq_some_iff.1 hj).1; rw [List.length_map, List.length_range] at this; exact this
      obtain rfl : f j = t := by rw [List.getElem?_map, List.getElem?_range hjl] at hj; exact Option.some.inj hj
      have := (hf j hjl).2
      simp only [add_plain] at this
      simpa only [Nat.add_assoc] using this
    · obtain ⟨j, hj, rfl⟩ := List.mem_map.1 ht
      exact (hf j (List.mem_range.1 hj)).1

/-- How many turns, where the bulk is bound. -/
theorem bulk_one {H : Type} (d : DataW H) : 1 ≤ Rows.uptoBulk d := by
  cases d with
  | lit l => cases l <;> simp [Rows.uptoBulk]
  | nil => simp [Rows.uptoBulk]
  | ptr d => simp [Rows.uptoBulk]
  | slice elems spare => simp [Rows.uptoBulk]
  | agg parts => simp [Rows.uptoBulk]
  | iface t d => simp [Rows.uptoBulk]
  | map entries => simp [Rows.uptoBulk]
  | held h => simp [Rows.uptoBulk]
theorem bulk_len {H : Type} (l : List (DataW H)) : l.length ≤ Rows.uptoBulkAll l := by
  induction l with
  | nil => simp [Rows.uptoBulkAll]
  | cons x r ih => have := bulk_one x; simp only [Rows.uptoBulkAll, List.length_cons]; omega
theorem bulk_slice {H : Type} {d : DataW H} {r : List (DataW H)} {e s : List (DataW H)} (hd : d = .slice e s) (hk : Rows.uptoSmall H (d :: r) = true) : e.length ≤ 1048576 := by
  have h1 := of_decide_eq_true hk
  have h2 := bulk_len e
  rw [hd] at h1
  simp only [Rows.uptoBulkAll, Rows.uptoBulk] at h1
  omega
end Go.Proofs.YtajobgmnmbnhiabDoor.Sap
