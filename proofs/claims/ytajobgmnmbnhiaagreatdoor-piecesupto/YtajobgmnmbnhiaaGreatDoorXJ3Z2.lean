/- WHAT IS PROVED HERE: saplingkeep's Pieces answers true over any program that keeps an invariant of the world (Good) which lets each piece of a Scan be what the map had. Conditions: those of Good; the script has at most a million turns. -/
import Derived.Test.YtajobgmnmbnhiaaGreatDoorRows
import Derived.Test.YtajobgmnmbnhiaaGreatDoorXN5N7
import Derived.Test.YtajobgmnmbnhiaaGreatDoorXJ2P3
import Derived.Deep.Slices
import Derived.OpenShut
namespace Go.Proofs.YtajobgmnmbnhiaaGreatDoor.Sap
open Go.RowKit

/-- The answer of a Scan that has ended: m + 1 pieces; below b it has looked; sn: how many keys were seen ahead of each piece. -/
structure PcsOk0 (x : Wd) (d : Dd) (m : Nat) (bel pts : List Int) (b : Int) (sn : Nat → Nat) : Prop where
  er : d.er = 0
  fd : d.fd = decide (0 < d.ks.length)
  va : d.va = d.ks.length
  cs : d.cs = bel.zip pts
  bl : bel.length = m + 1
  pl : pts.length = m + 1
  mm : m ≤ 1000000
  ks : d.ks.length = d.vs.length
  s0 : sn 0 = 0
  sE : sn (m + 1) = d.ks.length
  fE : fromV bel d.key (m + 1) = b
  pt : pts.getLast? = some d.pt
  pa : ∀ i, i < m + 1 → ∃ p be k, ∀ o', o'.Perm (tkL x.ds) → Srt o' → PcR (tabO (ahead o' (d.ts[p]?.getD 0))).1 (tabO (ahead o' (d.ts[p]?.getD 0))).2 d.ks d.vs d.key d.v bel pts d.ts sn i p be k
  ri : ∀ i, i + 1 < d.ks.length → d.ks[i]?.getD 0 < d.ks[i + 1]?.getD 0
  bb : d.key + 1 ≤ b ∧ b ≤ d.v + 1
  h12 : d.ks.length ≤ 12
  nd : (d.ks.length = 12 ∧ b = d.ks.getLast?.getD 0 + 1) ∨ (d.ks.length < 12 ∧ b = d.v + 1)
  v0 : 0 ≤ d.v
  v1 : d.v ≤ 9999
  k0 : 0 ≤ d.key
def PcsOk (x : Wd) (d : Dd) : Prop := ∃ m bel pts b sn, PcsOk0 x d m bel pts b sn

set_option maxRecDepth 100000 in
set_option maxHeartbeats 6400000 in
theorem pieces_gen (sv : Value) (ts : List Tn) (Inv : Nat → Wd → Prop) (rk : Nat → Wd → Nat) (w : World) (htab : Tab w) (hT : TRd w sv ts) (hok : ∀ t ∈ ts, t.ok) (hlen : ts.length ≤ 1048576) (G : Good Inv rk)
    (hSin : ∀ gw x, Inv gw x → (∀ c, c < 64 → x.bs[c]? = some (-1)) → x.now ≤ 90000000 → ∀ d ∈ x.ds, d.k = 4 → PcsOk x d) :
    Calls Tryz.prog 6 #[sv] w fun e w' => e = .returned (.bool true) ∧ Below w.heap.size w w' := by
  have HT := hideIt hT
  have HOK := hideIt hok
  have HL := hideIt hlen
  have HG := hideIt G
  have HSI := hideIt hSin
  obtain ⟨ao, cap, rfl, -⟩ := hT
  obtain ⟨Pv, Pb, hpv, hp0⟩ := G.pv w htab
  have CP := hideIt (proved_gen Pv Pb w hpv hp0)
  clear hok hlen G hpv hp0 hSin
  go_enter Tryz.func6, Tryz.ntmps6
  go_wp2_with fail
  refine CP.out.mono ?_
  rintro e w1 ⟨rfl, hb1⟩
  have HB1 := hideIt hb1
  have HMC := hideIt (HG.out.mc w1 (htab.below hb1))
  have CQ := hideIt (play_gen _ ts (Inv w1.heap.size) rk w1 (HT.out.below hb1) HOK.out HL.out HMC.out (HG.out.ini w1.heap.size))
  clear hb1 CP HT
  go_wp2_with fail
  refine CQ.out.mono ?_
  rintro e w2 ⟨rfl, x, hI, hn, hd, hM⟩
  have CS := hideIt (HMC.out.settle x w2 [] hI (by have := HL.out; omega) hM)
  have HN := hideIt hn
  have HD := hideIt hd
  clear CQ hI hn hM hd
  go_wp2_with fail
  refine CS.out.mono ?_
  rintro e w3 ⟨⟨u, rfl⟩, x3, hI3, hid3, hn3, hd3, hM3⟩
  have hg : Hid (x3.gw = w1.heap.size) := HMC.out.pg x3 hI3
  have HS3 := hideIt (HSI.out _ x3 hI3 hid3 (by have := HL.out; have := HN.out; omega))
  have HV3 := hideIt (HG.out.over _ x3 hI3 hid3 (by have := HL.out; have := HN.out; omega))
  obtain ⟨n, hnn⟩ : ∃ n, x3.ds.length = n := ⟨_, rfl⟩
  have HNN := hideIt hnn
  have HN6 : Hid (n ≤ 1048576) := by unfold Hid; have := HL.out; have := HD.out; omega
  have A0 := hideIt (M.snocNil (e := 109) (z := 4) hM3)
  have HOv := hideIt (HG.out.ov _ x3 hI3)
  clear CS hI3 hM3 hid3 hn3 hd3 hnn
  go_wp2
  obtain ⟨gw, hgw⟩ : ∃ g, w1.heap.size = g := ⟨_, rfl⟩
  rw [hgw] at hg A0 ⊢
  have HGW := hideIt hgw
  clear hgw HMC
  have hg' := hg.out
  subst hg'
  go_loopw [5] (fun y wr => ∃ (j : Nat) (ov' : Value) (o' : List Dn), y = .int .i64 j ∧ j ≤ n ∧ Hid (OrdI { x3 with ov := ov' } o') ∧ Hid (M w1 x3.gw wr (({ x3 with ov := ov' } : Wd).as ++ [.row 109 4 ov' o'.length (dnc o')]))) (fun i _ => n - (intOf i).toNat)
  case atStart =>
    refine ⟨0, .slice none 0 0, [], rfl, by omega, Or.inl ⟨rfl, rfl⟩, ?_⟩
    have h1 := A0.out
    have e1 : ({ x3 with ov := .slice none 0 0 } : Wd) = x3 := by have := HOv.out; cases x3; simp only at this; subst this; rfl
    rw [e1]
    rw [List.append_nil] at h1
    exact h1
  case round =>
    clear A0
    obtain ⟨j, ov', o', rfl, hj, hO, hM⟩ := hrel
    have g14 := hM.out.cell (i := 0) rfl 14 (.bool false) rfl
    by_cases hlt : j < n
    · obtain ⟨d, hd⟩ : ∃ d, x3.ds[j]? = some d := ⟨_, List.getElem?_eq_getElem (by rw [HNN.out]; exact hlt)⟩
      have hj0 : (0 : Int) ≤ (j : Int) := by omega
      have hj1 : (j : Int) < (n : Int) := by omega
      have hn6 := HN6.out
      obtain ⟨dg, dc, g3, c0, d0⟩ := M.deedAt (x := { x3 with ov := ov' }) hM.out hd HNN.out
      have hmem := List.mem_of_getElem? hd
      by_cases hk : d.k = 4
      · rw [hk] at d0
        obtain ⟨m, bel, pts, b, sn, hP⟩ := HS3.out d hmem hk
        have CS := hideIt (pieces_at { x3 with ov := ov' } d o' j m [] w1 wr x3.gw bel pts b sn hd HV3.out (by show x3.ds.length ≤ _; rw [HNN.out]; omega) hO.out hM.out hP.er hP.fd hP.va hP.cs hP.bl hP.pl hP.mm hP.ks hP.s0 hP.sE hP.fE hP.pt hP.pa hP.ri hP.bb hP.h12 hP.nd hP.v0 hP.v1 hP.k0)
        clear hM hd hmem hk hP
        go_wp2_with fail
        refine CS.out.mono ?_
        rintro e w4 ⟨rfl, ov2, o2, hO2, hM2⟩
        have HM2 := hideIt hM2
        have HO2 := hideIt hO2
        clear CS hO2 hM2 d0 c0 g3 g14
        go_wp2
        go_roundw
        case rel => exact ⟨j + 1, ov2, o2, by go_num, by omega, HO2.out, HM2.out⟩
        case measure => simp [intOf]; omega
      · have hkb : (d.k == 4) = false := by simp [hk]
        have HM2 := hideIt hM.out
        clear hM hd hmem hk
        go_wp2
        go_roundw
        case rel => exact ⟨j + 1, ov', o', by go_num, by omega, hO.out, HM2.out⟩
        case measure => simp [intOf]; omega
    · obtain rfl : j = n := by omega
      obtain ⟨da, dc, hdv⟩ := As.form0 (hM.out.get (i := 2) rfl)
      rw [show ({ x3 with ov := ov' } : Wd).dv = x3.dv from rfl, show ({ x3 with ov := ov' } : Wd).ds.length = j from HNN.out] at hdv
      have g3 := hM.out.cell (i := 0) rfl 3 x3.dv rfl
      rw [hdv] at g3
      have HB3 := hideIt (step HB1.out (by have := hM.out.bl; rw [← HGW.out] at this; exact this))
      clear hM
      go_wp2
      go_ret
      exact ⟨rfl, HB3.out⟩
end Go.Proofs.YtajobgmnmbnhiaaGreatDoor.Sap

/- WHAT IS PROVED HERE: a script that is handed in lies in memory as a list of turns; where what is handed in is of bulk at most 1048576, it has at most as many turns. Conditions: named at each theorem. -/
namespace Go.Proofs.YtajobgmnmbnhiaaGreatDoor.Sap
open Go.RowKit Go.ChangeShapes Go.WideShapes Go.Deep

theorem cellsTurn : Tryz.prog.cellsOf 84 = 5 := by kernel_rfl
theorem cellsOp : Tryz.prog.cellsOf 36 = 3 := by kernel_rfl
theorem cellsI : Tryz.prog.cellsOf 3 = 1 := by kernel_rfl
theorem i64_of {n : Int} (h : (Lit.int .i64 n).wf = true) : I64 n := by
  simpa [I64, Lit.wf, IntKind.min, IntKind.max, IntKind.signed, IntKind.bits] using h

theorem list5s {α : Type} {l : List α} (h : l.length = 5) : ∃ a b c d e, l = [a, b, c, d, e] := by
  match l, h with
  | [a, b, c, d, e], _ => exact ⟨a, b, c, d, e, rfl⟩
theorem list3s {α : Type} {l : List α} (h : l.length = 3) : ∃ a b c, l = [a, b, c] := by
  match l, h with
  | [a, b, c], _ => exact ⟨a, b, c, rfl⟩

/-- The five cells of a turn. -/
theorem turn_in {H : Type} {enc : TypeId × Value → H} {W : World} {base : Nat} {fuel : Nat} {cs : List Value} {x : DataW H × List MemPlace} {sp : Nat → Bool}
    (h : DataW.trod enc Tryz.prog W base sp true fuel 84 cs = some x) : ∃ t : Tn, t.ok ∧ cs = [.int .i64 t.cl, .int .i64 t.k, .int .i64 t.key, .int .i64 t.v, .int .i64 t.mv] := by
  obtain ⟨xs, m, -, -, hl, hlen, hf⟩ := DataW.trod_struct Tryz.underlying84 h
  rw [cellsTurn] at hl
  obtain ⟨c0, c1, c2, c3, c4, rfl⟩ := list5s hl
  obtain ⟨y0, y1, y2, rfl⟩ := list3s (l := xs) hlen
  have f0 : DataW.trod enc Tryz.prog W base sp true m 3 (List.take (Tryz.prog.cellsOf 3) [c0, c1, c2, c3, c4]) = some y0 := hf 0 _ rfl
  have f1 : DataW.trod enc Tryz.prog W base sp true m 36 (List.take (Tryz.prog.cellsOf 36) [c1, c2, c3, c4]) = some y1 := hf 1 _ rfl
  have f2 : DataW.trod enc Tryz.prog W base sp true m 3 (List.take (Tryz.prog.cellsOf 3) [c4]) = some y2 := hf 2 _ rfl
  rw [cellsI] at f0 f2
  rw [cellsOp] at f1
  obtain ⟨cl, e0, -, w0⟩ := DataW.trod_int Tryz.underlying3 f0
  obtain ⟨mv, e4, -, w4⟩ := DataW.trod_int Tryz.underlying3 f2
  obtain ⟨zs, m2, -, -, -, hlen2, hg⟩ := DataW.trod_struct Tryz.underlying36 f1
  obtain ⟨z0, z1, z2, rfl⟩ := list3s (l := zs) hlen2
  have g0 : DataW.trod enc Tryz.prog W base sp true m2 3 (List.take (Tryz.prog.cellsOf 3) [c1, c2, c3]) = some z0 := hg 0 _ rfl
  have g1 : DataW.trod enc Tryz.prog W base sp true m2 3 (List.take (Tryz.prog.cellsOf 3) [c2, c3]) = some z1 := hg 1 _ rfl
  have g2 : DataW.trod enc Tryz.prog W base sp true m2 3 (List.take (Tryz.prog.cellsOf 3) [c3]) = some z2 := hg 2 _ rfl
  rw [cellsI] at g0 g1 g2
  obtain ⟨k, e1, -, w1⟩ := DataW.trod_int Tryz.underlying3 g0
  obtain ⟨key, e2, -, w2⟩ := DataW.trod_int Tryz.underlying3 g1
  obtain ⟨v, e3, -, w3⟩ := DataW.trod_int Tryz.underlying3 g2
  simp only [List.take_succ_cons, List.take_zero, List.cons.injEq, and_true] at e0 e1 e2 e3 e4
  subst e0 e1 e2 e3 e4
  exact ⟨⟨cl, k, key, v, mv⟩, ⟨i64_of w0, i64_of w1, i64_of w2, i64_of w3, i64_of w4⟩, rfl⟩

/-- A script that is handed in. -/
theorem script_in {H : Type} {enc : TypeId × Value → H} {W : World} {base : Nat} {fuel : Nat} {c : Value} {x : DataW H × List MemPlace} {sp : Nat → Bool}
    (h : DataW.trod enc Tryz.prog W base sp true fuel 59 [c] = some x) :
    ∃ ts : List Tn, TRd W c ts ∧ (∀ t ∈ ts, t.ok) ∧ (ts = [] ∨ ∃ e s, x.1 = .slice e s ∧ ts.length = e.length) := by
  rcases open_slice Tryz.underlying59 h with ⟨hc, -⟩ | ⟨a, len, cap, m, n, D, Pl, hc, -, hlc, -, hm, hx, hel⟩
  · simp only [List.cons.injEq, and_true] at hc
    subst hc
    exact ⟨[], ⟨none, 0, rfl, fun hp => absurd hp (by decide)⟩, fun t ht => (by cases ht), Or.inl rfl⟩
  · simp only [List.cons.injEq, and_true] at hc
    subst hc
    have hlm : len ≤ m := by rw [hm]; split <;> omega
    haveI : Inhabited Tn := ⟨⟨0, 0, 0, 0, 0⟩⟩
    obtain ⟨f, hf⟩ := choose_lt (α := Tn) (n := len) (p := fun i t => t.ok ∧ W.cell? (a.add (i * 5)) = some (.int .i64 t.cl) ∧ W.cell? (a.add (i * 5 + 1)) = some (.int .i64 t.k) ∧ W.cell? (a.add (i * 5 + 2)) = some (.int .i64 t.key) ∧ W.cell? (a.add (i * 5 + 3)) = some (.int .i64 t.v) ∧ W.cell? (a.add (i * 5 + 4)) = some (.int .i64 t.mv)) (fun i hi => by
      obtain ⟨cs', h1, h2⟩ := hel i (by omega)
      rw [cellsTurn] at h1
      obtain ⟨-, -, hcell⟩ := World.cells?_some h1
      obtain ⟨t, hok, rfl⟩ := turn_in h2
      have e0 := hcell 0 (by omega)
      have e1 := hcell 1 (by omega)
      have e2 := hcell 2 (by omega)
      have e3 := hcell 3 (by omega)
      have e4 := hcell 4 (by omega)
      rw [add_add] at e0 e1 e2 e3 e4
      exact ⟨t, hok, e0, e1, e2, e3, e4⟩)
    refine ⟨(List.range len).map f, ⟨some a, cap, by rw [List.length_map, List.length_range], fun hp => ?_⟩, fun t ht => ?_, Or.inr ⟨_, _, by rw [hx], by rw [List.length_map, List.length_map]⟩⟩
    · rw [List.length_map, List.length_range] at hp
      obtain ⟨b, off, spot⟩ := a
      have hspot : spot = none := by simpa [Addr.add] using World.cell?_spot (hf 0 hp).2.1
      subst hspot
      refine ⟨b, off, rfl, fun j t hj => ?_⟩
      have hjl : j < len := by have := (List.getElem?_eq_some_iff.1 hj).1; rw [List.length_map, List.length_range] at this; exact this
      obtain rfl : f j = t := by rw [List.getElem?_map, List.getElem?_range hjl] at hj; exact Option.some.inj hj
      have := (hf j hjl).2
      simp only [add_plain] at this
      simpa only [Nat.add_assoc] using this
    · obtain ⟨j, hj, rfl⟩ := List.mem_map.1 ht
      exact (hf j (List.mem_range.1 hj)).1

/-- How many turns, where the bulk is bound. -/
theorem bulk_one {H : Type} (d : DataW H) : 1 ≤ Rows.uptoBulk d := by
  cases d with
  | lit l => cases l <;> simp [Rows.uptoBulk]
  | nil => simp [Rows.uptoBulk]
  | ptr d => simp [Rows.uptoBulk]
  | slice elems spare => simp [Rows.uptoBulk]
  | agg parts => simp [Rows.uptoBulk]
  | iface t d => simp [Rows.uptoBulk]
  | map entries => simp [Rows.uptoBulk]
  | held h => simp [Rows.uptoBulk]
theorem bulk_len {H : Type} (l : List (DataW H)) : l.length ≤ Rows.uptoBulkAll l := by
  induction l with
  | nil => simp [Rows.uptoBulkAll]
  | cons x r ih => have := bulk_one x; simp only [Rows.uptoBulkAll, List.length_cons]; omega
theorem bulk_slice {H : Type} {d : DataW H} {r : List (DataW H)} {e s : List (DataW H)} (hd : d = .slice e s) (hk : Rows.uptoSmall H (d :: r) = true) : e.length ≤ 1048576 := by
  have h1 := of_decide_eq_true hk
  have h2 := bulk_len e
  rw [hd] at h1
  simp only [Rows.uptoBulkAll, Rows.uptoBulk] at h1
  omega
end Go.Proofs.YtajobgmnmbnhiaaGreatDoor.Sap
