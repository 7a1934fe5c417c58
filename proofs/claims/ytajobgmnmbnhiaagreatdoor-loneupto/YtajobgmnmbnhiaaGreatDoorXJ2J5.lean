/- WHAT IS PROVED HERE: saplingkeep's Honest and Linear answer true over any program that keeps an invariant of the world (Good) which lets the answers be a plain map's. Conditions: those of Good; the script has at most a million turns. -/
import Derived.Test.YtajobgmnmbnhiaaGreatDoorXK4K5
import Derived.Test.YtajobgmnmbnhiaaGreatDoorXK6J1
namespace Go.Proofs.YtajobgmnmbnhiaaGreatDoor.Sap
open Go.RowKit

/-- A program over which scripts are played, from the beginning: see Mc, Pvd. -/
structure Good (Inv : Nat → Wd → Prop) (rk : Nat → Wd → Nat) : Prop where
  pv : ∀ W, Tab W → ∃ Pv Pb, Pvd Pv Pb W.heap.size W W.heap.size ∧ ∀ tg tc ug uc vg vc bg bc, Pv 0 (Wd.first W.heap.size tg tc ug uc vg vc bg bc)
  mc : ∀ W, Tab W → Mc (Inv W.heap.size) rk W.heap.size W W.heap.size
  ini : ∀ gw tg tc ug uc vg vc bg bc, Inv gw (Wd.first gw tg tc ug uc vg vc bg bc)
  ov : ∀ gw x, Inv gw x → x.ov = .slice none 0 0
  over : ∀ gw x, Inv gw x → (∀ c, c < 64 → x.bs[c]? = some (-1)) → x.now ≤ 90000000 → ∀ d ∈ x.ds, d.over

/-- The world's list of operations, and one of them. -/
theorem M.deedAt {w0 w : World} {B j n : Nat} {x : Wd} {d : Dd} {fr : List As} (h : M w0 B w (x.as ++ fr)) (hd : x.ds[j]? = some d) (hn : x.ds.length = n) : ∃ dg dc, w.cell? ⟨x.gw, 3, none⟩ = some (.slice (some ⟨dg, 0, none⟩) n dc) ∧ w.cell? ⟨dg, j, none⟩ = some (.pointer (some ⟨d.gd, 0, none⟩)) ∧ w.cell? ⟨d.gd, 0, none⟩ = some (.int .i64 d.k) := by
  have hl := (List.getElem?_eq_some_iff.1 hd).1
  obtain ⟨dg, dc, hdv⟩ := As.form (h.get (i := 2) rfl) (show 0 < x.ds.length by omega)
  have g3 := h.cell (i := 0) rfl 3 x.dv rfl
  have hrow := (h.get (i := 2) rfl).own
  have hdp : (x.ds.map Dd.ptr)[j]? = some (.pointer (some ⟨d.gd, 0, none⟩)) := by rw [List.getElem?_map, hd]; rfl
  rw [hdv] at g3 hrow
  have c0 := World.ownsRow.cellAt hrow j (by omega)
  rw [hdp] at c0
  rw [hn] at g3
  have D := M.deed (pre := []) h hd
  exact ⟨dg, dc, g3, c0, D.cell (i := 0) rfl 0 (.int .i64 d.k) rfl⟩

set_option maxRecDepth 100000 in
set_option maxHeartbeats 6400000 in
theorem linear_gen (sv : Value) (ts : List Tn) (Inv : Nat → Wd → Prop) (rk : Nat → Wd → Nat) (w : World) (htab : Tab w) (hT : TRd w sv ts) (hok : ∀ t ∈ ts, t.ok) (hlen : ts.length ≤ 1048576) (G : Good Inv rk)
    (hSin : ∀ gw x, Inv gw x → (∀ c, c < 64 → x.bs[c]? = some (-1)) → x.now ≤ 90000000 → ∀ d ∈ x.ds, d.k ≠ 4 → SinOk x d) :
    Calls Tryz.prog 5 #[sv] w fun e w' => e = .returned (.bool true) ∧ Below w.heap.size w w' := by
  have HT := hideIt hT
  have HOK := hideIt hok
  have HL := hideIt hlen
  have HG := hideIt G
  have HSI := hideIt hSin
  obtain ⟨ao, cap, rfl, -⟩ := hT
  obtain ⟨Pv, Pb, hpv, hp0⟩ := G.pv w htab
  have CP := hideIt (proved_gen Pv Pb w hpv hp0)
  clear hok hlen G hpv hp0 hSin
  go_enter Tryz.func5, Tryz.ntmps5
  go_wp2_with fail
  refine CP.out.mono ?_
  rintro e w1 ⟨rfl, hb1⟩
  have HB1 := hideIt hb1
  have HMC := hideIt (HG.out.mc w1 (htab.below hb1))
  have CQ := hideIt (play_gen _ ts (Inv w1.heap.size) rk w1 (HT.out.below hb1) HOK.out HL.out HMC.out (HG.out.ini w1.heap.size))
  clear hb1 CP HT
  go_wp2_with fail
  refine CQ.out.mono ?_
  rintro e w2 ⟨rfl, x, hI, hn, hd, hM⟩
  have CS := hideIt (HMC.out.settle x w2 [] hI (by have := HL.out; omega) hM)
  have HN := hideIt hn
  have HD := hideIt hd
  clear CQ hI hn hM hd
  go_wp2_with fail
  refine CS.out.mono ?_
  rintro e w3 ⟨⟨u, rfl⟩, x3, hI3, hid3, hn3, hd3, hM3⟩
  have hg : Hid (x3.gw = w1.heap.size) := HMC.out.pg x3 hI3
  have HS3 := hideIt (HSI.out _ x3 hI3 hid3 (by have := HL.out; have := HN.out; omega))
  have HV3 := hideIt (HG.out.over _ x3 hI3 hid3 (by have := HL.out; have := HN.out; omega))
  obtain ⟨n, hnn⟩ : ∃ n, x3.ds.length = n := ⟨_, rfl⟩
  have HNN := hideIt hnn
  have HN6 : Hid (n ≤ 1048576) := by unfold Hid; have := HL.out; have := HD.out; omega
  have A0 := hideIt (M.snocNil (e := 109) (z := 4) hM3)
  have HOv := hideIt (HG.out.ov _ x3 hI3)
  clear CS hI3 hM3 hid3 hn3 hd3 hnn
  go_wp2
  obtain ⟨gw, hgw⟩ : ∃ g, w1.heap.size = g := ⟨_, rfl⟩
  rw [hgw] at hg A0 ⊢
  have HGW := hideIt hgw
  clear hgw HMC
  have hg' := hg.out
  subst hg'
  go_loopw [5] (fun y wr => ∃ (j : Nat) (ov' : Value) (o' : List Dn), y = .int .i64 j ∧ j ≤ n ∧ Hid (OrdI { x3 with ov := ov' } o') ∧ Hid (M w1 x3.gw wr (({ x3 with ov := ov' } : Wd).as ++ [.row 109 4 ov' o'.length (dnc o')]))) (fun i _ => n - (intOf i).toNat)
  case atStart =>
    refine ⟨0, .slice none 0 0, [], rfl, by omega, Or.inl ⟨rfl, rfl⟩, ?_⟩
    have h1 := A0.out
    have e1 : ({ x3 with ov := .slice none 0 0 } : Wd) = x3 := by have := HOv.out; cases x3; simp only at this; subst this; rfl
    rw [e1]
    rw [List.append_nil] at h1
    exact h1
  case round =>
    clear A0
    obtain ⟨j, ov', o', rfl, hj, hO, hM⟩ := hrel
    have g14 := hM.out.cell (i := 0) rfl 14 (.bool false) rfl
    by_cases hlt : j < n
    · obtain ⟨d, hd⟩ : ∃ d, x3.ds[j]? = some d := ⟨_, List.getElem?_eq_getElem (by rw [HNN.out]; exact hlt)⟩
      have hj0 : (0 : Int) ≤ (j : Int) := by omega
      have hj1 : (j : Int) < (n : Int) := by omega
      have hn6 := HN6.out
      obtain ⟨dg, dc, g3, c0, d0⟩ := M.deedAt (x := { x3 with ov := ov' }) hM.out hd HNN.out
      have hmem := List.mem_of_getElem? hd
      by_cases hk : d.k = 4
      · rw [hk] at d0
        have HM2 := hideIt hM.out
        clear hM hd hmem
        go_wp2
        go_roundw
        case rel => exact ⟨j + 1, ov', o', by go_num, by omega, hO.out, HM2.out⟩
        case measure => simp [intOf]; omega
      · have hkb : (d.k == 4) = false := by simp [hk]
        have CS := hideIt (single_any { x3 with ov := ov' } d o' j [] w1 wr x3.gw hd HV3.out (by show x3.ds.length ≤ _; rw [HNN.out]; omega) hO.out hM.out (by have h9 := HS3.out d hmem hk; exact ⟨h9.ks, h9.vs, h9.cs, h9.an⟩))
        clear hM hd hmem hk
        go_wp2_with fail
        refine CS.out.mono ?_
        rintro e w4 ⟨rfl, ov2, o2, hO2, hM2⟩
        have HM2 := hideIt hM2
        have HO2 := hideIt hO2
        clear CS hO2 hM2 d0 c0 g3 g14
        go_wp2
        go_roundw
        case rel => exact ⟨j + 1, ov2, o2, by go_num, by omega, HO2.out, HM2.out⟩
        case measure => simp [intOf]; omega
    · obtain rfl : j = n := by omega
      obtain ⟨da, dc, hdv⟩ := As.form0 (hM.out.get (i := 2) rfl)
      rw [show ({ x3 with ov := ov' } : Wd).dv = x3.dv from rfl, show ({ x3 with ov := ov' } : Wd).ds.length = j from HNN.out] at hdv
      have g3 := hM.out.cell (i := 0) rfl 3 x3.dv rfl
      rw [hdv] at g3
      have HB3 := hideIt (step HB1.out (by have := hM.out.bl; rw [← HGW.out] at this; exact this))
      clear hM
      go_wp2
      go_ret
      exact ⟨rfl, HB3.out⟩
end Go.Proofs.YtajobgmnmbnhiaaGreatDoor.Sap

/- WHAT IS PROVED HERE: saplingkeep's levels, ask and Calm over any program that keeps an invariant of the world (Good), over which a Get that moves alone has as many accesses as there are levels. Conditions: those of Good, and what the Get does (AskOk); the script has at most a million turns. -/
namespace Go.Proofs.YtajobgmnmbnhiaaGreatDoor.Sap
open Go.RowKit

/-- The pages that a world has in memory. -/
theorem M.pages {w0 W : World} {B : Nat} {x : Wd} {fr : List As} (h : M w0 B W (x.as ++ fr)) : PgR x.gw x.tg x.tc x.ug x.uc x.T x.U W := by
  refine ⟨h.cell (i := 0) rfl 0 _ rfl, h.cell (i := 0) rfl 1 _ rfl, fun p hp => ?_⟩
  have h1 := (h.get (i := 3) rfl).own.1
  have h2 := (h.get (i := 4) rfl).own.1
  simp [strs] at h1
  simp [bools] at h2
  have ht : x.T[p]? = some (x.T[p]'(by omega)) := List.getElem?_eq_getElem (by omega)
  have hu : x.U[p]? = some (x.U[p]'(by omega)) := List.getElem?_eq_getElem (by omega)
  exact ⟨_, _, ht, hu, h.rowCell (i := 3) rfl p _ (strs_get ht), h.rowCell (i := 4) rfl p _ (bools_get hu)⟩

set_option maxRecDepth 100000 in
set_option maxHeartbeats 3200000 in
theorem levels_any (gw tg tc ug uc : Nat) (T : List ByteArray) (U : List Bool) (n : Nd) (w : World) (h : PgR gw tg tc ug uc T U w) (hs : Says T U 0 n) :
    Calls Tryz.prog 16 #[.pointer (some ⟨gw, 0, none⟩)] w fun e w' => e = .returned (.int .i64 (n.lv + 1)) ∧ Below w.heap.size w w' := by
  obtain ⟨hp, hu, t, ht, hn⟩ := hs
  obtain ⟨c0, c1, c2⟩ := h
  obtain ⟨t', b, a1, a2, a3, a4⟩ := c2 0 hp
  rw [ht] at a1; cases a1
  have hsz := size_of_unp ⟨n, hn⟩
  have hlv : 0 ≤ n.lv ∧ n.lv ≤ 9 := by
    have := hn.1
    simp only [rightB, Bool.and_eq_true, decide_eq_true_eq] at this
    omega
  have HN := hideIt hn
  clear c1 c2 a4 a2 ht hu hn
  go_enter Tryz.func16, Tryz.ntmps16
  go_wp2_with fail
  refine (unpack_any t _ (by omega)).mono ?_
  rintro e w2 ⟨hR, hb⟩
  rcases hR with ⟨n', kv, vv, hn', hO, rfl⟩ | ⟨hno, -⟩
  case inr => exact absurd HN.out (hno n)
  obtain rfl : n' = n := hn'.uniq HN.out
  have A1 := hO.m hb
  obtain ⟨ka, kc, rfl⟩ := As.form0 (A1.get (i := 0) rfl)
  obtain ⟨va, vc, rfl⟩ := As.form0 (A1.get (i := 1) rfl)
  have HB := hideIt (step hb ((Below.refl w2.heap.size w2).alloc (Nat.le_refl _) (.cells #[.int .i64 n'.lv, .int .i64 n'.lk, .int .i64 n'.hi, .slice ka n'.ks.length kc, .slice va n'.vs.length vc] 67)))
  clear hO hb hn' A1 a3 c0 HN
  go_wp2
  go_ret
  exact ⟨rfl, HB.out⟩

/-- What a Get of a key does that moves alone over a world in which nobody is under way. -/
structure AskOk (Inv : Nat → Wd → Prop) (Gb : Nat → Int → Wd → Prop) (w0 : World) : Prop where
  bg : ∀ x (key : Int) W (fr : List As), Inv w0.heap.size x → (∀ c, c < 64 → x.bs[c]? = some (-1)) → x.now ≤ 89000000 → x.ds.length ≤ 89000000 → 1 ≤ key → key ≤ 9999 → M w0 w0.heap.size W (x.as ++ fr) → Calls Tryz.prog 10 #[.pointer (some ⟨w0.heap.size, 0, none⟩), .int .i64 0, .agg #[.int .i64 1, .int .i64 key, .int .i64 0]] W fun e w' => (∃ u, e = .returned u) ∧ ∃ x', Gb w0.heap.size key x' ∧ M w0 w0.heap.size w' (x'.as ++ fr)
  pb : ∀ x key, Gb w0.heap.size key x → x.gw = w0.heap.size
  al : ∀ x (key : Int) W (fr : List As), Gb w0.heap.size key x → M w0 w0.heap.size W (x.as ++ fr) → Calls Tryz.prog 11 #[.pointer (some ⟨w0.heap.size, 0, none⟩), .int .i64 0] W fun e w' => (∃ u, e = .returned u) ∧ ∃ (x' : Wd) (n : Nat) (d : Dd) (nd : Nd), x'.gw = w0.heap.size ∧ x'.ds.length = n + 1 ∧ n ≤ 90000000 ∧ x'.ds[n]? = some d ∧ d.er = 0 ∧ Says x'.T x'.U 0 nd ∧ (x'.rf = true ∨ ((d.ts.length : Int) = nd.lv + 1 ∧ d.pt = nd.lv)) ∧ M w0 w0.heap.size w' (x'.as ++ fr)

/-- What ask leaves. -/
def AskQ (gw : Nat) (x : Wd) (d : Dd) : Prop := ∃ (n : Nat) (nd : Nd), x.gw = gw ∧ x.ds[n]? = some d ∧ d.er = 0 ∧ Says x.T x.U 0 nd ∧ (x.rf = true ∨ ((d.ts.length : Int) = nd.lv + 1 ∧ d.pt = nd.lv))

end Go.Proofs.YtajobgmnmbnhiaaGreatDoor.Sap

/- WHAT IS PROVED HERE: saplingkeep's Calm answers true over any program that keeps an invariant of the world (Good), over which a Get that moves alone has as many accesses as there are levels (AskOk). Conditions: those of Good and AskOk; the script has at most a million turns. -/
namespace Go.Proofs.YtajobgmnmbnhiaaGreatDoor.Sap
open Go.RowKit

end Go.Proofs.YtajobgmnmbnhiaaGreatDoor.Sap
