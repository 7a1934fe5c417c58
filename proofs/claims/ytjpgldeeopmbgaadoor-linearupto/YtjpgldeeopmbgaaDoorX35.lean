/- WHAT IS PROVED HERE: saplingkeep's single answers true of a Get, Put or Drop that has ended as it should, held against the map of its time. Conditions: all operations have ended; what is asked of its answer is named at the theorem (SinOk). -/
import Derived.Test.YtjpgldeeopmbgaaDoorRows
import Derived.Test.YtjpgldeeopmbgaaDoorX31
import Derived.Test.YtjpgldeeopmbgaaDoorX32
import Derived.Deep.Slices
import Derived.OpenShut
namespace Go.Proofs.YtjpgldeeopmbgaaDoor.Sap
open Go.RowKit

/-- The answer of a Get, Put or Drop that has ended is what a map answers that those ahead of it have made; or it was refused. -/
structure SinOk (x : Wd) (d : Dd) : Prop where
  ks : d.ks = []
  vs : d.vs = []
  cs : d.cs = []
  an : (d.er = 4 ∧ d.k = 2 ∧ d.fd = false ∧ d.va = 0) ∨ (d.er = 0 ∧ ∀ o', o'.Perm (tkL x.ds) → Srt o' → ∀ fd v, ValR (tabO (ahead o' (d.ts[d.pt.toNat]?.getD 0))).1 (tabO (ahead o' (d.ts[d.pt.toNat]?.getD 0))).2 d.key fd v → d.fd = fd ∧ d.va = v)

set_option maxRecDepth 100000 in
set_option maxHeartbeats 6400000 in
theorem single_any (x : Wd) (d : Dd) (o : List Dn) (i0 : Nat) (fr : List As) (w0 w : World) (B : Nat) (hd : x.ds[i0]? = some d) (hov : ∀ d ∈ x.ds, d.over) (hnd : x.ds.length ≤ 100000000) (hO : OrdI x o)
    (h : M w0 B w (x.as ++ (.row 119 4 x.ov o.length (dnc o) :: fr))) (hS : SinOk x d) :
    Calls Tryd.prog 38 #[.pointer (some ⟨x.gw, 0, none⟩), .pointer (some ⟨d.gd, 0, none⟩)] w fun e w' => e = .returned (.bool true) ∧ ∃ ov' o', OrdI { x with ov := ov' } o' ∧ M w0 B w' (({ x with ov := ov' } : Wd).as ++ (.row 119 4 ov' o'.length (dnc o') :: fr)) := by
  have D := M.deed (pre := []) h hd
  have d0 := D.cell (i := 0) rfl 0 (.int .i64 d.k) rfl
  have d8 := D.cell (i := 0) rfl 8 (.int .i64 d.er) rfl
  have d9 := D.cell (i := 0) rfl 9 (.bool d.fd) rfl
  have d10 := D.cell (i := 0) rfl 10 (.int .i64 d.va) rfl
  have d11 := D.cell (i := 0) rfl 11 (.int .i64 d.pt) rfl
  have d12 := D.cell (i := 0) rfl 12 d.kv rfl
  have d13 := D.cell (i := 0) rfl 13 d.vv rfl
  have d14 := D.cell (i := 0) rfl 14 d.cv rfl
  obtain ⟨ak, ck, hkv⟩ := As.form0 (D.get (i := 9) rfl)
  obtain ⟨av, cv, hvv⟩ := As.form0 (D.get (i := 10) rfl)
  obtain ⟨ac, cc, hcv⟩ := As.form0 (D.get (i := 11) rfl)
  rw [hkv, hS.ks, List.length_nil] at d12
  rw [hvv, hS.vs, List.length_nil] at d13
  rw [hcv, hS.cs, List.length_nil] at d14
  obtain ⟨-, p, hpt, hp, -⟩ := hov d (List.mem_of_getElem? hd)
  rw [hpt] at d11
  have hpn : d.pt.toNat = p := by omega
  have hdsz : d.gd < w.heap.size := lt_of_cell d8
  have P0 : PS x w.heap.size #[.int .i64 d.er, .bool d.fd, .int .i64 d.va, .int .i64 p, .slice ak 0 ck, .slice av 0 cv, .slice ac 0 cc] fr w0 B (w.alloc (.cells #[.int .i64 d.er, .bool d.fd, .int .i64 d.va, .int .i64 p, .slice ak 0 ck, .slice av 0 cv, .slice ac 0 cc] 66)) := by
    refine ⟨x.ov, o, hO, ?_⟩
    refine (h.alloc _ _).perm ?_
    refine (List.Perm.append_left _ (List.Perm.swap _ _ _)).trans ?_
    exact List.perm_middle
  have HP0 := hideIt P0
  have HOV := hideIt hov
  have HD := hideIt hd
  have hAN := hS.an
  rw [hpn] at hAN
  have HPP := hideIt hp
  obtain ⟨gd, hgd⟩ : ∃ y, d.gd = y := ⟨_, rfl⟩
  have HGD := hideIt hgd
  rw [hgd] at d0 d8 d9 d10 d11 d12 d13 d14 hdsz ⊢
  clear h hS P0 hov hd D hpn hp hpt hkv hvv hcv hgd hO
  rcases hAN with ⟨her, hk2, hfd, hva⟩ | ⟨her, hAN⟩
  · rw [her] at d8 HP0
    rw [hfd] at d9 HP0
    rw [hva] at d10 HP0
    rw [hk2] at d0
    go_enter Tryd.func38, Tryd.ntmps38
    go_wp2_with fail
    obtain ⟨⟨-, -, f4⟩, -, -, f7, -⟩ := HP0.out.facts HD.out
    rw [HGD.out] at f4
    refine (point_yes gd d.tm d.ts p _ f4 f7 HPP.out).mono ?_
    clear f4 f7
    rintro e w1 ⟨rfl, hb⟩
    have HP1 := hideIt (HP0.out.below hb)
    clear hb HP0 d8 d9 d10 d11 d12 d13 d14
    have a0 := HP1.out.ans 0 (.int .i64 4) rfl
    have a1 := HP1.out.ans 1 (.bool false) rfl
    have a2 := HP1.out.ans 2 (.int .i64 0) rfl
    have a4 := HP1.out.ans 4 (.slice ak 0 ck) rfl
    have a5 := HP1.out.ans 5 (.slice av 0 cv) rfl
    have a6 := HP1.out.ans 6 (.slice ac 0 cc) rfl
    generalize w.heap.size = ga at HP1 a0 a1 a2 a4 a5 a6 ⊢
    have d0 : w1.cell? ⟨gd, 0, none⟩ = some (.int .i64 2) := by
      obtain ⟨ov', o', -, h2⟩ := HP1.out
      have D := M.deed (pre := []) (x := { x with ov := ov' }) h2 HD.out
      have := D.cell (i := 0) rfl 0 (.int .i64 d.k) rfl
      rw [HGD.out, hk2] at this
      exact this
    clear hk2 hfd hva her
    go_wp2
    go_ret
    refine ⟨rfl, ?_⟩
    obtain ⟨ov', o', h1, h2⟩ := HP1.out
    exact ⟨ov', o', h1, h2.sub (List.Sublist.append (List.Sublist.refl _) (List.Sublist.cons_cons _ (List.sublist_cons_self _ _)))⟩
  · rw [her] at d8 HP0
    go_enter Tryd.func38, Tryd.ntmps38
    go_wp2_with fail
    obtain ⟨⟨-, -, f4⟩, -, -, f7, -⟩ := HP0.out.facts HD.out
    rw [HGD.out] at f4
    refine (point_yes gd d.tm d.ts p _ f4 f7 HPP.out).mono ?_
    clear f4 f7
    rintro e w1 ⟨rfl, hb⟩
    have HP1 := hideIt (HP0.out.below hb)
    clear hb HP0 d8 d9 d10 d11 d12 d13 d14
    have a0 := HP1.out.ans 0 (.int .i64 0) rfl
    have a1 := HP1.out.ans 1 (.bool d.fd) rfl
    have a2 := HP1.out.ans 2 (.int .i64 d.va) rfl
    have a4 := HP1.out.ans 4 (.slice ak 0 ck) rfl
    have a5 := HP1.out.ans 5 (.slice av 0 cv) rfl
    have a6 := HP1.out.ans 6 (.slice ac 0 cc) rfl
    generalize w.heap.size = ga at HP1 a0 a1 a2 a4 a5 a6 ⊢
    have HAN := hideIt hAN
    clear her hAN d0
    go_wp2_with fail
    refine (HP1.out.at _ HOV.out hnd).mono ?_
    rintro e w2 ⟨gt, rfl, o', ho1, ho2, hP2, ⟨tk, tv, t0, t1, hK, hV⟩, hl1, hl2⟩
    have HP2 := hideIt hP2
    have HO' := hideIt (HAN.out o' ho1 ho2)
    have a1 := HP2.out.ans 1 (.bool d.fd) rfl
    have a2 := HP2.out.ans 2 (.int .i64 d.va) rfl
    obtain ⟨⟨f1, -, -⟩, -, -, -, -⟩ := HP2.out.facts HD.out
    rw [HGD.out] at f1
    have CV := hideIt (value_any gt tk tv _ _ d.key w2 t0 t1 hK hV (by omega) hl1)
    clear HP1 ho1 ho2 hP2 hK hV hl1 hl2 t0 t1 HAN a0 a4 a5 a6
    go_wp2_with fail
    refine CV.out.mono ?_
    rintro e w3 ⟨fd, v, rfl, hv, hb⟩
    obtain ⟨e1, e2⟩ := HO'.out fd v hv
    subst e1 e2
    have HP3 := hideIt (HP2.out.below hb)
    have a1 := HP3.out.ans 1 (.bool d.fd) rfl
    have a2 := HP3.out.ans 2 (.int .i64 d.va) rfl
    clear CV HP2 HO' hv hb f1
    go_wp2
    go_ret
    refine ⟨rfl, ?_⟩
    obtain ⟨ov', o', h1, h2⟩ := HP3.out
    exact ⟨ov', o', h1, h2.sub (List.Sublist.append (List.Sublist.refl _) (List.Sublist.cons_cons _ (List.sublist_cons_self _ _)))⟩
end Go.Proofs.YtjpgldeeopmbgaaDoor.Sap

/- WHAT IS PROVED HERE: saplingkeep's Honest and Linear answer true over any program that keeps an invariant of the world (Good) which lets the answers be a plain map's. Conditions: those of Good; the script has at most a million turns. -/
namespace Go.Proofs.YtjpgldeeopmbgaaDoor.Sap
open Go.RowKit

/-- A program over which scripts are played, from the beginning: see Mc, Pvd. -/
structure Good (Inv : Nat → Wd → Prop) (rk : Nat → Wd → Nat) : Prop where
  pv : ∀ W, Tab W → ∃ Pv Pb, Pvd Pv Pb W.heap.size W W.heap.size ∧ ∀ tg tc ug uc vg vc bg bc, Pv 0 (Wd.first W.heap.size tg tc ug uc vg vc bg bc)
  mc : ∀ W, Tab W → Mc (Inv W.heap.size) rk W.heap.size W W.heap.size
  ini : ∀ gw tg tc ug uc vg vc bg bc, Inv gw (Wd.first gw tg tc ug uc vg vc bg bc)
  ov : ∀ gw x, Inv gw x → x.ov = .slice none 0 0
  over : ∀ gw x, Inv gw x → (∀ c, c < 64 → x.bs[c]? = some (-1)) → x.now ≤ 90000000 → ∀ d ∈ x.ds, d.over

/-- The world's list of operations, and one of them. -/
theorem M.deedAt {w0 w : World} {B j n : Nat} {x : Wd} {d : Dd} {fr : List As} (h : M w0 B w (x.as ++ fr)) (hd : x.ds[j]? = some d) (hn : x.ds.length = n) : ∃ dg dc, w.cell? ⟨x.gw, 3, none⟩ = some (.slice (some ⟨dg, 0, none⟩) n dc) ∧ w.cell? ⟨dg, j, none⟩ = some (.pointer (some ⟨d.gd, 0, none⟩)) ∧ w.cell? ⟨d.gd, 0, none⟩ = some (.int .i64 d.k) := by
  have hl := (List.getElem?_eq_some_iff.1 hd).1
  obtain ⟨dg, dc, hdv⟩ := As.form (h.get (i := 2) rfl) (show 0 < x.ds.length by omega)
  have g3 := h.cell (i := 0) rfl 3 x.dv rfl
  have hrow := (h.get (i := 2) rfl).own
  have hdp : (x.ds.map Dd.ptr)[j]? = some (.pointer (some ⟨d.gd, 0, none⟩)) := by rw [List.getElem?_map, hd]; rfl
  rw [hdv] at g3 hrow
  have c0 := World.ownsRow.cellAt hrow j (by omega)
  rw [hdp] at c0
  rw [hn] at g3
  have D := M.deed (pre := []) h hd
  exact ⟨dg, dc, g3, c0, D.cell (i := 0) rfl 0 (.int .i64 d.k) rfl⟩

set_option maxRecDepth 100000 in
set_option maxHeartbeats 6400000 in
theorem honest_gen (sv : Value) (ts : List Tn) (Inv : Nat → Wd → Prop) (rk : Nat → Wd → Nat) (w : World) (htab : Tab w) (hT : TRd w sv ts) (hok : ∀ t ∈ ts, t.ok) (hlen : ts.length ≤ 1048576) (G : Good Inv rk) :
    Calls Tryd.prog 11 #[sv] w fun e w' => e = .returned (.bool true) ∧ Below w.heap.size w w' := by
  have HT := hideIt hT
  have HOK := hideIt hok
  have HL := hideIt hlen
  have HG := hideIt G
  obtain ⟨ao, cap, rfl, -⟩ := hT
  obtain ⟨Pv, Pb, hpv, hp0⟩ := G.pv w htab
  have CP := hideIt (proved_gen Pv Pb w hpv hp0)
  clear hok hlen G hpv hp0
  go_enter Tryd.func11, Tryd.ntmps11
  go_wp2_with fail
  refine CP.out.mono ?_
  rintro e w1 ⟨rfl, hb1⟩
  have HB1 := hideIt hb1
  have HMC := hideIt (HG.out.mc w1 (htab.below hb1))
  have CQ := hideIt (play_gen _ ts (Inv w1.heap.size) rk w1 (HT.out.below hb1) HOK.out HL.out HMC.out (HG.out.ini w1.heap.size))
  clear hb1 CP HT
  go_wp2_with fail
  refine CQ.out.mono ?_
  rintro e w2 ⟨rfl, x, hI, hn, -, hM⟩
  have CS := hideIt (HMC.out.settle x w2 [] hI (by have := HL.out; omega) hM)
  clear CQ hI hn hM
  go_wp2_with fail
  refine CS.out.mono ?_
  rintro e w3 ⟨⟨u, rfl⟩, x3, hI3, -, -, -, hM3⟩
  have hg : Hid (x3.gw = w1.heap.size) := HMC.out.pg x3 hI3
  have g8 := hM3.cell (i := 0) rfl 8 (.bool false) rfl
  have g14 := hM3.cell (i := 0) rfl 14 (.bool false) rfl
  rw [hg.out] at g8 g14
  have HB3 := hideIt (step HB1.out hM3.bl)
  clear CS hI3 hM3
  go_wp2
  go_ret
  exact ⟨rfl, HB3.out⟩

set_option maxRecDepth 100000 in
set_option maxHeartbeats 6400000 in
theorem linear_gen (sv : Value) (ts : List Tn) (Inv : Nat → Wd → Prop) (rk : Nat → Wd → Nat) (w : World) (htab : Tab w) (hT : TRd w sv ts) (hok : ∀ t ∈ ts, t.ok) (hlen : ts.length ≤ 1048576) (G : Good Inv rk)
    (hSin : ∀ gw x, Inv gw x → (∀ c, c < 64 → x.bs[c]? = some (-1)) → x.now ≤ 90000000 → ∀ d ∈ x.ds, d.k ≠ 4 → SinOk x d) :
    Calls Tryd.prog 8 #[sv] w fun e w' => e = .returned (.bool true) ∧ Below w.heap.size w w' := by
  have HT := hideIt hT
  have HOK := hideIt hok
  have HL := hideIt hlen
  have HG := hideIt G
  have HSI := hideIt hSin
  obtain ⟨ao, cap, rfl, -⟩ := hT
  obtain ⟨Pv, Pb, hpv, hp0⟩ := G.pv w htab
  have CP := hideIt (proved_gen Pv Pb w hpv hp0)
  clear hok hlen G hpv hp0 hSin
  go_enter Tryd.func8, Tryd.ntmps8
  go_wp2_with fail
  refine CP.out.mono ?_
  rintro e w1 ⟨rfl, hb1⟩
  have HB1 := hideIt hb1
  have HMC := hideIt (HG.out.mc w1 (htab.below hb1))
  have CQ := hideIt (play_gen _ ts (Inv w1.heap.size) rk w1 (HT.out.below hb1) HOK.out HL.out HMC.out (HG.out.ini w1.heap.size))
  clear hb1 CP HT
  go_wp2_with fail
  refine CQ.out.mono ?_
  rintro e w2 ⟨rfl, x, hI, hn, hd, hM⟩
  have CS := hideIt (HMC.out.settle x w2 [] hI (by have := HL.out; omega) hM)
  have HN := hideIt hn
  have HD := hideIt hd
  clear CQ hI hn hM hd
  go_wp2_with fail
  refine CS.out.mono ?_
  rintro e w3 ⟨⟨u, rfl⟩, x3, hI3, hid3, hn3, hd3, hM3⟩
  have hg : Hid (x3.gw = w1.heap.size) := HMC.out.pg x3 hI3
  have HS3 := hideIt (HSI.out _ x3 hI3 hid3 (by have := HL.out; have := HN.out; omega))
  have HV3 := hideIt (HG.out.over _ x3 hI3 hid3 (by have := HL.out; have := HN.out; omega))
  obtain ⟨n, hnn⟩ : ∃ n, x3.ds.length = n := ⟨_, rfl⟩
  have HNN := hideIt hnn
  have HN6 : Hid (n ≤ 1048576) := by unfold Hid; have := HL.out; have := HD.out; omega
  have A0 := hideIt (M.snocNil (e := 119) (z := 4) hM3)
  have HOv := hideIt (HG.out.ov _ x3 hI3)
  clear CS hI3 hM3 hid3 hn3 hd3 hnn
  go_wp2
  obtain ⟨gw, hgw⟩ : ∃ g, w1.heap.size = g := ⟨_, rfl⟩
  rw [hgw] at hg A0 ⊢
  have HGW := hideIt hgw
  clear hgw HMC
  have hg' := hg.out
  subst hg'
  go_loopw [5] (fun y wr => ∃ (j : Nat) (ov' : Value) (o' : List Dn), y = .int .i64 j ∧ j ≤ n ∧ Hid (OrdI { x3 with ov := ov' } o') ∧ Hid (M w1 x3.gw wr (({ x3 with ov := ov' } : Wd).as ++ [.row 119 4 ov' o'.length (dnc o')]))) (fun i _ => n - (intOf i).toNat)
  case atStart =>
    refine ⟨0, .slice none 0 0, [], rfl, by omega, Or.inl ⟨rfl, rfl⟩, ?_⟩
    have h1 := A0.out
    have e1 : ({ x3 with ov := .slice none 0 0 } : Wd) = x3 := by have := HOv.out; cases x3; simp only at this; subst this; rfl
    rw [e1]
    rw [List.append_nil] at h1
    exact h1
  case round =>
    clear A0
    obtain ⟨j, ov', o', rfl, hj, hO, hM⟩ := hrel
    have g14 := hM.out.cell (i := 0) rfl 14 (.bool false) rfl
    by_cases hlt : j < n
    · obtain ⟨d, hd⟩ : ∃ d, x3.ds[j]? = some d := ⟨_, List.getElem?_eq_getElem (by rw [HNN.out]; exact hlt)⟩
      have hj0 : (0 : Int) ≤ (j : Int) := by omega
      have hj1 : (j : Int) < (n : Int) := by omega
      have hn6 := HN6.out
      obtain ⟨dg, dc, g3, c0, d0⟩ := M.deedAt (x := { x3 with ov := ov' }) hM.out hd HNN.out
      have hmem := List.mem_of_getElem? hd
      by_cases hk : d.k = 4
      · rw [hk] at d0
        have HM2 := hideIt hM.out
        clear hM hd hmem
        go_wp2
        go_roundw
        case rel => exact ⟨j + 1, ov', o', by go_num, by omega, hO.out, HM2.out⟩
        case measure => simp [intOf]; omega
      · have hkb : (d.k == 4) = false := by simp [hk]
        have CS := hideIt (single_any { x3 with ov := ov' } d o' j [] w1 wr x3.gw hd HV3.out (by show x3.ds.length ≤ _; rw [HNN.out]; omega) hO.out hM.out (by have h9 := HS3.out d hmem hk; exact ⟨h9.ks, h9.vs, h9.cs, h9.an⟩))
        clear hM hd hmem hk
        go_wp2_with fail
        refine CS.out.mono ?_
        rintro e w4 ⟨rfl, ov2, o2, hO2, hM2⟩
        have HM2 := hideIt hM2
        have HO2 := hideIt hO2
        clear CS hO2 hM2 d0 c0 g3 g14
        go_wp2
        go_roundw
        case rel => exact ⟨j + 1, ov2, o2, by go_num, by omega, HO2.out, HM2.out⟩
        case measure => simp [intOf]; omega
    · obtain rfl : j = n := by omega
      obtain ⟨da, dc, hdv⟩ := As.form0 (hM.out.get (i := 2) rfl)
      rw [show ({ x3 with ov := ov' } : Wd).dv = x3.dv from rfl, show ({ x3 with ov := ov' } : Wd).ds.length = j from HNN.out] at hdv
      have g3 := hM.out.cell (i := 0) rfl 3 x3.dv rfl
      rw [hdv] at g3
      have HB3 := hideIt (step HB1.out (by have := hM.out.bl; rw [← HGW.out] at this; exact this))
      clear hM
      go_wp2
      go_ret
      exact ⟨rfl, HB3.out⟩
end Go.Proofs.YtjpgldeeopmbgaaDoor.Sap

/- WHAT IS PROVED HERE: a script that is handed in lies in memory as a list of turns; where what is handed in is of bulk at most 1048576, it has at most as many turns. Conditions: named at each theorem. -/
namespace Go.Proofs.YtjpgldeeopmbgaaDoor.Sap
open Go.RowKit Go.ChangeShapes Go.WideShapes Go.Deep

theorem cellsTurn : Tryd.prog.cellsOf 79 = 5 := by kernel_rfl
theorem cellsOp : Tryd.prog.cellsOf 37 = 3 := by kernel_rfl
theorem cellsI : Tryd.prog.cellsOf 3 = 1 := by kernel_rfl
theorem i64_of {n : Int} (h : (Lit.int .i64 n).wf = true) : I64 n := by
  simpa [I64, Lit.wf, IntKind.min, IntKind.max, IntKind.signed, IntKind.bits] using h

theorem list5s {α : Type} {l : List α} (h : l.length = 5) : ∃ a b c d e, l = [a, b, c, d, e] := by
  match l, h with
  | [a, b, c, d, e], _ => exact ⟨a, b, c, d, e, rfl⟩
theorem list3s {α : Type} {l : List α} (h : l.length = 3) : ∃ a b c, l = [a, b, c] := by
  match l, h with
  | [a, b, c], _ => exact ⟨a, b, c, rfl⟩

/-- The five cells of a turn. -/
theorem turn_in {H : Type} {enc : TypeId × Value → H} {W : World} {base : Nat} {fuel : Nat} {cs : List Value} {x : DataW H × List MemPlace} {sp : Nat → Bool}
    (h : DataW.trod enc Tryd.prog W base sp true fuel 79 cs = some x) : ∃ t : Tn, t.ok ∧ cs = [.int .i64 t.cl, .int .i64 t.k, .int .i64 t.key, .int .i64 t.v, .int .i64 t.mv] := by
  obtain ⟨xs, m, -, -, hl, hlen, hf⟩ := DataW.trod_struct Tryd.underlying79 h
  rw [cellsTurn] at hl
  obtain ⟨c0, c1, c2, c3, c4, rfl⟩ := list5s hl
  obtain ⟨y0, y1, y2, rfl⟩ := list3s (l := xs) hlen
  have f0 : DataW.trod enc Tryd.prog W base sp true m 3 (List.take (Tryd.prog.cellsOf 3) [c0, c1, c2, c3, c4]) = some y0 := hf 0 _ rfl
  have f1 : DataW.trod enc Tryd.prog W base sp true m 37 (List.take (Tryd.prog.cellsOf 37) [c1, c2, c3, c4]) = some y1 := hf 1 _ rfl
  have f2 : DataW.trod enc Tryd.prog W base sp true m 3 (List.take (Tryd.prog.cellsOf 3) [c4]) = some y2 := hf 2 _ rfl
  rw [cellsI] at f0 f2
  rw [cellsOp] at f1
  obtain ⟨cl, e0, -, w0⟩ := DataW.trod_int Tryd.underlying3 f0
  obtain ⟨mv, e4, -, w4⟩ := DataW.trod_int Tryd.underlying3 f2
  obtain ⟨zs, m2, -, -, -, hlen2, hg⟩ := DataW.trod_struct Tryd.underlying37 f1
  obtain ⟨z0, z1, z2, rfl⟩ := list3s (l := zs) hlen2
  have g0 : DataW.trod enc Tryd.prog W base sp true m2 3 (List.take (Tryd.prog.cellsOf 3) [c1, c2, c3]) = some z0 := hg 0 _ rfl
  have g1 : DataW.trod enc Tryd.prog W base sp true m2 3 (List.take (Tryd.prog.cellsOf 3) [c2, c3]) = some z1 := hg 1 _ rfl
  have g2 : DataW.trod enc Tryd.prog W base sp true m2 3 (List.take (Tryd.prog.cellsOf 3) [c3]) = some z2 := hg 2 _ rfl
  rw [cellsI] at g0 g1 g2
  obtain ⟨k, e1, -, w1⟩ := DataW.trod_int Tryd.underlying3 g0
  obtain ⟨key, e2, -, w2⟩ := DataW.trod_int Tryd.underlying3 g1
  obtain ⟨v, e3, -, w3⟩ := DataW.trod_int Tryd.underlying3 g2
  simp only [List.take_succ_cons, List.take_zero, List.cons.injEq, and_true] at e0 e1 e2 e3 e4
  subst e0 e1 e2 e3 e4
  exact ⟨⟨cl, k, key, v, mv⟩, ⟨i64_of w0, i64_of w1, i64_of w2, i64_of w3, i64_of w4⟩, rfl⟩

/-- A script that is handed in. -/
theorem script_in {H : Type} {enc : TypeId × Value → H} {W : World} {base : Nat} {fuel : Nat} {c : Value} {x : DataW H × List MemPlace} {sp : Nat → Bool}
    (h : DataW.trod enc Tryd.prog W base sp true fuel 71 [c] = some x) :
    ∃ ts : List Tn, TRd W c ts ∧ (∀ t ∈ ts, t.ok) ∧ (ts = [] ∨ ∃ e s, x.1 = .slice e s ∧ ts.length = e.length) := by
  rcases open_slice Tryd.underlying71 h with ⟨hc, -⟩ | ⟨a, len, cap, m, n, D, Pl, hc, -, hlc, -, hm, hx, hel⟩
  · simp only [List.cons.injEq, and_true] at hc
    subst hc
    exact ⟨[], ⟨none, 0, rfl, fun hp => absurd hp (by decide)⟩, fun t ht => (by cases ht), Or.inl rfl⟩
  · simp only [List.cons.injEq, and_true] at hc
    subst hc
    have hlm : len ≤ m := by rw [hm]; split <;> omega
    haveI : Inhabited Tn := ⟨⟨0, 0, 0, 0, 0⟩⟩
    obtain ⟨f, hf⟩ := choose_lt (α := Tn) (n := len) (p := fun i t => t.ok ∧ W.cell? (a.add (i * 5)) = some (.int .i64 t.cl) ∧ W.cell? (a.add (i * 5 + 1)) = some (.int .i64 t.k) ∧ W.cell? (a.add (i * 5 + 2)) = some (.int .i64 t.key) ∧ W.cell? (a.add (i * 5 + 3)) = some (.int .i64 t.v) ∧ W.cell? (a.add (i * 5 + 4)) = some (.int .i64 t.mv)) (fun i hi => by
      obtain ⟨cs', h1, h2⟩ := hel i (by omega)
      rw [cellsTurn] at h1
      obtain ⟨-, -, hcell⟩ := World.cells?_some h1
      obtain ⟨t, hok, rfl⟩ := turn_in h2
      have e0 := hcell 0 (by omega)
      have e1 := hcell 1 (by omega)
      have e2 := hcell 2 (by omega)
      have e3 := hcell 3 (by omega)
      have e4 := hcell 4 (by omega)
      rw [add_add] at e0 e1 e2 e3 e4
      exact ⟨t, hok, e0, e1, e2, e3, e4⟩)
    refine ⟨(List.range len).map f, ⟨some a, cap, by rw [List.length_map, List.length_range], fun hp => ?_⟩, fun t ht => ?_, Or.inr ⟨_, _, by rw [hx], by rw [List.length_map, List.length_map]⟩⟩
    · rw [List.length_map, List.length_range] at hp
      obtain ⟨b, off, spot⟩ := a
      have hspot : spot = none := by simpa [Addr.add] using World.cell?_spot (hf 0 hp).2.1
      subst hspot
      refine ⟨b, off, rfl, fun j t hj => ?_⟩
      have hjl : j < len := by have := (List.getElem?_eq_some_iff.1 hj).1; rw [List.length_map, List.length_range] at this; exact this
      obtain rfl : f j = t := by rw [List.getElem?_map, List.getElem?_range hjl] at hj; exact Option.some.inj hj
      have := (hf j hjl).2
      simp only [add_plain] at this
      simpa only [Nat.add_assoc] using this
    · obtain ⟨j, hj, rfl⟩ := List.mem_map.1 ht
      exact (hf j (List.mem_range.1 hj)).1

/-- How many turns, where the bulk is bound. -/
theorem bulk_one {H : Type} (d : DataW H) : 1 ≤ Rows.uptoBulk d := by
  cases d with
  | lit l => cases l <;> simp [Rows.uptoBulk]
  | nil => simp [Rows.uptoBulk]
  | ptr d => simp [Rows.uptoBulk]
  | slice elems spare => simp [Rows.uptoBulk]
  | agg parts => simp [Rows.uptoBulk]
  | iface t d => simp [Rows.uptoBulk]
  | map entries => simp [Rows.uptoBulk]
  | held h => simp [Rows.uptoBulk]
theorem bulk_len {H : Type} (l : List (DataW H)) : l.length ≤ Rows.uptoBulkAll l := by
  induction l with
  | nil => simp [Rows.uptoBulkAll]
  | cons x r ih => have := bulk_one x; simp only [Rows.uptoBulkAll, List.length_cons]; omega
theorem bulk_slice {H : Type} {d : DataW H} {r : List (DataW H)} {e s : List (DataW H)} (hd : d = .slice e s) (hk : Rows.uptoSmall H (d :: r) = true) : e.length ≤ 1048576 := by
  have h1 := of_decide_eq_true hk
  have h2 := bulk_len e
  rw [hd] at h1
  simp only [Rows.uptoBulkAll, Rows.uptoBulk] at h1
  omega
end Go.Proofs.YtjpgldeeopmbgaaDoor.Sap
