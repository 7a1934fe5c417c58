/- WHAT IS PROVED HERE: saplingkeep's single answers true of a Get, Put or Drop that has ended as it should, held against the map of its time. Conditions: all operations have ended; what is asked of its answer is named at the theorem (SinOk). -/
import Derived.Test.YtajobgmnmbnhiaaGreatDoorPt34
namespace Go.Proofs.YtajobgmnmbnhiaaGreatDoor.Sap
open Go.RowKit
structure SinOk (x : Wd) (d : Dd) : Prop where
  ks : d.ks = []
  vs : d.vs = []
  cs : d.cs = []
  an : (d.er = 4 ∧ d.k = 2 ∧ d.fd = false ∧ d.va = 0) ∨ (d.er = 0 ∧ ∀ o', o'.Perm (tkL x.ds) → Srt o' → ∀ fd v, ValR (tabO (ahead o' (d.ts[d.pt.toNat]?.getD 0))).1 (tabO (ahead o' (d.ts[d.pt.toNat]?.getD 0))).2 d.key fd v → d.fd = fd ∧ d.va = v)
set_option maxRecDepth 100000 in
set_option maxHeartbeats 6400000 in
theorem single_any (x : Wd) (d : Dd) (o : List Dn) (i0 : Nat) (fr : List As) (w0 w : World) (B : Nat) (hd : x.ds[i0]? = some d) (hov : ∀ d ∈ x.ds, d.over) (hnd : x.ds.length ≤ 100000000) (hO : OrdI x o)
    (h : M w0 B w (x.as ++ (.row 109 4 x.ov o.length (dnc o) :: fr))) (hS : SinOk x d) :
    Calls Tryz.prog 20 #[.pointer (some ⟨x.gw, 0, none⟩), .pointer (some ⟨d.gd, 0, none⟩)] w fun e w' => e = .returned (.bool true) ∧ ∃ ov' o', OrdI { x with ov := ov' } o' ∧ M w0 B w' (({ x with ov := ov' } : Wd).as ++ (.row 109 4 ov' o'.length (dnc o') :: fr)) := by
  have D := M.deed (pre := []) h hd
  have d0 := D.cell (i := 0) rfl 0 (.int .i64 d.k) rfl
  have d8 := D.cell (i := 0) rfl 8 (.int .i64 d.er) rfl
  have d9 := D.cell (i := 0) rfl 9 (.bool d.fd) rfl
  have d10 := D.cell (i := 0) rfl 10 (.int .i64 d.va) rfl
  have d11 := D.cell (i := 0) rfl 11 (.int .i64 d.pt) rfl
  have d12 := D.cell (i := 0) rfl 12 d.kv rfl
  have d13 := D.cell (i := 0) rfl 13 d.vv rfl
  have d14 := D.cell (i := 0) rfl 14 d.cv rfl
  obtain ⟨ak, ck, hkv⟩ := As.form0 (D.get (i := 9) rfl)
  obtain ⟨av, cv, hvv⟩ := As.form0 (D.get (i := 10) rfl)
  obtain ⟨ac, cc, hcv⟩ := As.form0 (D.get (i := 11) rfl)
  rw [hkv, hS.ks, List.length_nil] at d12
  rw [hvv, hS.vs, List.length_nil] at d13
  rw [hcv, hS.cs, List.length_nil] at d14
  obtain ⟨-, p, hpt, hp, -⟩ := hov d (List.mem_of_getElem? hd)
  rw [hpt] at d11
  have hpn : d.pt.toNat = p := by omega
  have hdsz : d.gd < w.heap.size := lt_of_cell d8
  have P0 : PS x w.heap.size #[.int .i64 d.er, .bool d.fd, .int .i64 d.va, .int .i64 p, .slice ak 0 ck, .slice av 0 cv, .slice ac 0 cc] fr w0 B (w.alloc (.cells #[.int .i64 d.er, .bool d.fd, .int .i64 d.va, .int .i64 p, .slice ak 0 ck, .slice av 0 cv, .slice ac 0 cc] 46)) := by
    refine ⟨x.ov, o, hO, ?_⟩
    refine (h.alloc _ _).perm ?_
    refine (List.Perm.append_left _ (List.Perm.swap _ _ _)).trans ?_
    exact List.perm_middle
  have HP0 := hideIt P0
  have HOV := hideIt hov
  have HD := hideIt hd
  have hAN := hS.an
  rw [hpn] at hAN
  have HPP := hideIt hp
  obtain ⟨gd, hgd⟩ : ∃ y, d.gd = y := ⟨_, rfl⟩
  have HGD := hideIt hgd
  rw [hgd] at d0 d8 d9 d10 d11 d12 d13 d14 hdsz ⊢
  clear h hS P0 hov hd D hpn hp hpt hkv hvv hcv hgd hO
  rcases hAN with ⟨her, hk2, hfd, hva⟩ | ⟨her, hAN⟩
  · rw [her] at d8 HP0
    rw [hfd] at d9 HP0
    rw [hva] at d10 HP0
    rw [hk2] at d0
    go_enter Tryz.func20, Tryz.ntmps20
    go_wp2_with fail
    obtain ⟨⟨-, -, f4⟩, -, -, f7, -⟩ := HP0.out.facts HD.out
    rw [HGD.out] at f4
    refine (point_yes gd d.tm d.ts p _ f4 f7 HPP.out).mono ?_
    clear f4 f7
    rintro e w1 ⟨rfl, hb⟩
    have HP1 := hideIt (HP0.out.below hb)
    clear hb HP0 d8 d9 d10 d11 d12 d13 d14
    have a0 := HP1.out.ans 0 (.int .i64 4) rfl
    have a1 := HP1.out.ans 1 (.bool false) rfl
    have a2 := HP1.out.ans 2 (.int .i64 0) rfl
    have a4 := HP1.out.ans 4 (.slice ak 0 ck) rfl
    have a5 := HP1.out.ans 5 (.slice av 0 cv) rfl
    have a6 := HP1.out.ans 6 (.slice ac 0 cc) rfl
    generalize w.heap.size = ga at HP1 a0 a1 a2 a4 a5 a6 ⊢
    have d0 : w1.cell? ⟨gd, 0, none⟩ = some (.int .i64 2) := by
      obtain ⟨ov', o', -, h2⟩ := HP1.out
      have D := M.deed (pre := []) (x := { x with ov := ov' }) h2 HD.out
      have := D.cell (i := 0) rfl 0 (.int .i64 d.k) rfl
      rw [HGD.out, hk2] at this
      exact this
    clear hk2 hfd hva her
    go_wp2
    go_ret
    refine ⟨rfl, ?_⟩
    obtain ⟨ov', o', h1, h2⟩ := HP1.out
    exact ⟨ov', o', h1, h2.sub (List.Sublist.append (List.Sublist.refl _) (List.Sublist.cons_cons _ (List.sublist_cons_self _ _)))⟩
  · rw [her] at d8 HP0
    go_enter Tryz.func20, Tryz.ntmps20
    go_wp2_with fail
    obtain ⟨⟨-, -, f4⟩, -, -, f7, -⟩ := HP0.out.facts HD.out
    rw [HGD.out] at f4
    refine (point_yes gd d.tm d.ts p _ f4 f7 HPP.out).mono ?_
    clear f4 f7
    rintro e w1 ⟨rfl, hb⟩
    have HP1 := hideIt (HP0.out.below hb)
    clear hb HP0 d8 d9 d10 d11 d12 d13 d14
    have a0 := HP1.out.ans 0 (.int .i64 0) rfl
    have a1 := HP1.out.ans 1 (.bool d.fd) rfl
    have a2 := HP1.out.ans 2 (.int .i64 d.va) rfl
    have a4 := HP1.out.ans 4 (.slice ak 0 ck) rfl
    have a5 := HP1.out.ans 5 (.slice av 0 cv) rfl
    have a6 := HP1.out.ans 6 (.slice ac 0 cc) rfl
    generalize w.heap.size = ga at HP1 a0 a1 a2 a4 a5 a6 ⊢
    have HAN := hideIt hAN
    clear her hAN d0
    go_wp2_with fail
    refine (HP1.out.at _ HOV.out hnd).mono ?_
    rintro e w2 ⟨gt, rfl, o', ho1, ho2, hP2, ⟨tk, tv, t0, t1, hK, hV⟩, hl1, hl2⟩
    have HP2 := hideIt hP2
    have HO' := hideIt (HAN.out o' ho1 ho2)
    have a1 := HP2.out.ans 1 (.bool d.fd) rfl
    have a2 := HP2.out.ans 2 (.int .i64 d.va) rfl
    obtain ⟨⟨f1, -, -⟩, -, -, -, -⟩ := HP2.out.facts HD.out
    rw [HGD.out] at f1
    have CV := hideIt (value_any gt tk tv _ _ d.key w2 t0 t1 hK hV (by omega) hl1)
    clear HP1 ho1 ho2 hP2 hK hV hl1 hl2 t0 t1 HAN a0 a4 a5 a6
    go_wp2_with fail
    refine CV.out.mono ?_
    rintro e w3 ⟨fd, v, rfl, hv, hb⟩
    obtain ⟨e1, e2⟩ := HO'.out fd v hv
    subst e1 e2
    have HP3 := hideIt (HP2.out.below hb)
    have a1 := HP3.out.ans 1 (.bool d.fd) rfl
    have a2 := HP3.out.ans 2 (.int .i64 d.va) rfl
    clear CV HP2 HO' hv hb f1
    go_wp2
    go_ret
    refine ⟨rfl, ?_⟩
    obtain ⟨ov', o', h1, h2⟩ := HP3.out
    exact ⟨ov', o', h1, h2.sub (List.Sublist.append (List.Sublist.refl _) (List.Sublist.cons_cons _ (List.sublist_cons_self _ _)))⟩
set_option maxRecDepth 100000 in
set_option maxHeartbeats 6400000 in
theorem linear_gen (sv : Value) (ts : List Tn) (Inv : Nat → Wd → Prop) (rk : Nat → Wd → Nat) (w : World) (htab : Tab w) (hT : TRd w sv ts) (hok : ∀ t ∈ ts, t.ok) (hlen : ts.length ≤ 1048576) (G : Good Inv rk)
    (hSin : ∀ gw x, Inv gw x → (∀ c, c < 64 → x.bs[c]? = some (-1)) → x.now ≤ 90000000 → ∀ d ∈ x.ds, d.k ≠ 4 → SinOk x d) :
    Calls Tryz.prog 5 #[sv] w fun e w' => e = .returned (.bool true) ∧ Below w.heap.size w w' := by
  have HT := hideIt hT
  have HOK := hideIt hok
  have HL := hideIt hlen
  have HG := hideIt G
  have HSI := hideIt hSin
  obtain ⟨ao, cap, rfl, -⟩ := hT
  obtain ⟨Pv, Pb, hpv, hp0⟩ := G.pv w htab
  have CP := hideIt (proved_gen Pv Pb w hpv hp0)
  clear hok hlen G hpv hp0 hSin
  go_enter Tryz.func5, Tryz.ntmps5
  go_wp2_with fail
  refine CP.out.mono ?_
  rintro e w1 ⟨rfl, hb1⟩
  have HB1 := hideIt hb1
  have HMC := hideIt (HG.out.mc w1 (htab.below hb1))
  have CQ := hideIt (play_gen _ ts (Inv w1.heap.size) rk w1 (HT.out.below hb1) HOK.out HL.out HMC.out (HG.out.ini w1.heap.size))
  clear hb1 CP HT
  go_wp2_with fail
  refine CQ.out.mono ?_
  rintro e w2 ⟨rfl, x, hI, hn, hd, hM⟩
  have CS := hideIt (HMC.out.settle x w2 [] hI (by have := HL.out; omega) hM)
  have HN := hideIt hn
  have HD := hideIt hd
  clear CQ hI hn hM hd
  go_wp2_with fail
  refine CS.out.mono ?_
  rintro e w3 ⟨⟨u, rfl⟩, x3, hI3, hid3, hn3, hd3, hM3⟩
  have hg : Hid (x3.gw = w1.heap.size) := HMC.out.pg x3 hI3
  have HS3 := hideIt (HSI.out _ x3 hI3 hid3 (by have := HL.out; have := HN.out; omega))
  have HV3 := hideIt (HG.out.over _ x3 hI3 hid3 (by have := HL.out; have := HN.out; omega))
  obtain ⟨n, hnn⟩ : ∃ n, x3.ds.length = n := ⟨_, rfl⟩
  have HNN := hideIt hnn
  have HN6 : Hid (n ≤ 1048576) := by unfold Hid; have := HL.out; have := HD.out; omega
  have A0 := hideIt (M.snocNil (e := 109) (z := 4) hM3)
  have HOv := hideIt (HG.out.ov _ x3 hI3)
  clear CS hI3 hM3 hid3 hn3 hd3 hnn
  go_wp2
  obtain ⟨gw, hgw⟩ : ∃ g, w1.heap.size = g := ⟨_, rfl⟩
  rw [hgw] at hg A0 ⊢
  have HGW := hideIt hgw
  clear hgw HMC
  have hg' := hg.out
  subst hg'
  go_loopw [5] (fun y wr => ∃ (j : Nat) (ov' : Value) (o' : List Dn), y = .int .i64 j ∧ j ≤ n ∧ Hid (OrdI { x3 with ov := ov' } o') ∧ Hid (M w1 x3.gw wr (({ x3 with ov := ov' } : Wd).as ++ [.row 109 4 ov' o'.length (dnc o')]))) (fun i _ => n - (intOf i).toNat)
  case atStart =>
    refine ⟨0, .slice none 0 0, [], rfl, by omega, Or.inl ⟨rfl, rfl⟩, ?_⟩
    have h1 := A0.out
    have e1 : ({ x3 with ov := .slice none 0 0 } : Wd) = x3 := by have := HOv.out; cases x3; simp only at this; subst this; rfl
    rw [e1]
    rw [List.append_nil] at h1
    exact h1
  case round =>
    clear A0
    obtain ⟨j, ov', o', rfl, hj, hO, hM⟩ := hrel
    have g14 := hM.out.cell (i := 0) rfl 14 (.bool false) rfl
    by_cases hlt : j < n
    · obtain ⟨d, hd⟩ : ∃ d, x3.ds[j]? = some d := ⟨_, List.getElem?_eq_getElem (by rw [HNN.out]; exact hlt)⟩
      have hj0 : (0 : Int) ≤ (j : Int) := by omega
      have hj1 : (j : Int) < (n : Int) := by omega
      have hn6 := HN6.out
      obtain ⟨dg, dc, g3, c0, d0⟩ := M.deedAt (x := { x3 with ov := ov' }) hM.out hd HNN.out
      have hmem := List.mem_of_getElem? hd
      by_cases hk : d.k = 4
      · rw [hk] at d0
        have HM2 := hideIt hM.out
        clear hM hd hmem
        go_wp2
        go_roundw
        case rel => exact ⟨j + 1, ov', o', by go_num, by omega, hO.out, HM2.out⟩
        case measure => simp [intOf]; omega
      · have hkb : (d.k == 4) = false := by simp [hk]
        have CS := hideIt (single_any { x3 with ov := ov' } d o' j [] w1 wr x3.gw hd HV3.out (by show x3.ds.length ≤ _; rw [HNN.out]; omega) hO.out hM.out (by have h9 := HS3.out d hmem hk; exact ⟨h9.ks, h9.vs, h9.cs, h9.an⟩))
        clear hM hd hmem hk
        go_wp2_with fail
        refine CS.out.mono ?_
        rintro e w4 ⟨rfl, ov2, o2, hO2, hM2⟩
        have HM2 := hideIt hM2
        have HO2 := hideIt hO2
        clear CS hO2 hM2 d0 c0 g3 g14
        go_wp2
        go_roundw
        case rel => exact ⟨j + 1, ov2, o2, by go_num, by omega, HO2.out, HM2.out⟩
        case measure => simp [intOf]; omega
    · obtain rfl : j = n := by omega
      obtain ⟨da, dc, hdv⟩ := As.form0 (hM.out.get (i := 2) rfl)
      rw [show ({ x3 with ov := ov' } : Wd).dv = x3.dv from rfl, show ({ x3 with ov := ov' } : Wd).ds.length = j from HNN.out] at hdv
      have g3 := hM.out.cell (i := 0) rfl 3 x3.dv rfl
      rw [hdv] at g3
      have HB3 := hideIt (step HB1.out (by have := hM.out.bl; rw [← HGW.out] at this; exact this))
      clear hM
      go_wp2
      go_ret
      exact ⟨rfl, HB3.out⟩
end Go.Proofs.YtajobgmnmbnhiaaGreatDoor.Sap
