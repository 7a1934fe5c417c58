/- WHAT IS PROVED HERE: saplingkeep's pieces answers true of a Scan that has ended as it should, each piece held against the map of its time. Conditions: all operations have ended; what is asked of each piece is named at the theorem. -/
import Derived.Test.YtajobgmnmbnhiaaGreatDoorPt34
import Derived.Test.YtajobgmnmbnhiaaGreatDoorPt45
namespace Go.Proofs.YtajobgmnmbnhiaaGreatDoor.Sap
open Go.RowKit
set_option maxRecDepth 100000 in
set_option maxHeartbeats 6400000 in
theorem pieces_at (x : Wd) (d : Dd) (o : List Dn) (i0 m : Nat) (fr : List As) (w0 w : World) (B : Nat) (bel pts : List Int) (b : Int) (sn : Nat → Nat) (hd : x.ds[i0]? = some d) (hov : ∀ d ∈ x.ds, d.over) (hnd : x.ds.length ≤ 100000000) (hO : OrdI x o)
    (h : M w0 B w (x.as ++ (.row 109 4 x.ov o.length (dnc o) :: fr)))
    (her : d.er = 0) (hfd : d.fd = decide (0 < d.ks.length)) (hva : d.va = d.ks.length) (hcs : d.cs = bel.zip pts) (hbl : bel.length = m + 1) (hpl : pts.length = m + 1) (hm : m ≤ 1000000) (hks : d.ks.length = d.vs.length) (hs0 : sn 0 = 0) (hsE : sn (m + 1) = d.ks.length) (hfE : fromV bel d.key (m + 1) = b) (hpt : pts.getLast? = some d.pt)
    (hPA : ∀ i, i < m + 1 → ∃ p be k, ∀ o', o'.Perm (tkL x.ds) → Srt o' → PcR (tabO (ahead o' (d.ts[p]?.getD 0))).1 (tabO (ahead o' (d.ts[p]?.getD 0))).2 d.ks d.vs d.key d.v bel pts d.ts sn i p be k) (hRI : ∀ i, i + 1 < d.ks.length → d.ks[i]?.getD 0 < d.ks[i + 1]?.getD 0) (hbb : d.key + 1 ≤ b ∧ b ≤ d.v + 1)
    (h12 : d.ks.length ≤ 12) (hend : (d.ks.length = 12 ∧ b = d.ks.getLast?.getD 0 + 1) ∨ (d.ks.length < 12 ∧ b = d.v + 1)) (hv0 : 0 ≤ d.v) (hv1 : d.v ≤ 9999) (hk0 : 0 ≤ d.key) :
    Calls Tryz.prog 13 #[.pointer (some ⟨x.gw, 0, none⟩), .pointer (some ⟨d.gd, 0, none⟩), .pointer none] w fun e w' => e = .returned (.bool true) ∧ ∃ ov' o', OrdI { x with ov := ov' } o' ∧ M w0 B w' (({ x with ov := ov' } : Wd).as ++ (.row 109 4 ov' o'.length (dnc o') :: fr)) := by
  have D := M.deed (pre := []) h hd
  have d8 := D.cell (i := 0) rfl 8 (.int .i64 d.er) rfl
  have d9 := D.cell (i := 0) rfl 9 (.bool d.fd) rfl
  have d10 := D.cell (i := 0) rfl 10 (.int .i64 d.va) rfl
  have d11 := D.cell (i := 0) rfl 11 (.int .i64 d.pt) rfl
  have d12 := D.cell (i := 0) rfl 12 d.kv rfl
  have d13 := D.cell (i := 0) rfl 13 d.vv rfl
  have d14 := D.cell (i := 0) rfl 14 d.cv rfl
  have hcl : d.cs.length = m + 1 := by rw [hcs, List.length_zip]; omega
  obtain ⟨ak, ck, hkv⟩ := As.form0 (D.get (i := 9) rfl)
  obtain ⟨av, cv, hvv⟩ := As.form0 (D.get (i := 10) rfl)
  obtain ⟨cg, cc, hcv⟩ := As.form (D.get (i := 11) rfl) (by omega)
  rw [her] at d8
  rw [hva] at d10
  rw [hkv] at d12
  rw [hvv] at d13
  rw [hcv, hcl] at d14
  rw [← hks] at d13
  obtain ⟨gd, hgd⟩ : ∃ y, d.gd = y := ⟨_, rfl⟩
  obtain ⟨key, hkey⟩ : ∃ y, d.key = y := ⟨_, rfl⟩
  obtain ⟨val, hval⟩ : ∃ y, d.v = y := ⟨_, rfl⟩
  obtain ⟨pt, hptt⟩ : ∃ y, d.pt = y := ⟨_, rfl⟩
  obtain ⟨fd, hfdd⟩ : ∃ y, d.fd = y := ⟨_, rfl⟩
  obtain ⟨ks, hkss⟩ : ∃ y, d.ks = y := ⟨_, rfl⟩
  obtain ⟨vs, hvss⟩ : ∃ y, d.vs = y := ⟨_, rfl⟩
  obtain ⟨ts, htss⟩ : ∃ y, d.ts = y := ⟨_, rfl⟩
  obtain ⟨tm, htmm⟩ : ∃ y, d.tm = y := ⟨_, rfl⟩
  have hlp : pts[m]?.getD 0 = pt := by
    rw [List.getLast?_eq_getElem?, hpl, Nat.add_sub_cancel] at hpt
    rw [hpt, ← hptt]; rfl
  have HC0 : ∀ W, As.holds W B (.row 76 2 d.cv d.cs.length (cutc d.cs)) → ∀ i, i < m + 1 → W.cell? ⟨cg, i * 2, none⟩ = some (.int .i64 (bel[i]?.getD 0)) ∧ W.cell? ⟨cg, i * 2 + 1, none⟩ = some (.int .i64 (pts[i]?.getD 0)) := by
    intro W hW i hi
    rw [hcv, hcl, hcs] at hW
    have hb1 : bel[i]? = some (bel[i]'(by omega)) := List.getElem?_eq_getElem (by omega)
    have hp1 : pts[i]? = some (pts[i]'(by omega)) := List.getElem?_eq_getElem (by omega)
    have hz : (bel.zip pts)[i]? = some (bel[i]'(by omega), pts[i]'(by omega)) := by rw [List.getElem?_zip_eq_some]; exact ⟨hb1, hp1⟩
    obtain ⟨h1, h2⟩ := cutc_at hz
    rw [hb1, hp1]
    exact ⟨by rw [World.ownsRow.cellAt hW.own _ (by omega)]; exact h1, by rw [World.ownsRow.cellAt hW.own _ (by omega)]; exact h2⟩
  have hcm := (HC0 w (D.get (i := 11) rfl) m (by omega)).2
  rw [hlp] at hcm
  have hcg : cg < w.heap.size := lt_of_cell hcm
  obtain ⟨nl, hnl⟩ : ∃ n, ks.length = n := ⟨_, rfl⟩
  have HFT : Hid (∀ W, PS x w.heap.size #[.int .i64 0, .bool fd, .int .i64 nl, .int .i64 pt, .slice ak nl ck, .slice av nl cv, .slice (some ⟨cg, 0, none⟩) (m + 1) cc] fr w0 B W → (W.cell? ⟨gd, 1, none⟩ = some (.int .i64 key) ∧ W.cell? ⟨gd, 2, none⟩ = some (.int .i64 val) ∧ W.cell? ⟨gd, 4, none⟩ = some tm) ∧ Rd W (.slice ak nl ck) ks ∧ Rd W (.slice av nl cv) vs ∧ Rd W tm ts ∧ ∀ i, i < m + 1 → W.cell? ⟨cg, i * 2, none⟩ = some (.int .i64 (bel[i]?.getD 0)) ∧ W.cell? ⟨cg, i * 2 + 1, none⟩ = some (.int .i64 (pts[i]?.getD 0))) := by
    intro W hW
    obtain ⟨⟨f1, f2, f3⟩, f4, f5, f6, f7⟩ := hW.facts hd
    rw [hkv, hkss, hnl] at f4
    rw [hvv, ← hks, hkss, hvss, hnl] at f5
    rw [hgd, hkey] at f1
    rw [hgd, hval] at f2
    rw [hgd, htmm] at f3
    rw [htmm, htss] at f6
    exact ⟨⟨f1, f2, f3⟩, f4, f5, f6, HC0 W f7⟩
  rw [hkss] at d10 d12 d13 hfd hsE hRI h12 hend hks
  rw [hgd] at d8 d9 d10 d11 d12 d13 d14 ⊢
  rw [hvss] at hks
  rw [hptt] at d11
  rw [hfdd] at d9 hfd
  rw [hkss, hvss, hkey, hval, htss] at hPA
  rw [hkey] at hfE hbb hk0
  rw [hval] at hbb hend hv0 hv1
  rw [hnl] at d10 d12 d13 h12 hfd hend hRI hsE hks
  have HPA := hideIt hPA
  have HRI := hideIt hRI
  have HS0 := hideIt hs0
  have HSE := hideIt hfE
  have HBB := hideIt hbb
  have HSS := hideIt hsE
  have HNL := hideIt hnl
  have HVL := hideIt hks
  have HEND := hideIt hend
  have HOV := hideIt hov
  have HORD : Hid (∃ o1, o1.Perm (tkL x.ds) ∧ Srt o1) := by
    refine ⟨(tkL x.ds).mergeSort (fun a b => decide (a.t ≤ b.t)), List.mergeSort_perm _ _, ?_⟩
    have := List.pairwise_mergeSort (le := fun a b : Dn => decide (a.t ≤ b.t)) (fun a b c h1 h2 => by simp at *; omega) (fun a b => by simp; omega) (tkL x.ds)
    exact this.imp (fun h => by simpa using h)
  have A0 : Hid (PS x w.heap.size #[.int .i64 0, .bool fd, .int .i64 nl, .int .i64 pt, .slice ak nl ck, .slice av nl cv, .slice (some ⟨cg, 0, none⟩) (m + 1) cc] fr w0 B (w.alloc (.cells #[.int .i64 0, .bool fd, .int .i64 nl, .int .i64 pt, .slice ak nl ck, .slice av nl cv, .slice (some ⟨cg, 0, none⟩) (m + 1) cc] 46))) :=
    ⟨x.ov, o, hO, (h.alloc #[.int .i64 0, .bool fd, .int .i64 nl, .int .i64 pt, .slice ak nl ck, .slice av nl cv, .slice (some ⟨cg, 0, none⟩) (m + 1) cc] 46).perm (by
      refine (List.Perm.append_left _ (List.Perm.swap _ _ _)).trans List.perm_middle)⟩
  have HFD := hideIt hfd
  have hcm2 : ∀ p, (w.alloc p).cell? ⟨cg, m * 2 + 1, none⟩ = some (.int .i64 pt) := fun p => cell_below ((Below.refl _ _).alloc (Nat.le_refl _) p) _ _ hcm
  have hm0 : (0 : Int) ≤ (m : Int) := by omega
  have hdn : decide ((12 : Int) < (nl : Int)) = false := by rw [decide_eq_false_iff_not]; omega
  have hcz : (((m : Int) + 1) == 0) = false := by simp; omega
  obtain ⟨ga, hga⟩ : ∃ g, w.heap.size = g := ⟨_, rfl⟩
  rw [hga] at A0 HFT
  have HGA := hideIt hga
  clear hfd hcm D h hd hov hO her hva hcs hbl hpl hs0 hsE hfE hpt hPA hRI hbb hend hkv hvv hcv hcl HC0 hlp hnl hks hgd hkey hval hptt hfdd hkss hvss htss htmm hga
  go_enter Tryz.func13, Tryz.ntmps13
  go_upto_region 4 with fail
  go_cut [73] (fun u wy => u = .bool false ∧ Hid (PS x ga #[.int .i64 0, .bool fd, .int .i64 nl, .int .i64 pt, .slice ak nl ck, .slice av nl cv, .slice (some ⟨cg, 0, none⟩) (m + 1) cc] fr w0 B wy))
  case first =>
    have a0 := A0.out.ans 0 (.int .i64 0) rfl
    have a1 := A0.out.ans 1 (.bool fd) rfl
    have a2 := A0.out.ans 2 (.int .i64 nl) rfl
    have a3 := A0.out.ans 3 (.int .i64 pt) rfl
    have a4 := A0.out.ans 4 (.slice ak nl ck) rfl
    have a5 := A0.out.ans 5 (.slice av nl cv) rfl
    have a6 := A0.out.ans 6 (.slice (some ⟨cg, 0, none⟩) (m + 1) cc) rfl
    by_cases h0 : 0 < nl
    · obtain rfl : fd = true := by rw [HFD.out]; simp [h0]
      have h0i : (0 : Int) < (nl : Int) := by omega
      clear d8 d9 d10 d11 d12 d13 d14
      go_wp2
      go_quiet (fail)
      go_wp2
      go_meet
      case rel => exact ⟨rfl, A0.out.below ⟨rfl, rfl, rfl, Nat.le_refl _, fun _ _ => rfl⟩⟩
    · obtain rfl : fd = false := by rw [HFD.out]; simp [h0]
      have h0i : decide ((0 : Int) < (nl : Int)) = false := by rw [decide_eq_false_iff_not]; omega
      clear d8 d9 d10 d11 d12 d13 d14
      go_wp2
      go_quiet (fail)
      go_wp2
      go_meet
      case rel => exact ⟨rfl, A0.out.below ⟨rfl, rfl, rfl, Nat.le_refl _, fun _ _ => rfl⟩⟩
  case rest =>
    obtain ⟨rfl, hM0⟩ := hcut
    clear A0 hcm2 hcz hdn d8 d9 d10 d11 d12 d13 d14 HFD
    obtain ⟨⟨e1, -, -⟩, -, -, -, -⟩ := HFT.out _ hM0.out
    have hnl : (nl : Int) ≤ 12 := by omega
    rw [HGA.out]
    go_wp2
    go_loopw [10, 11, 12, 13] (fun f l sv i wr => ∃ k : Nat, k ≤ m + 1 ∧ i = .int .i64 k ∧ f = .int .i64 (fromV bel key k) ∧ l = .int .i64 (lastT ts pts k) ∧ sv = .int .i64 (sn k) ∧ Hid (PS x ga #[.int .i64 0, .bool fd, .int .i64 nl, .int .i64 pt, .slice ak nl ck, .slice av nl cv, .slice (some ⟨cg, 0, none⟩) (m + 1) cc] fr w0 B wr)) (fun _ _ _ i _ => m + 1 - (intOf i).toNat)
    case atStart => exact ⟨0, by omega, rfl, rfl, rfl, by rw [HS0.out]; rfl, hM0.out⟩
    case round =>
      clear hM0 e1
      obtain ⟨k, hk, rfl, rfl, rfl, rfl, hM⟩ := hrel
      by_cases hlt : k < m + 1
      · obtain ⟨p, be, cn, hPo⟩ := HPA.out k hlt
        have HPO := hideIt hPo
        obtain ⟨o1, ho1, ho2⟩ := HORD.out
        have hP := hPo o1 ho1 ho2
        have hPt := hP.pt
        have hPbe := hP.be
        have HBE := hideIt hPbe
        have HPT := hideIt hPt
        have y2 := ((HFT.out _ hM.out).2.2.2.2 k hlt).2
        rw [hPt] at y2
        simp only [Option.getD_some] at y2
        have a6 := hM.out.ans 6 (.slice (some ⟨cg, 0, none⟩) (m + 1) cc) rfl
        obtain ⟨fr', hfr⟩ : ∃ x, fromV bel key k = x := ⟨_, rfl⟩
        obtain ⟨la, hla⟩ : ∃ x, lastT ts pts k = x := ⟨_, rfl⟩
        obtain ⟨se, hse⟩ : ∃ x, sn k = x := ⟨_, rfl⟩
        obtain ⟨nx, hnx⟩ : ∃ x, sn (k + 1) = x := ⟨_, rfl⟩
        obtain ⟨tp, htp⟩ : ∃ x, ts[p]?.getD 0 = x := ⟨_, rfl⟩
        have hpj := hP.pj
        have hlast := hP.last
        rw [hla, htp] at hlast
        have hlo := hP.lo
        rw [hfr] at hlo
        have hhi := hP.hi
        have HFR := hideIt hfr
        have HSEE := hideIt hse
        have HNX := hideIt hnx
        have HTP := hideIt htp
        have hle := hP.le
        rw [hnx, HNL.out] at hle
        have hsn := hP.nx
        rw [hse, hnx] at hsn
        have HSN := hideIt hsn
        clear ho1 ho2 hPo hPbe
        have hkk : (0 : Int) ≤ (k : Int) := by omega
        have hkl : (k : Int) < (m : Int) + 1 := by omega
        have hkn : k < m + 1 := hlt
        rw [hfr, hla, hse]
        clear hP hfr hla hse hnx htp hsn
        go_wp2_with fail
        obtain ⟨⟨-, -, q4⟩, -, -, rtt, -⟩ := HFT.out _ hM.out
        refine (point_yes gd tm ts p _ q4 rtt hpj).mono ?_
        rintro e w1 ⟨rfl, hb⟩
        rw [HTP.out]
        have hM1 := hideIt (hM.out.below hb)
        clear hM hb y2 a6 q4 rtt
        have y1 := ((HFT.out _ hM1.out).2.2.2.2 k hlt).1
        rw [HBE.out] at y1
        simp only [Option.getD_some] at y1
        obtain ⟨⟨-, q2, -⟩, -, -, -, -⟩ := HFT.out _ hM1.out
        have a6 := hM1.out.ans 6 (.slice (some ⟨cg, 0, none⟩) (m + 1) cc) rfl
        have hd1 : decide (tp ≤ la) = false := by rw [decide_eq_false_iff_not]; omega
        have hd2 : decide (be ≤ fr') = false := by rw [decide_eq_false_iff_not]; omega
        have hd3 : decide (val + 1 < be) = false := by rw [decide_eq_false_iff_not]; omega
        go_wp2_with fail
        refine (hM1.out.at tp HOV.out hnd).mono ?_
        rintro e wt ⟨gt, rfl, o', ho', hs', hM5, hTB, hKV, hKL⟩
        rw [← HTP.out] at hTB hKV hKL
        have hPq := HPO.out o' ho' hs'
        obtain ⟨K, hK⟩ : ∃ K, (tabO (ahead o' (ts[p]?.getD 0))).1 = K := ⟨_, rfl⟩
        obtain ⟨V, hV⟩ : ∃ V, (tabO (ahead o' (ts[p]?.getD 0))).2 = V := ⟨_, rfl⟩
        rw [hK, hV] at hTB hPq hKV
        rw [hK] at hKL
        have HP := hideIt hPq
        have HKV := hideIt hKV
        have HTB := hideIt hTB
        have hM1 := hideIt hM5
        clear hPq hK hV ho' hs' hM5 hKV hTB y1 q2 a6
        obtain ⟨tk, tvv, q5, q6, rKK, rVV⟩ := HTB.out
        go_wp2_with fail
        refine (within_any gt tk K fr' be _ q5 rKK (by omega)).mono ?_
        rintro e w2 ⟨rfl, rfl⟩
        have hcn := HP.out.cnt
        rw [HFR.out] at hcn
        rw [hcn]
        clear hcn hd1 hd2 hd3 q5 q6 rKK rVV
        go_wp2
        go_loopw [12, 18] (fun sv r wx => ∃ q c : Nat, sv = .int .i64 q ∧ r = .int .i64 c ∧ q ≤ 12 ∧ c ≤ 12 ∧ se ≤ q ∧ Hid (q + c = nx) ∧ Hid (PS x ga #[.int .i64 0, .bool fd, .int .i64 nl, .int .i64 pt, .slice ak nl ck, .slice av nl cv, .slice (some ⟨cg, 0, none⟩) (m + 1) cc] fr w0 B wx ∧ TabR gt K V wx)) (fun _ r _ => (intOf r).toNat)
        case atStart => exact ⟨se, cn, rfl, rfl, by have := HSN.out; omega, by have := HSN.out; omega, Nat.le_refl _, HSN.out, ⟨hM1.out, HTB.out⟩⟩
        case round =>
          clear hM1 HTB
          obtain ⟨q, c, rfl, rfl, hq1, hc1, hq2, hq3, hM2⟩ := hrel
          by_cases hc0 : 0 < c
          · obtain ⟨c', rfl⟩ : ∃ c', c = c' + 1 := ⟨c - 1, by omega⟩
            have hqn : q < nl := by have := hq3.out; omega
            have hqn2 : (q : Int) < (nl : Int) := by omega
            have hqn3 : decide ((nl : Int) ≤ (q : Int)) = false := by rw [decide_eq_false_iff_not]; omega
            have hq0 : (0 : Int) ≤ (q : Int) := by omega
            obtain ⟨-, rk2, rv2, -, -⟩ := HFT.out _ hM2.out.1
            obtain ⟨b1, o1, e1, -, x1⟩ := rk2.elem q hqn
            obtain ⟨b2, o2, e2, -, x2⟩ := rv2.elem q hqn
            have HQ := HP.out.keys (q - se) (by have := hq3.out; have := HSN.out; omega)
            rw [HSEE.out, HFR.out, show se + (q - se) = q by omega] at HQ
            have y1 := x1 _ (Below.refl _ _)
            have y2 := x2 _ (Below.refl _ _)
            obtain ⟨x', hx⟩ : ∃ y, ks[q]?.getD 0 = y := ⟨_, rfl⟩
            obtain ⟨y, hy⟩ : ∃ y, vs[q]?.getD 0 = y := ⟨_, rfl⟩
            rw [hx] at y1 HQ
            rw [hy] at y2 HQ
            obtain ⟨hQ1, hQ2, hQ3⟩ := HQ
            have HQ3 := hideIt hQ3
            have hd1 : decide (x' < fr') = false := by rw [decide_eq_false_iff_not]; omega
            have hd2 : decide (be ≤ x') = false := by rw [decide_eq_false_iff_not]; omega
            have a4 := hM2.out.1.ans 4 (.slice ak nl ck) rfl
            have a5 := hM2.out.1.ans 5 (.slice av nl cv) rfl
            obtain ⟨tk, tvv, q5, q6, rKK, rVV⟩ := hM2.out.2
            have CV := hideIt (fun n => value_any gt tk tvv K V x' (wr.drewN n) q5 q6 (rKK.below ⟨rfl, rfl, rfl, Nat.le_refl _, fun _ _ => rfl⟩) (rVV.below ⟨rfl, rfl, rfl, Nat.le_refl _, fun _ _ => rfl⟩) (by omega) HKV.out)
            have HX2 := hideIt x2
            have HY := hideIt hy
            subst e1
            subst e2
            clear x2 hy hQ3 rk2 rv2 q5 q6 rKK rVV
            rcases Nat.eq_zero_or_pos q with hz | hz
            · subst hz
              have hz1 : decide ((nl : Int) ≤ 0) = false := by rw [decide_eq_false_iff_not]; omega
              have hz2 : decide (nl = 0) = false := by rw [decide_eq_false_iff_not]; omega
              have hz3 : (0 : Int) < (nl : Int) := by omega
              clear hqn3 hqn2 hq0
              clear x1 hx
              simp only [Nat.add_zero] at y1 y2
              go_wp2
              go_quiet (fail)
              go_wp2_with fail
              refine (CV.out _).mono ?_
              rintro e w3 ⟨fd2, v2, rfl, hV, hb⟩
              obtain ⟨rfl, rfl⟩ := HQ3.out fd2 v2 hV
              have hbb3 : Below wr.heap.size wr w3 := Below.trans (⟨rfl, rfl, rfl, Nat.le_refl _, fun _ _ => rfl⟩ : Below wr.heap.size wr (wr.drewN nq)) hb
              have hM3 := hideIt (And.intro (hM2.out.1.below hbb3) (hM2.out.2.below hbb3))
              have y2 := HX2.out _ hbb3
              rw [HY.out] at y2
              simp only [Nat.add_zero] at y2
              clear hM2 CV hb hV y1 a4 a5 HQ3 hbb3
              have a5 := hM3.out.1.ans 5 (.slice (some ⟨b2, o2, none⟩) nl cv) rfl
              go_wp2
              go_roundw
              case rel => exact ⟨1, c', by go_num, by go_num, by omega, by omega, by omega, by have := hq3.out; unfold Hid; omega, hM3.out⟩
              case measure => simp [intOf]
            · obtain ⟨q', rfl⟩ : ∃ q', q = q' + 1 := ⟨q - 1, by omega⟩
              obtain ⟨-, rk3, -, -, -⟩ := HFT.out _ hM2.out.1
              obtain ⟨b3, o3, e3, -, x3⟩ := rk3.elem q' (by omega)
              cases e3
              have y3 := x3 _ (Below.refl _ _)
              obtain ⟨x0, hx0⟩ : ∃ y, ks[q']?.getD 0 = y := ⟨_, rfl⟩
              rw [hx0] at y3
              have hri := HRI.out q' hqn
              rw [hx, hx0] at hri
              have hd3 : decide (x' ≤ x0) = false := by rw [decide_eq_false_iff_not]; omega
              have hz1 : (0 : Int) < (q' : Int) + 1 := by omega
              have hz2 : (0 : Int) ≤ (q' : Int) := by omega
              have hz3 : (q' : Int) < (nl : Int) := by omega
              have hz4 : (q' : Int) + 1 < (nl : Int) := by omega
              have hz5 : decide ((nl : Int) ≤ (q' : Int) + 1) = false := by rw [decide_eq_false_iff_not]; omega
              clear x1 x3 hx hx0 hz hqn3 rk3
              go_wp2
              go_quiet (fail)
              go_wp2_with fail
              refine (CV.out _).mono ?_
              rintro e w3 ⟨fd2, v2, rfl, hV, hb⟩
              obtain ⟨rfl, rfl⟩ := HQ3.out fd2 v2 hV
              have hbb3 : Below wr.heap.size wr w3 := Below.trans (⟨rfl, rfl, rfl, Nat.le_refl _, fun _ _ => rfl⟩ : Below wr.heap.size wr (wr.drewN nq)) hb
              have hM3 := hideIt (And.intro (hM2.out.1.below hbb3) (hM2.out.2.below hbb3))
              have y2 := HX2.out _ hbb3
              rw [HY.out] at y2
              clear hM2 CV hb hV y1 y3 a4 a5 HQ3 hbb3
              have a5 := hM3.out.1.ans 5 (.slice (some ⟨b2, o2, none⟩) nl cv) rfl
              go_wp2
              go_roundw
              case rel => exact ⟨q' + 1 + 1, c', by go_num, by go_num, by omega, by omega, by omega, by have := hq3.out; unfold Hid; omega, hM3.out⟩
              case measure => simp [intOf]
          · obtain rfl : c = 0 := by omega
            have hM4 := hideIt hM2.out.1
            go_wp2
            go_roundw
            case rel => exact ⟨k + 1, by omega, by go_num, by show _ = Value.int .i64 (bel[k]?.getD 0); rw [HBE.out]; rfl, by show _ = Value.int .i64 (ts[(pts[k]?.getD 0).toNat]?.getD 0); rw [HPT.out, ← HTP.out]; rfl, by rw [HNX.out, ← hq3.out]; rfl, hM4.out⟩
            case measure => simp [intOf]; omega
      · obtain rfl : k = m + 1 := by omega
        rw [HSE.out, HSS.out]
        obtain ⟨hbb0, hbb1⟩ := HBB.out
        obtain ⟨⟨-, q2, -⟩, rk2, -, -, -⟩ := HFT.out _ hM.out
        have a4 := hM.out.ans 4 (.slice ak nl ck) rfl
        have HE : Hid (∃ ov' o', OrdI { x with ov := ov' } o' ∧ M w0 B wr (({ x with ov := ov' } : Wd).as ++ (.row 109 4 ov' o'.length (dnc o') :: fr))) := by
          obtain ⟨ov', o', h1, h2⟩ := hM.out
          exact ⟨ov', o', h1, h2.sub (List.Sublist.append_left (List.Sublist.cons_cons _ (List.sublist_cons_self _ _)) _)⟩
        rcases HEND.out with ⟨h12e, hbe⟩ | ⟨hlt12, hbe⟩
        · subst h12e
          obtain ⟨b1, o1, e1, -, x1⟩ := rk2.elem 11 (by omega)
          subst e1
          have y1 := x1 _ (Below.refl _ _)
          have hg : ks.getLast?.getD 0 = ks[11]?.getD 0 := by rw [List.getLast?_eq_getElem?, HNL.out]
          obtain ⟨z, hz⟩ : ∃ y, ks[11]?.getD 0 = y := ⟨_, rfl⟩
          rw [hg, hz] at hbe
          rw [hz] at y1
          subst hbe
          clear x1 hg hz hk hlt rk2
          go_wp2
          go_ret
          exact ⟨rfl, HE.out⟩
        · have hne : ((nl : Int) == 12) = false := by simp; omega
          subst hbe
          clear hk hlt rk2
          go_wp2
          go_ret
          exact ⟨rfl, HE.out⟩
set_option maxRecDepth 100000 in
set_option maxHeartbeats 6400000 in
theorem pieces_gen (sv : Value) (ts : List Tn) (Inv : Nat → Wd → Prop) (rk : Nat → Wd → Nat) (w : World) (htab : Tab w) (hT : TRd w sv ts) (hok : ∀ t ∈ ts, t.ok) (hlen : ts.length ≤ 1048576) (G : Good Inv rk)
    (hSin : ∀ gw x, Inv gw x → (∀ c, c < 64 → x.bs[c]? = some (-1)) → x.now ≤ 90000000 → ∀ d ∈ x.ds, d.k = 4 → PcsOk x d) :
    Calls Tryz.prog 6 #[sv] w fun e w' => e = .returned (.bool true) ∧ Below w.heap.size w w' := by
  have HT := hideIt hT
  have HOK := hideIt hok
  have HL := hideIt hlen
  have HG := hideIt G
  have HSI := hideIt hSin
  obtain ⟨ao, cap, rfl, -⟩ := hT
  obtain ⟨Pv, Pb, hpv, hp0⟩ := G.pv w htab
  have CP := hideIt (proved_gen Pv Pb w hpv hp0)
  clear hok hlen G hpv hp0 hSin
  go_enter Tryz.func6, Tryz.ntmps6
  go_wp2_with fail
  refine CP.out.mono ?_
  rintro e w1 ⟨rfl, hb1⟩
  have HB1 := hideIt hb1
  have HMC := hideIt (HG.out.mc w1 (htab.below hb1))
  have CQ := hideIt (play_gen _ ts (Inv w1.heap.size) rk w1 (HT.out.below hb1) HOK.out HL.out HMC.out (HG.out.ini w1.heap.size))
  clear hb1 CP HT
  go_wp2_with fail
  refine CQ.out.mono ?_
  rintro e w2 ⟨rfl, x, hI, hn, hd, hM⟩
  have CS := hideIt (HMC.out.settle x w2 [] hI (by have := HL.out; omega) hM)
  have HN := hideIt hn
  have HD := hideIt hd
  clear CQ hI hn hM hd
  go_wp2_with fail
  refine CS.out.mono ?_
  rintro e w3 ⟨⟨u, rfl⟩, x3, hI3, hid3, hn3, hd3, hM3⟩
  have hg : Hid (x3.gw = w1.heap.size) := HMC.out.pg x3 hI3
  have HS3 := hideIt (HSI.out _ x3 hI3 hid3 (by have := HL.out; have := HN.out; omega))
  have HV3 := hideIt (HG.out.over _ x3 hI3 hid3 (by have := HL.out; have := HN.out; omega))
  obtain ⟨n, hnn⟩ : ∃ n, x3.ds.length = n := ⟨_, rfl⟩
  have HNN := hideIt hnn
  have HN6 : Hid (n ≤ 1048576) := by unfold Hid; have := HL.out; have := HD.out; omega
  have A0 := hideIt (M.snocNil (e := 109) (z := 4) hM3)
  have HOv := hideIt (HG.out.ov _ x3 hI3)
  clear CS hI3 hM3 hid3 hn3 hd3 hnn
  go_wp2
  obtain ⟨gw, hgw⟩ : ∃ g, w1.heap.size = g := ⟨_, rfl⟩
  rw [hgw] at hg A0 ⊢
  have HGW := hideIt hgw
  clear hgw HMC
  have hg' := hg.out
  subst hg'
  go_loopw [5] (fun y wr => ∃ (j : Nat) (ov' : Value) (o' : List Dn), y = .int .i64 j ∧ j ≤ n ∧ Hid (OrdI { x3 with ov := ov' } o') ∧ Hid (M w1 x3.gw wr (({ x3 with ov := ov' } : Wd).as ++ [.row 109 4 ov' o'.length (dnc o')]))) (fun i _ => n - (intOf i).toNat)
  case atStart =>
    refine ⟨0, .slice none 0 0, [], rfl, by omega, Or.inl ⟨rfl, rfl⟩, ?_⟩
    have h1 := A0.out
    have e1 : ({ x3 with ov := .slice none 0 0 } : Wd) = x3 := by have := HOv.out; cases x3; simp only at this; subst this; rfl
    rw [e1]
    rw [List.append_nil] at h1
    exact h1
  case round =>
    clear A0
    obtain ⟨j, ov', o', rfl, hj, hO, hM⟩ := hrel
    have g14 := hM.out.cell (i := 0) rfl 14 (.bool false) rfl
    by_cases hlt : j < n
    · obtain ⟨d, hd⟩ : ∃ d, x3.ds[j]? = some d := ⟨_, List.getElem?_eq_getElem (by rw [HNN.out]; exact hlt)⟩
      have hj0 : (0 : Int) ≤ (j : Int) := by omega
      have hj1 : (j : Int) < (n : Int) := by omega
      have hn6 := HN6.out
      obtain ⟨dg, dc, g3, c0, d0⟩ := M.deedAt (x := { x3 with ov := ov' }) hM.out hd HNN.out
      have hmem := List.mem_of_getElem? hd
      by_cases hk : d.k = 4
      · rw [hk] at d0
        obtain ⟨m, bel, pts, b, sn, hP⟩ := HS3.out d hmem hk
        have CS := hideIt (pieces_at { x3 with ov := ov' } d o' j m [] w1 wr x3.gw bel pts b sn hd HV3.out (by show x3.ds.length ≤ _; rw [HNN.out]; omega) hO.out hM.out hP.er hP.fd hP.va hP.cs hP.bl hP.pl hP.mm hP.ks hP.s0 hP.sE hP.fE hP.pt hP.pa hP.ri hP.bb hP.h12 hP.nd hP.v0 hP.v1 hP.k0)
        clear hM hd hmem hk hP
        go_wp2_with fail
        refine CS.out.mono ?_
        rintro e w4 ⟨rfl, ov2, o2, hO2, hM2⟩
        have HM2 := hideIt hM2
        have HO2 := hideIt hO2
        clear CS hO2 hM2 d0 c0 g3 g14
        go_wp2
        go_roundw
        case rel => exact ⟨j + 1, ov2, o2, by go_num, by omega, HO2.out, HM2.out⟩
        case measure => simp [intOf]; omega
      · have hkb : (d.k == 4) = false := by simp [hk]
        have HM2 := hideIt hM.out
        clear hM hd hmem hk
        go_wp2
        go_roundw
        case rel => exact ⟨j + 1, ov', o', by go_num, by omega, hO.out, HM2.out⟩
        case measure => simp [intOf]; omega
    · obtain rfl : j = n := by omega
      obtain ⟨da, dc, hdv⟩ := As.form0 (hM.out.get (i := 2) rfl)
      rw [show ({ x3 with ov := ov' } : Wd).dv = x3.dv from rfl, show ({ x3 with ov := ov' } : Wd).ds.length = j from HNN.out] at hdv
      have g3 := hM.out.cell (i := 0) rfl 3 x3.dv rfl
      rw [hdv] at g3
      have HB3 := hideIt (step HB1.out (by have := hM.out.bl; rw [← HGW.out] at this; exact this))
      clear hM
      go_wp2
      go_ret
      exact ⟨rfl, HB3.out⟩
end Go.Proofs.YtajobgmnmbnhiaaGreatDoor.Sap
