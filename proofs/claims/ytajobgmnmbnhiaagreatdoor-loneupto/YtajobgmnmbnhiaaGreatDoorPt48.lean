/- WHAT IS PROVED HERE: saplingkeep's pieces answers true of a Scan that has ended as it should, held against one map. Conditions: named at the theorem. -/
import Derived.Test.YtajobgmnmbnhiaaGreatDoorPt45
namespace Go.Proofs.YtajobgmnmbnhiaaGreatDoor.Sap
open Go.RowKit
set_option maxRecDepth 100000 in
set_option maxHeartbeats 6400000 in
theorem pieces_fix (gd gt cg m cc : Nat) (gwv : Value) (key val pt b : Int) (fd : Bool) (kv vv tm tk tvv : Value) (ks vs K V bel pts ts : List Int) (sn : Nat → Nat) (w : World)
    (d1 : w.cell? ⟨gd, 1, none⟩ = some (.int .i64 key)) (d2 : w.cell? ⟨gd, 2, none⟩ = some (.int .i64 val)) (d4 : w.cell? ⟨gd, 4, none⟩ = some tm) (d8 : w.cell? ⟨gd, 8, none⟩ = some (.int .i64 0)) (d9 : w.cell? ⟨gd, 9, none⟩ = some (.bool fd)) (d10 : w.cell? ⟨gd, 10, none⟩ = some (.int .i64 ks.length)) (d11 : w.cell? ⟨gd, 11, none⟩ = some (.int .i64 pt)) (d12 : w.cell? ⟨gd, 12, none⟩ = some kv) (d13 : w.cell? ⟨gd, 13, none⟩ = some vv) (d14 : w.cell? ⟨gd, 14, none⟩ = some (.slice (some ⟨cg, 0, none⟩) (m + 1) cc))
    (t0 : w.cell? ⟨gt, 0, none⟩ = some tk) (t1 : w.cell? ⟨gt, 1, none⟩ = some tvv) (rk : Rd w kv ks) (rv : Rd w vv vs) (rt : Rd w tm ts) (rK : Rd w tk K) (rV : Rd w tvv V)
    (hc : ∀ i, i < m + 1 → w.cell? ⟨cg, i * 2, none⟩ = some (.int .i64 (bel[i]?.getD 0)) ∧ w.cell? ⟨cg, i * 2 + 1, none⟩ = some (.int .i64 (pts[i]?.getD 0)))
    (hpl : pts.length = m + 1) (hm : m ≤ 1000000) (hKV : K.length = V.length) (hK120 : K.length ≤ 1000000000) (hks : ks.length = vs.length) (hs0 : sn 0 = 0) (hsE : sn (m + 1) = ks.length) (hfE : fromV bel key (m + 1) = b) (hpt : pts.getLast? = some pt)
    (hPA : ∀ i, i < m + 1 → ∃ p be k, PcR K V ks vs key val bel pts ts sn i p be k) (hRI : ∀ i, i + 1 < ks.length → ks[i]?.getD 0 < ks[i + 1]?.getD 0) (hbb : key + 1 ≤ b ∧ b ≤ val + 1)
    (h12 : ks.length ≤ 12) (hfd : fd = decide (0 < ks.length)) (hend : (ks.length = 12 ∧ b = ks.getLast?.getD 0 + 1) ∨ (ks.length < 12 ∧ b = val + 1)) (hv0 : 0 ≤ val) (hv1 : val ≤ 9999) (hk0 : 0 ≤ key) :
    Calls Tryz.prog 13 #[gwv, .pointer (some ⟨gd, 0, none⟩), .pointer (some ⟨gt, 0, none⟩)] w fun e w' => e = .returned (.bool true) ∧ Below w.heap.size w w' := by
  have HRK := hideIt rk
  have HRV := hideIt rv
  have HRT := hideIt rt
  have HRKK := hideIt rK
  have HRVV := hideIt rV
  obtain ⟨ak, ck, rfl⟩ := rk.len
  obtain ⟨av, cv, rfl⟩ := rv.len
  have HPA := hideIt hPA
  have HRI := hideIt hRI
  have HS0 := hideIt hs0
  have HSE := hideIt hfE
  have HBB := hideIt hbb
  have HSS := hideIt hsE
  have hlp : pts[m]?.getD 0 = pt := by
    rw [List.getLast?_eq_getElem?, hpl, Nat.add_sub_cancel] at hpt
    rw [hpt]; rfl
  have hcm := (hc m (by omega)).2
  rw [hlp] at hcm
  have HC : Hid (∀ W i, Below w.heap.size w W → i < m + 1 → W.cell? ⟨cg, i * 2, none⟩ = some (.int .i64 (bel[i]?.getD 0)) ∧ W.cell? ⟨cg, i * 2 + 1, none⟩ = some (.int .i64 (pts[i]?.getD 0))) := fun W i hb hi => ⟨cell_below hb _ _ (hc i hi).1, cell_below hb _ _ (hc i hi).2⟩
  have HD : Hid (∀ W, Below w.heap.size w W → W.cell? ⟨gd, 1, none⟩ = some (.int .i64 key) ∧ W.cell? ⟨gd, 2, none⟩ = some (.int .i64 val) ∧ W.cell? ⟨gd, 4, none⟩ = some tm ∧ W.cell? ⟨gt, 0, none⟩ = some tk ∧ W.cell? ⟨gt, 1, none⟩ = some tvv) := fun W hb => ⟨cell_below hb _ _ d1, cell_below hb _ _ d2, cell_below hb _ _ d4, cell_below hb _ _ t0, cell_below hb _ _ t1⟩
  have hcg : cg < w.heap.size := by
    rcases Nat.lt_or_ge cg w.heap.size with h | h
    · exact h
    · simp [World.cell?, Array.getElem?_eq_none h] at hcm
  obtain ⟨nl, hnl⟩ : ∃ n, ks.length = n := ⟨_, rfl⟩
  rw [← hks] at d13 HRV
  rw [hnl] at d10 d12 d13 HRK HRV h12 hfd hend HRI HSS hks
  have HNL := hideIt hnl
  have HVL := hideIt hks
  have HEND := hideIt hend
  have HKV := hideIt hKV
  clear rk rv rt rK rV hc hpl hKV hpt hlp hnl hks hend d4 t0 t1 hPA hRI hs0 hsE hfE hbb
  have A0 := hideIt ((M.start w).alloc #[.int .i64 0, .bool fd, .int .i64 nl, .int .i64 pt, .slice ak nl ck, .slice av nl cv, .slice (some ⟨cg, 0, none⟩) (m + 1) cc] 46)
  have HFD := hideIt hfd
  have hcm2 : ∀ p, (w.alloc p).cell? ⟨cg, m * 2 + 1, none⟩ = some (.int .i64 pt) := fun p => cell_below ((Below.refl _ _).alloc (Nat.le_refl _) p) _ _ hcm
  have hm0 : (0 : Int) ≤ (m : Int) := by omega
  have hdn : decide ((12 : Int) < (nl : Int)) = false := by rw [decide_eq_false_iff_not]; omega
  have hcz : (((m : Int) + 1) == 0) = false := by simp; omega
  clear hfd hcm
  go_enter Tryz.func13, Tryz.ntmps13
  go_upto_region 4 with fail
  go_cut [73] (fun u wy => u = .bool false ∧ Hid (M w w.heap.size wy [.blk w.heap.size #[.int .i64 0, .bool fd, .int .i64 nl, .int .i64 pt, .slice ak nl ck, .slice av nl cv, .slice (some ⟨cg, 0, none⟩) (m + 1) cc] 46]))
  case first =>
    have a0 := A0.out.cell (i := 0) rfl 0 (.int .i64 0) rfl
    have a1 := A0.out.cell (i := 0) rfl 1 (.bool fd) rfl
    have a2 := A0.out.cell (i := 0) rfl 2 (.int .i64 nl) rfl
    have a3 := A0.out.cell (i := 0) rfl 3 (.int .i64 pt) rfl
    have a4 := A0.out.cell (i := 0) rfl 4 (.slice ak nl ck) rfl
    have a5 := A0.out.cell (i := 0) rfl 5 (.slice av nl cv) rfl
    have a6 := A0.out.cell (i := 0) rfl 6 (.slice (some ⟨cg, 0, none⟩) (m + 1) cc) rfl
    by_cases h0 : 0 < nl
    · obtain rfl : fd = true := by rw [HFD.out]; simp [h0]
      have h0i : (0 : Int) < (nl : Int) := by omega
      clear d1 d2 d8 d9 d10 d11 d12 d13 d14
      go_wp2
      go_quiet (fail)
      go_wp2
      go_meet
      case rel => exact ⟨rfl, A0.out.drewN _⟩
    · obtain rfl : fd = false := by rw [HFD.out]; simp [h0]
      have h0i : decide ((0 : Int) < (nl : Int)) = false := by rw [decide_eq_false_iff_not]; omega
      clear d1 d2 d8 d9 d10 d11 d12 d13 d14
      go_wp2
      go_quiet (fail)
      go_wp2
      go_meet
      case rel => exact ⟨rfl, A0.out.drewN _⟩
  case rest =>
    obtain ⟨rfl, hM0⟩ := hcut
    clear A0 hcm2 hcz hdn d1 d2 d8 d9 d10 d11 d12 d13 d14 HFD
    obtain ⟨e1, -, -, -, -⟩ := HD.out _ hM0.out.bl
    have hnl : (nl : Int) ≤ 12 := by omega
    go_wp2
    go_loopw [10, 11, 12, 13] (fun f l sv i wr => ∃ k : Nat, k ≤ m + 1 ∧ i = .int .i64 k ∧ f = .int .i64 (fromV bel key k) ∧ l = .int .i64 (lastT ts pts k) ∧ sv = .int .i64 (sn k) ∧ Hid (M w w.heap.size wr [.blk w.heap.size #[.int .i64 0, .bool fd, .int .i64 nl, .int .i64 pt, .slice ak nl ck, .slice av nl cv, .slice (some ⟨cg, 0, none⟩) (m + 1) cc] 46])) (fun _ _ _ i _ => m + 1 - (intOf i).toNat)
    case atStart => exact ⟨0, by omega, rfl, rfl, rfl, by rw [HS0.out]; rfl, hM0.out⟩
    case round =>
      clear hM0 e1
      obtain ⟨k, hk, rfl, rfl, rfl, rfl, hM⟩ := hrel
      by_cases hlt : k < m + 1
      · obtain ⟨p, be, cn, hP⟩ := HPA.out k hlt
        have HP := hideIt hP
        have y2 := (HC.out _ k hM.out.bl hlt).2
        rw [hP.pt] at y2
        simp only [Option.getD_some] at y2
        have a6 := hM.out.cell (i := 0) rfl 6 (.slice (some ⟨cg, 0, none⟩) (m + 1) cc) rfl
        obtain ⟨fr, hfr⟩ : ∃ x, fromV bel key k = x := ⟨_, rfl⟩
        obtain ⟨la, hla⟩ : ∃ x, lastT ts pts k = x := ⟨_, rfl⟩
        obtain ⟨se, hse⟩ : ∃ x, sn k = x := ⟨_, rfl⟩
        obtain ⟨nx, hnx⟩ : ∃ x, sn (k + 1) = x := ⟨_, rfl⟩
        obtain ⟨tp, htp⟩ : ∃ x, ts[p]?.getD 0 = x := ⟨_, rfl⟩
        have hpj := hP.pj
        have hlast := hP.last
        rw [hla, htp] at hlast
        have hlo := hP.lo
        rw [hfr] at hlo
        have hhi := hP.hi
        have HFR := hideIt hfr
        have HSEE := hideIt hse
        have HNX := hideIt hnx
        have HTP := hideIt htp
        have hle := hP.le
        rw [hnx, HNL.out] at hle
        have hsn := hP.nx
        rw [hse, hnx] at hsn
        have HSN := hideIt hsn
        have hkk : (0 : Int) ≤ (k : Int) := by omega
        have hkl : (k : Int) < (m : Int) + 1 := by omega
        have hkn : k < m + 1 := hlt
        rw [hfr, hla, hse]
        clear hP hfr hla hse hnx htp hsn
        go_wp2_with fail
        obtain ⟨-, -, q4, -, -⟩ := HD.out _ hM.out.bl
        refine (point_yes gd tm ts p _ q4 (HRT.out.below hM.out.bl) hpj).mono ?_
        rintro e w1 ⟨rfl, hb⟩
        rw [HTP.out]
        have hM1 := hideIt (hM.out.below hb)
        clear hM hb y2 a6 q4
        have y1 := (HC.out _ k hM1.out.bl hlt).1
        rw [HP.out.be] at y1
        simp only [Option.getD_some] at y1
        obtain ⟨-, q2, -, q5, q6⟩ := HD.out _ hM1.out.bl
        have a6 := hM1.out.cell (i := 0) rfl 6 (.slice (some ⟨cg, 0, none⟩) (m + 1) cc) rfl
        have hd1 : decide (tp ≤ la) = false := by rw [decide_eq_false_iff_not]; omega
        have hd2 : decide (be ≤ fr) = false := by rw [decide_eq_false_iff_not]; omega
        have hd3 : decide (val + 1 < be) = false := by rw [decide_eq_false_iff_not]; omega
        go_wp2_with fail
        refine (within_any gt tk K fr be _ q5 (HRKK.out.below hM1.out.bl) (by omega)).mono ?_
        rintro e w2 ⟨rfl, rfl⟩
        have hcn := HP.out.cnt
        rw [HFR.out] at hcn
        rw [hcn]
        clear hcn y1 q2 a6 hd1 hd2 hd3 q5 q6
        go_wp2
        go_loopw [12, 18] (fun sv r wx => ∃ q c : Nat, sv = .int .i64 q ∧ r = .int .i64 c ∧ q ≤ 12 ∧ c ≤ 12 ∧ se ≤ q ∧ Hid (q + c = nx) ∧ Hid (M w w.heap.size wx [.blk w.heap.size #[.int .i64 0, .bool fd, .int .i64 nl, .int .i64 pt, .slice ak nl ck, .slice av nl cv, .slice (some ⟨cg, 0, none⟩) (m + 1) cc] 46])) (fun _ r _ => (intOf r).toNat)
        case atStart => exact ⟨se, cn, rfl, rfl, by have := HSN.out; omega, by have := HSN.out; omega, Nat.le_refl _, HSN.out, hM1.out⟩
        case round =>
          clear hM1
          obtain ⟨q, c, rfl, rfl, hq1, hc1, hq2, hq3, hM2⟩ := hrel
          by_cases hc0 : 0 < c
          · obtain ⟨c', rfl⟩ : ∃ c', c = c' + 1 := ⟨c - 1, by omega⟩
            have hqn : q < nl := by have := hq3.out; omega
            have hqn2 : (q : Int) < (nl : Int) := by omega
            have hqn3 : decide ((nl : Int) ≤ (q : Int)) = false := by rw [decide_eq_false_iff_not]; omega
            have hq0 : (0 : Int) ≤ (q : Int) := by omega
            obtain ⟨b1, o1, e1, -, x1⟩ := HRK.out.elem q hqn
            obtain ⟨b2, o2, e2, -, x2⟩ := HRV.out.elem q hqn
            have HQ := HP.out.keys (q - se) (by have := hq3.out; have := HSN.out; omega)
            rw [HSEE.out, HFR.out, show se + (q - se) = q by omega] at HQ
            have y1 := x1 _ hM2.out.bl
            have y2 := x2 _ hM2.out.bl
            obtain ⟨x, hx⟩ : ∃ y, ks[q]?.getD 0 = y := ⟨_, rfl⟩
            obtain ⟨y, hy⟩ : ∃ y, vs[q]?.getD 0 = y := ⟨_, rfl⟩
            rw [hx] at y1 HQ
            rw [hy] at y2 HQ
            obtain ⟨hQ1, hQ2, hQ3⟩ := HQ
            have HQ3 := hideIt hQ3
            have hd1 : decide (x < fr) = false := by rw [decide_eq_false_iff_not]; omega
            have hd2 : decide (be ≤ x) = false := by rw [decide_eq_false_iff_not]; omega
            have a4 := hM2.out.cell (i := 0) rfl 4 (.slice ak nl ck) rfl
            have a5 := hM2.out.cell (i := 0) rfl 5 (.slice av nl cv) rfl
            obtain ⟨-, -, -, q5, q6⟩ := HD.out _ hM2.out.bl
            have CV := hideIt (fun W (hb : Below w.heap.size w W) => value_any gt tk tvv K V x W (HD.out _ hb).2.2.2.1 (HD.out _ hb).2.2.2.2 (HRKK.out.below hb) (HRVV.out.below hb) (by omega) HKV.out)
            have HX2 := hideIt x2
            have HY := hideIt hy
            subst e1
            subst e2
            clear x2 hy hQ3
            rcases Nat.eq_zero_or_pos q with hz | hz
            · subst hz
              have hz1 : decide ((nl : Int) ≤ 0) = false := by rw [decide_eq_false_iff_not]; omega
              have hz2 : decide (nl = 0) = false := by rw [decide_eq_false_iff_not]; omega
              have hz3 : (0 : Int) < (nl : Int) := by omega
              clear hqn3 hqn2 hq0
              clear x1 hx
              simp only [Nat.add_zero] at y1 y2
              go_wp2
              go_quiet (fail)
              go_wp2_with fail
              refine (CV.out _ (hM2.out.drewN _).bl).mono ?_
              rintro e w3 ⟨fd2, v2, rfl, hV, hb⟩
              obtain ⟨rfl, rfl⟩ := HQ3.out fd2 v2 hV
              have hM3 := hideIt ((hM2.out.drewN _).below hb)
              clear hM2 CV hb hV y1 y2 a4 a5 q5 q6 HQ3
              have y2 := HX2.out _ hM3.out.bl
              rw [HY.out] at y2
              simp only [Nat.add_zero] at y2
              have a5 := hM3.out.cell (i := 0) rfl 5 (.slice (some ⟨b2, o2, none⟩) nl cv) rfl
              go_wp2
              go_roundw
              case rel => exact ⟨1, c', by go_num, by go_num, by omega, by omega, by omega, by have := hq3.out; unfold Hid; omega, hM3.out⟩
              case measure => simp [intOf]
            · obtain ⟨q', rfl⟩ : ∃ q', q = q' + 1 := ⟨q - 1, by omega⟩
              obtain ⟨b3, o3, e3, -, x3⟩ := HRK.out.elem q' (by omega)
              cases e3
              have y3 := x3 _ hM2.out.bl
              obtain ⟨x0, hx0⟩ : ∃ y, ks[q']?.getD 0 = y := ⟨_, rfl⟩
              rw [hx0] at y3
              have hri := HRI.out q' hqn
              rw [hx, hx0] at hri
              have hd3 : decide (x ≤ x0) = false := by rw [decide_eq_false_iff_not]; omega
              have hz1 : (0 : Int) < (q' : Int) + 1 := by omega
              have hz2 : (0 : Int) ≤ (q' : Int) := by omega
              have hz3 : (q' : Int) < (nl : Int) := by omega
              have hz4 : (q' : Int) + 1 < (nl : Int) := by omega
              have hz5 : decide ((nl : Int) ≤ (q' : Int) + 1) = false := by rw [decide_eq_false_iff_not]; omega
              clear x1 x3 hx hx0 hz hqn3
              go_wp2
              go_quiet (fail)
              go_wp2_with fail
              refine (CV.out _ (hM2.out.drewN _).bl).mono ?_
              rintro e w3 ⟨fd2, v2, rfl, hV, hb⟩
              obtain ⟨rfl, rfl⟩ := HQ3.out fd2 v2 hV
              have hM3 := hideIt ((hM2.out.drewN _).below hb)
              clear hM2 CV hb hV y1 y2 a4 a5 q5 q6 HQ3
              have y2 := HX2.out _ hM3.out.bl
              rw [HY.out] at y2
              have a5 := hM3.out.cell (i := 0) rfl 5 (.slice (some ⟨b2, o2, none⟩) nl cv) rfl
              go_wp2
              go_roundw
              case rel => exact ⟨q' + 1 + 1, c', by go_num, by go_num, by omega, by omega, by omega, by have := hq3.out; unfold Hid; omega, hM3.out⟩
              case measure => simp [intOf]
          · obtain rfl : c = 0 := by omega
            go_wp2
            go_roundw
            case rel => exact ⟨k + 1, by omega, by go_num, by show _ = Value.int .i64 (bel[k]?.getD 0); rw [HP.out.be]; rfl, by show _ = Value.int .i64 (ts[(pts[k]?.getD 0).toNat]?.getD 0); rw [HP.out.pt, ← HTP.out]; rfl, by rw [HNX.out, ← hq3.out]; rfl, hM2.out⟩
            case measure => simp [intOf]; omega
      · obtain rfl : k = m + 1 := by omega
        rw [HSE.out, HSS.out]
        obtain ⟨hbb0, hbb1⟩ := HBB.out
        obtain ⟨-, q2, -, -, -⟩ := HD.out _ hM.out.bl
        have a4 := hM.out.cell (i := 0) rfl 4 (.slice ak nl ck) rfl
        rcases HEND.out with ⟨h12e, hbe⟩ | ⟨hlt12, hbe⟩
        · subst h12e
          obtain ⟨b1, o1, e1, -, x1⟩ := HRK.out.elem 11 (by omega)
          subst e1
          have y1 := x1 _ hM.out.bl
          have hg : ks.getLast?.getD 0 = ks[11]?.getD 0 := by rw [List.getLast?_eq_getElem?, HNL.out]
          obtain ⟨z, hz⟩ : ∃ y, ks[11]?.getD 0 = y := ⟨_, rfl⟩
          rw [hg, hz] at hbe
          rw [hz] at y1
          subst hbe
          clear x1 hg hz hk hlt
          go_wp2
          go_ret
          exact ⟨rfl, hM.out.bl⟩
        · have hne : ((nl : Int) == 12) = false := by simp; omega
          subst hbe
          clear hk hlt
          go_wp2
          go_ret
          exact ⟨rfl, hM.out.bl⟩
theorem M.pages {w0 W : World} {B : Nat} {x : Wd} {fr : List As} (h : M w0 B W (x.as ++ fr)) : PgR x.gw x.tg x.tc x.ug x.uc x.T x.U W := by
  refine ⟨h.cell (i := 0) rfl 0 _ rfl, h.cell (i := 0) rfl 1 _ rfl, fun p hp => ?_⟩
  have h1 := (h.get (i := 3) rfl).own.1
  have h2 := (h.get (i := 4) rfl).own.1
  simp [strs] at h1
  simp [bools] at h2
  have ht : x.T[p]? = some (x.T[p]'(by omega)) := List.getElem?_eq_getElem (by omega)
  have hu : x.U[p]? = some (x.U[p]'(by omega)) := List.getElem?_eq_getElem (by omega)
  exact ⟨_, _, ht, hu, h.rowCell (i := 3) rfl p _ (strs_get ht), h.rowCell (i := 4) rfl p _ (bools_get hu)⟩
set_option maxRecDepth 100000 in
set_option maxHeartbeats 3200000 in
theorem levels_any (gw tg tc ug uc : Nat) (T : List ByteArray) (U : List Bool) (n : Nd) (w : World) (h : PgR gw tg tc ug uc T U w) (hs : Says T U 0 n) :
    Calls Tryz.prog 16 #[.pointer (some ⟨gw, 0, none⟩)] w fun e w' => e = .returned (.int .i64 (n.lv + 1)) ∧ Below w.heap.size w w' := by
  obtain ⟨hp, hu, t, ht, hn⟩ := hs
  obtain ⟨c0, c1, c2⟩ := h
  obtain ⟨t', b, a1, a2, a3, a4⟩ := c2 0 hp
  rw [ht] at a1; cases a1
  have hsz := size_of_unp ⟨n, hn⟩
  have hlv : 0 ≤ n.lv ∧ n.lv ≤ 9 := by
    have := hn.1
    simp only [rightB, Bool.and_eq_true, decide_eq_true_eq] at this
    omega
  have HN := hideIt hn
  clear c1 c2 a4 a2 ht hu hn
  go_enter Tryz.func16, Tryz.ntmps16
  go_wp2_with fail
  refine (unpack_any t _ (by omega)).mono ?_
  rintro e w2 ⟨hR, hb⟩
  rcases hR with ⟨n', kv, vv, hn', hO, rfl⟩ | ⟨hno, -⟩
  case inr => exact absurd HN.out (hno n)
  obtain rfl : n' = n := hn'.uniq HN.out
  have A1 := hO.m hb
  obtain ⟨ka, kc, rfl⟩ := As.form0 (A1.get (i := 0) rfl)
  obtain ⟨va, vc, rfl⟩ := As.form0 (A1.get (i := 1) rfl)
  have HB := hideIt (step hb ((Below.refl w2.heap.size w2).alloc (Nat.le_refl _) (.cells #[.int .i64 n'.lv, .int .i64 n'.lk, .int .i64 n'.hi, .slice ka n'.ks.length kc, .slice va n'.vs.length vc] 67)))
  clear hO hb hn' A1 a3 c0 HN
  go_wp2
  go_ret
  exact ⟨rfl, HB.out⟩
structure PcsL (K V : List Int) (d : Dd) (m : Nat) (bel pts : List Int) (b : Int) (sn : Nat → Nat) : Prop where
  er : d.er = 0
  fd : d.fd = decide (0 < d.ks.length)
  va : d.va = d.ks.length
  cs : d.cs = bel.zip pts
  bl : bel.length = m + 1
  pl : pts.length = m + 1
  mm : m ≤ 1000000
  ks : d.ks.length = d.vs.length
  s0 : sn 0 = 0
  sE : sn (m + 1) = d.ks.length
  fE : fromV bel d.key (m + 1) = b
  pt : pts.getLast? = some d.pt
  pa : ∀ i, i < m + 1 → ∃ p be k, PcR K V d.ks d.vs d.key d.v bel pts d.ts sn i p be k
  ri : ∀ i, i + 1 < d.ks.length → d.ks[i]?.getD 0 < d.ks[i + 1]?.getD 0
  bb : d.key + 1 ≤ b ∧ b ≤ d.v + 1
  h12 : d.ks.length ≤ 12
  nd : (d.ks.length = 12 ∧ b = d.ks.getLast?.getD 0 + 1) ∨ (d.ks.length < 12 ∧ b = d.v + 1)
  v0 : 0 ≤ d.v
  v1 : d.v ≤ 9999
  k0 : 0 ≤ d.key
theorem pieces_tab (x : Wd) (d : Dd) (n m gt l : Nat) (kv vv : Value) (K V : List Int) (fr : List As) (w0 w : World) (B : Nat) (bel pts : List Int) (b : Int) (sn : Nat → Nat) (hd : x.ds[n]? = some d) (hK : K.length = l) (hV : V.length = l) (hl : l ≤ 1000000000) (P : PcsL K V d m bel pts b sn)
    (h : M w0 B w (x.as ++ (.blk gt #[kv, vv] 55 :: .row 3 1 kv l (ints K) :: .row 3 1 vv l (ints V) :: fr))) :
    Calls Tryz.prog 13 #[.pointer (some ⟨x.gw, 0, none⟩), .pointer (some ⟨d.gd, 0, none⟩), .pointer (some ⟨gt, 0, none⟩)] w fun e w' => e = .returned (.bool true) ∧ Below w.heap.size w w' := by
  have D := M.deed (pre := []) h hd
  have hT := h.perm (l' := (.blk gt #[kv, vv] 55 :: .row 3 1 kv l (ints K) :: .row 3 1 vv l (ints V) :: fr) ++ x.as) List.perm_append_comm
  have hcl : d.cs.length = m + 1 := by rw [P.cs, List.length_zip, P.bl, P.pl]; omega
  obtain ⟨cg, cc, hcv⟩ := As.form (D.get (i := 11) rfl) (by omega)
  have d8 := D.cell (i := 0) rfl 8 (.int .i64 d.er) rfl
  have d9 := D.cell (i := 0) rfl 9 (.bool d.fd) rfl
  have d10 := D.cell (i := 0) rfl 10 (.int .i64 d.va) rfl
  have d14 := D.cell (i := 0) rfl 14 d.cv rfl
  rw [P.er] at d8
  rw [P.va] at d10
  rw [hcv, hcl] at d14
  have hrow := D.get (i := 11) rfl
  rw [hcv, hcl, P.cs] at hrow
  have rK : Rd w kv K := by have := owns_rd (h := by rw [hK]; exact (hT.get (i := 1) rfl).own); exact this
  have rV : Rd w vv V := by have := owns_rd (h := by rw [hV]; exact (hT.get (i := 2) rfl).own); exact this
  exact pieces_fix d.gd gt cg m cc _ d.key d.v d.pt b d.fd d.kv d.vv d.tm kv vv d.ks d.vs K V bel pts d.ts sn w (D.cell (i := 0) rfl 1 _ rfl) (D.cell (i := 0) rfl 2 _ rfl) (D.cell (i := 0) rfl 4 _ rfl) d8 d9 d10 (D.cell (i := 0) rfl 11 _ rfl) (D.cell (i := 0) rfl 12 _ rfl) (D.cell (i := 0) rfl 13 _ rfl) d14 (hT.cell (i := 0) rfl 0 _ rfl) (hT.cell (i := 0) rfl 1 _ rfl) (owns_rd (D.get (i := 9) rfl).own) (owns_rd (D.get (i := 10) rfl).own) (owns_rd (D.get (i := 2) rfl).own) rK rV (fun i hi => by
      have hb1 : bel[i]? = some (bel[i]'(by rw [P.bl]; exact hi)) := List.getElem?_eq_getElem _
      have hp1 : pts[i]? = some (pts[i]'(by rw [P.pl]; exact hi)) := List.getElem?_eq_getElem _
      have hz : (bel.zip pts)[i]? = some (bel[i]'(by rw [P.bl]; exact hi), pts[i]'(by rw [P.pl]; exact hi)) := by rw [List.getElem?_zip_eq_some]; exact ⟨hb1, hp1⟩
      obtain ⟨h1, h2⟩ := cutc_at hz
      rw [hb1, hp1]
      exact ⟨by rw [World.ownsRow.cellAt hrow.own _ (by omega)]; exact h1, by rw [World.ownsRow.cellAt hrow.own _ (by omega)]; exact h2⟩) P.pl P.mm (by rw [hK, hV]) (by omega) P.ks P.s0 P.sE P.fE P.pt P.pa P.ri P.bb P.h12 P.fd P.nd P.v0 P.v1 P.k0
structure Ro where
  k : Int
  key : Int
  v : Int
structure Ro.ok (t : Ro) : Prop where
  k : I64 t.k
  key : I64 t.key
  v : I64 t.v
def ORd (w : World) (v : Value) (ts : List Ro) : Prop :=
  ∃ ao cap, v = .slice ao ts.length cap ∧ (0 < ts.length → ∃ b off, ao = some ⟨b, off, none⟩ ∧ ∀ j t, ts[j]? = some t → w.cell? ⟨b, off + j * 3, none⟩ = some (.int .i64 t.k) ∧ w.cell? ⟨b, off + j * 3 + 1, none⟩ = some (.int .i64 t.key) ∧ w.cell? ⟨b, off + j * 3 + 2, none⟩ = some (.int .i64 t.v))
theorem ORd.below {w w' : World} {v : Value} {ts : List Ro} (h : ORd w v ts) (hb : Below w.heap.size w w') : ORd w' v ts := by
  obtain ⟨ao, cap, rfl, h⟩ := h
  refine ⟨ao, cap, rfl, fun hp => ?_⟩
  obtain ⟨b, off, rfl, k⟩ := h hp
  refine ⟨b, off, rfl, fun j t hj => ?_⟩
  obtain ⟨h0, h1, h2⟩ := k j t hj
  exact ⟨cell_below hb _ _ h0, cell_below hb _ _ h1, cell_below hb _ _ h2⟩
structure LnE (Rs : Nat → Wd → List Int × List Int → Nat → Prop) (gw : Nat) (x : Wd) (T : List Int × List Int) (I : Nat) (k key v : Int) (x2 : Wd) (d : Dd) : Prop where
  now : x2.now ≤ x.now + 300
  nd : x2.ds.length = x.ds.length + 1
  ds : x2.ds[x.ds.length]? = some d
  an : (k = 4 ∧ (∃ m bel pts b sn, PcsL T.1 T.2 d m bel pts b sn) ∧ Rs gw x2 T I) ∨ (k = 2 ∧ d.er = 4 ∧ 61 ≤ I ∧ Rs gw x2 T I) ∨
    (k ≠ 4 ∧ d.er = 0 ∧ (∀ fd u, ValR T.1 T.2 key fd u → d.fd = fd ∧ d.va = u) ∧ Rs gw x2 (tdo k key v T.1 T.2) (I + if k = 2 ∧ d.fd = false then 1 else 0) ∧ (k = 1 → x.rf = true ∨ ∀ nd, Says x.T x.U 0 nd → (d.ts.length : Int) = nd.lv + 1 ∧ d.pt = nd.lv))
structure LnOk (Rs : Nat → Wd → List Int × List Int → Nat → Prop) (Lb : Nat → Wd → List Int × List Int → Nat → Int → Int → Int → Wd → Prop) (w0 : World) : Prop where
  ini : ∀ tg tc ug uc vg vc bg bc, Rs w0.heap.size (Wd.first w0.heap.size tg tc ug uc vg vc bg bc) ([], []) 0
  pg : ∀ x T I, Rs w0.heap.size x T I → x.gw = w0.heap.size ∧ (∃ nd, Says x.T x.U 0 nd) ∧ T.1.length = T.2.length
  bg : ∀ x T I (k key v : Int) W (fr : List As), Rs w0.heap.size x T I → x.ds.length ≤ 89000000 → x.now ≤ 89000000 → opR k key v = true → M w0 w0.heap.size W (x.as ++ fr) → Calls Tryz.prog 10 #[.pointer (some ⟨w0.heap.size, 0, none⟩), .int .i64 0, .agg #[.int .i64 k, .int .i64 key, .int .i64 v]] W fun e w' => (∃ u, e = .returned u) ∧ ∃ x', Lb w0.heap.size x T I k key v x' ∧ M w0 w0.heap.size w' (x'.as ++ fr)
  pb : ∀ x T I k key v x', Lb w0.heap.size x T I k key v x' → x'.gw = w0.heap.size
  al : ∀ x T I (k key v : Int) x' W (fr : List As), Lb w0.heap.size x T I k key v x' → M w0 w0.heap.size W (x'.as ++ fr) → Calls Tryz.prog 11 #[.pointer (some ⟨w0.heap.size, 0, none⟩), .int .i64 0] W fun e w' => (∃ u, e = .returned u) ∧ ∃ x2 d, LnE Rs w0.heap.size x T I k key v x2 d ∧ M w0 w0.heap.size w' (x2.as ++ fr)
set_option maxRecDepth 100000 in
set_option maxHeartbeats 12800000 in
theorem lone_gen (sv : Value) (os : List Ro) (Inv : Nat → Wd → Prop) (rk : Nat → Wd → Nat) (Rs : Nat → Wd → List Int × List Int → Nat → Prop) (Lb : Nat → Wd → List Int × List Int → Nat → Int → Int → Int → Wd → Prop) (w : World) (htab : Tab w) (hT : ORd w sv os) (hok : ∀ t ∈ os, t.ok) (hlen : os.length ≤ 262144) (G : Good Inv rk) (hA : ∀ W, Tab W → LnOk Rs Lb W) :
    Calls Tryz.prog 4 #[sv] w fun e w' => e = .returned (.bool true) ∧ Below w.heap.size w w' := by
  have HT := hideIt hT
  obtain ⟨ao, cap, rfl, -⟩ := hT
  have HOK := hideIt hok
  have HLA := hideIt hA
  have HL := hideIt hlen
  obtain ⟨n, hn⟩ : ∃ n, os.length = n := ⟨_, rfl⟩
  have HNN := hideIt hn
  rw [hn] at HL HT ⊢
  obtain ⟨Pv, Pb, hpv, hp0⟩ := G.pv w htab
  have CP := hideIt (proved_gen Pv Pb w hpv hp0)
  clear hok hlen hn G hA hpv hp0
  go_enter Tryz.func4, Tryz.ntmps4
  go_wp2_with fail
  refine CP.out.mono ?_
  rintro e w1 ⟨rfl, hb1⟩
  have HB1 := hideIt hb1
  have HG := hideIt (HLA.out w1 (htab.below hb1))
  have HT1 := hideIt (HT.out.below hb1)
  clear hb1 CP HT
  obtain ⟨gw, hgw⟩ : ∃ g, w1.heap.size = g := ⟨_, rfl⟩
  have HGW := hideIt hgw
  go_wp2_with fail
  refine (fresh_wd w1).mono ?_
  rintro e w2 ⟨rfl, tg, tc, ug, uc, vg, vc, bg, bc, hM⟩
  obtain ⟨x0, hx0⟩ : ∃ y, Wd.first w1.heap.size tg tc ug uc vg vc bg bc = y := ⟨_, rfl⟩
  have HX0 : Hid (x0.now = 0 ∧ x0.ds = []) := by unfold Hid; rw [← hx0]; exact ⟨rfl, rfl⟩
  rw [hx0, List.append_nil] at hM
  have A0 := hideIt ((M.nil2 (e := 3) (z := 1) (l1 := [_]) (l2 := _ :: x0.as) (M.nil2 (e := 3) (z := 1) (l1 := [_]) (l2 := x0.as) (hM.alloc #[.slice none 0 0, .slice none 0 0] 55))).perm (l' := x0.as ++ [.blk w2.heap.size #[.slice none 0 0, .slice none 0 0] 55, .row 3 1 (.slice none 0 0) 0 [], .row 3 1 (.slice none 0 0) 0 []]) (List.perm_append_comm (l₁ := x0.as) (l₂ := [.blk w2.heap.size #[.slice none 0 0, .slice none 0 0] 55, .row 3 1 (.slice none 0 0) 0 [], .row 3 1 (.slice none 0 0) 0 []])))
  have HR0 := hideIt (HG.out.ini tg tc ug uc vg vc bg bc)
  rw [hx0, hgw] at HR0
  rw [hgw] at A0 ⊢
  clear hM hgw hx0
  go_wp2
  obtain ⟨gt, hgt⟩ : ∃ g, w2.heap.size = g := ⟨_, rfl⟩
  rw [hgt] at A0 ⊢
  clear hgt
  go_loopw [6, 7] (fun nv y wr => ∃ (j : Nat) (x : Wd) (T : List Int × List Int) (I l : Nat) (kv vv : Value), nv = .int .i64 I ∧ y = .int .i64 j ∧ j ≤ n ∧ I ≤ j ∧ l ≤ j ∧ Hid (T.1.length = l ∧ T.2.length = l) ∧ Hid (x.now ≤ 300 * (j : Int)) ∧ Hid (x.ds.length = j) ∧ Hid (Rs gw x T I) ∧ Hid (M w1 gw wr (x.as ++ [.blk gt #[kv, vv] 55, .row 3 1 kv l (ints T.1), .row 3 1 vv l (ints T.2)]))) (fun _ i _ => n - (intOf i).toNat)
  case atStart => exact ⟨0, _, _, 0, 0, _, _, rfl, rfl, by omega, by omega, by omega, ⟨rfl, rfl⟩, by unfold Hid; rw [HX0.out.1]; decide, by unfold Hid; rw [HX0.out.2]; rfl, HR0.out, A0.out⟩
  case round =>
    clear A0 HR0
    obtain ⟨j, x, T, I, l, kv, vv, rfl, rfl, hj, hIj, hlj, hl, hnw, hnd, hR, hM⟩ := hrel
    by_cases hlt : j < n
    · have hj1 : (j : Int) < (n : Int) := by omega
      have hj0 : (0 : Int) ≤ (j : Int) := by omega
      have hn6 := HL.out
      obtain ⟨ao2, cap2, e2, hT2⟩ := HT1.out
      obtain ⟨b, off, e3, hT3⟩ := hT2 (by rw [HNN.out]; omega)
      obtain ⟨t, ht⟩ : ∃ t, os[j]? = some t := ⟨_, List.getElem?_eq_getElem (by rw [HNN.out]; exact hlt)⟩
      rw [HNN.out] at e2
      cases e2
      subst e3
      have hb2 : Below w1.heap.size w1 wr := by have := hM.out.bl; rw [← HGW.out] at this; exact this
      obtain ⟨c0, c1, c2⟩ := hT3 j t ht
      have c0 := cell_below hb2 _ _ c0
      have c1 := cell_below hb2 _ _ c1
      have c2 := cell_below hb2 _ _ c2
      have hok := HOK.out t (List.mem_of_getElem? ht)
      have CR := hideIt (fun W => right_make t.k t.key t.v W hok.k hok.key hok.v)
      have hopr := hideIt (right_right t.k t.key t.v)
      obtain ⟨k, hkk⟩ : ∃ y, rKd t.k = y := ⟨_, rfl⟩
      obtain ⟨key, hky⟩ : ∃ y, rKey t.key = y := ⟨_, rfl⟩
      obtain ⟨v, hvv⟩ : ∃ y, rVal t.k t.key t.v = y := ⟨_, rfl⟩
      rw [hkk, hky, hvv] at CR hopr
      have hpgs := HG.out.pg x T I (by rw [HGW.out]; exact hR.out)
      rw [HGW.out] at hpgs
      obtain ⟨hgx, ⟨nd, hsy⟩, -⟩ := hpgs
      have HGX := hideIt hgx
      have HSY := hideIt hsy
      clear hT3 hT2 ht hok hb2 hkk hky hvv hgx hsy
      go_wp2_with fail
      refine (CR.out _).mono ?_
      rintro e w3 ⟨rfl, hb3⟩
      have A1 := hideIt (((hM.out.below hb3).alloc #[.int .i64 k, .int .i64 key, .int .i64 v] 36).perm (l' := x.as ++ ([.blk gt #[kv, vv] 55, .row 3 1 kv l (ints T.1), .row 3 1 vv l (ints T.2)] ++ [.blk w3.heap.size #[.int .i64 k, .int .i64 key, .int .i64 v] 36])) (by rw [← List.append_assoc]; exact List.perm_append_comm (l₁ := x.as ++ [.blk gt #[kv, vv] 55, .row 3 1 kv l (ints T.1), .row 3 1 vv l (ints T.2)]) (l₂ := [.blk w3.heap.size #[.int .i64 k, .int .i64 key, .int .i64 v] 36])))
      have CL := hideIt (levels_any x.gw _ _ _ _ _ _ nd _ A1.out.pages HSY.out)
      rw [HGX.out] at CL
      clear CR hM hb3 c0 c1 c2
      go_wp2_with fail
      refine CL.out.mono ?_
      rintro e w4 ⟨rfl, hb4⟩
      obtain ⟨go, hgo⟩ : ∃ g, w3.heap.size = g := ⟨_, rfl⟩
      rw [hgo] at A1 ⊢
      have A2 := hideIt (A1.out.below hb4)
      have g7 := A2.out.cell (i := 0) rfl 7 (.bool x.rf) rfl
      rw [HGX.out] at g7
      have o0 := A2.out.cellMem (b := go) (c := #[.int .i64 k, .int .i64 key, .int .i64 v]) (t := 36) (by simp) 0 _ rfl
      have o1 := A2.out.cellMem (b := go) (c := #[.int .i64 k, .int .i64 key, .int .i64 v]) (t := 36) (by simp) 1 _ rfl
      have o2 := A2.out.cellMem (b := go) (c := #[.int .i64 k, .int .i64 key, .int .i64 v]) (t := 36) (by simp) 2 _ rfl
      have CB := hideIt (HG.out.bg x T I k key v w4 _ (by rw [HGW.out]; exact hR.out) (by rw [hnd.out]; omega) (by have := hnw.out; omega) hopr.out (by rw [HGW.out]; exact A2.out))
      rw [HGW.out] at CB
      have hlv : 0 ≤ nd.lv ∧ nd.lv ≤ 9 := by
        obtain ⟨-, -, t, -, hn⟩ := HSY.out
        have := hn.1
        simp only [rightB, Bool.and_eq_true, decide_eq_true_eq] at this
        omega
      obtain ⟨xrf, hxrf⟩ : ∃ y, x.rf = y := ⟨_, rfl⟩
      have HXRF := hideIt hxrf
      rw [hxrf] at g7
      clear CL A1 hb4 A2 hgo hxrf
      go_wp2_with fail
      refine CB.out.mono ?_
      rintro e w5 ⟨⟨u, rfl⟩, x5, hL5, hM5⟩
      have hg5 : Hid (x5.gw = gw) := by have := HG.out.pb x T I k key v x5 (by rw [HGW.out]; exact hL5); rw [HGW.out] at this; exact this
      have g14 := hM5.cell (i := 0) rfl 14 (.bool false) rfl
      rw [hg5.out] at g14
      have CA := hideIt (HG.out.al x T I k key v x5 w5 _ (by rw [HGW.out]; exact hL5) (by rw [HGW.out]; exact hM5))
      rw [HGW.out] at CA
      clear CB hL5 hM5 hg5 g7 o0 o1 o2
      go_wp2_with fail
      refine CA.out.mono ?_
      rintro e w6 ⟨⟨u, rfl⟩, x6, d, hE, hM6⟩
      have hds : x6.ds[j]? = some d := by have := hE.ds; rw [hnd.out] at this; exact this
      have hn6 : x6.ds.length = j + 1 := by rw [hE.nd, hnd.out]
      have hnow6 : x6.now ≤ 300 * ((j : Int) + 1) := by have := hE.now; have := hnw.out; omega
      have hg6 : x6.gw = gw := by
        have hpg := fun T I h => (HG.out.pg x6 T I h).1
        rw [HGW.out] at hpg
        rcases hE.an with ⟨-, -, h⟩ | ⟨-, -, -, h⟩ | ⟨-, -, -, h, -⟩
        · exact hpg _ _ h
        · exact hpg _ _ h
        · exact hpg _ _ h
      obtain ⟨dg, dc, g3, p0, d0⟩ := M.deedAt hM6 hds hn6
      have g14 := hM6.cell (i := 0) rfl 14 (.bool false) rfl
      have HDS := hideIt hds
      have HN6 := hideIt hn6
      have HNW6 := hideIt hnow6
      have HG6 := hideIt hg6
      have HE := hideIt hE
      rw [hg6] at g3 g14
      obtain ⟨gd, hgd⟩ : ∃ y, d.gd = y := ⟨_, rfl⟩
      have HGD := hideIt hgd
      rw [hgd] at p0
      have HM6 := hideIt hM6
      clear CA hM6 hds hn6 hnow6 hg6 hE d0 hgd hnw hnd hR HGX
      go_wp2
      go_quiet (fail)
      have HM7 := hideIt (HM6.out.drewN nq)
      obtain ⟨w7, hw7⟩ : ∃ W, w6.drewN nq = W := ⟨_, rfl⟩
      rw [hw7] at HM7 ⊢
      clear hw7 HM6 g3 p0 g14
      have g14 := HM7.out.cell (i := 0) rfl 14 (.bool false) rfl
      rw [HG6.out] at g14
      have hopk : 1 ≤ k ∧ k ≤ 4 := by
        have := hopr.out
        simp only [opR, Bool.and_eq_true, Bool.or_eq_true, decide_eq_true_eq] at this
        omega
      have o0 := HM7.out.cellMem (b := go) (c := #[.int .i64 k, .int .i64 key, .int .i64 v]) (t := 36) (by simp) 0 _ rfl
      have o1 := HM7.out.cellMem (b := go) (c := #[.int .i64 k, .int .i64 key, .int .i64 v]) (t := 36) (by simp) 1 _ rfl
      have hgot : go < w7.heap.size := lt_of_cell o0
      rcases HE.out.an with ⟨hk4, ⟨m, bel, pts, bb, sn, P⟩, hR6⟩ | hno
      · subst hk4
        have CPc := hideIt (pieces_tab x6 d j m gt l kv vv T.1 T.2 [As.blk go #[.int .i64 4, .int .i64 key, .int .i64 v] 36] w1 w7 gw bel pts bb sn HDS.out hl.out.1 hl.out.2 (by omega) P HM7.out)
        rw [HG6.out, HGD.out] at CPc
        have HR6 := hideIt hR6
        clear P hR6 HE
        go_wp2_with fail
        refine CPc.out.mono ?_
        rintro e w8 ⟨rfl, hb8⟩
        have HM8 := hideIt ((HM7.out.below hb8).sub (l' := x6.as ++ [As.blk gt #[kv, vv] 55, As.row 3 1 kv l (ints T.1), As.row 3 1 vv l (ints T.2)]) (List.Sublist.append_left (List.sublist_append_left [As.blk gt #[kv, vv] 55, As.row 3 1 kv l (ints T.1), As.row 3 1 vv l (ints T.2)] [As.blk go #[.int .i64 4, .int .i64 key, .int .i64 v] 36]) _))
        clear CPc hb8 HM7 g14 o0 o1
        go_wp2
        go_roundw
        case rel => exact ⟨j + 1, x6, T, I, l, kv, vv, rfl, by go_num, by omega, by omega, by omega, hl.out, by unfold Hid; have := HNW6.out; omega, HN6.out, HR6.out, HM8.out⟩
        case measure => simp [intOf]; omega
      · have hTb := HM7.out.perm (l' := [As.blk gt #[kv, vv] 55, As.row 3 1 kv l (ints T.1), As.row 3 1 vv l (ints T.2)] ++ (x6.as ++ [As.blk go #[.int .i64 k, .int .i64 key, .int .i64 v] 36])) (List.perm_append_comm_assoc [As.blk gt #[kv, vv] 55, As.row 3 1 kv l (ints T.1), As.row 3 1 vv l (ints T.2)] x6.as [As.blk go #[.int .i64 k, .int .i64 key, .int .i64 v] 36])
        have rK : Rd w7 kv T.1 := by have := owns_rd (h := by rw [hl.out.1]; exact (hTb.get (i := 1) rfl).own); exact this
        have rV : Rd w7 vv T.2 := by have := owns_rd (h := by rw [hl.out.2]; exact (hTb.get (i := 2) rfl).own); exact this
        have CV := hideIt (value_any gt kv vv T.1 T.2 key w7 (hTb.cell (i := 0) rfl 0 _ rfl) (hTb.cell (i := 0) rfl 1 _ rfl) rK rV (by rw [hl.out.1]; omega) (by rw [hl.out.1, hl.out.2]))
        have HNO := hideIt hno
        have hkn : k ≠ 4 := by rcases hno with ⟨e, -⟩ | ⟨e, -⟩ <;> omega
        have hkb : (k == 4) = false := by simp [hkn]
        clear hTb rK rV hno hkn HE
        go_wp2_with fail
        refine CV.out.mono ?_
        rintro e w8 ⟨fd, u, rfl, hV, hb8⟩
        have HM8 := hideIt (HM7.out.below hb8)
        have HV := hideIt hV
        have D := M.deed (pre := []) HM8.out HDS.out
        have d8 := D.cell (i := 0) rfl 8 (.int .i64 d.er) rfl
        rw [HGD.out] at d8
        have hgdl : gd < w8.heap.size := lt_of_cell d8
        clear o0 o1 g14 CV hb8 hV D HM7 hgot
        have o0 := HM8.out.cellMem (b := go) (c := #[.int .i64 k, .int .i64 key, .int .i64 v]) (t := 36) (by simp) 0 _ rfl
        have o1 := HM8.out.cellMem (b := go) (c := #[.int .i64 k, .int .i64 key, .int .i64 v]) (t := 36) (by simp) 1 _ rfl
        have o2 := HM8.out.cellMem (b := go) (c := #[.int .i64 k, .int .i64 key, .int .i64 v]) (t := 36) (by simp) 2 _ rfl
        have hgot : go < w8.heap.size := lt_of_cell o0
        rcases HNO.out with ⟨hk2, her, hI61, hR6⟩ | ⟨hk4, her, hval, hR6, hget⟩
        · subst hk2
          rw [her] at d8
          have hI1 : ¬ ((I : Int) < 60) := by omega
          have hI2 : ¬ ((I : Int) ≤ 60) := by omega
          have HR6 := hideIt hR6
          have HM9 := hideIt (HM8.out.sub (l' := x6.as ++ [As.blk gt #[kv, vv] 55, As.row 3 1 kv l (ints T.1), As.row 3 1 vv l (ints T.2)]) (List.Sublist.append_left (List.sublist_append_left [As.blk gt #[kv, vv] 55, As.row 3 1 kv l (ints T.1), As.row 3 1 vv l (ints T.2)] [As.blk go #[.int .i64 2, .int .i64 key, .int .i64 v] 36]) _))
          clear hR6 her HM8 HNO
          cases fd
          · go_wp2
            go_roundw
            case rel => exact ⟨j + 1, x6, T, I, l, kv, vv, rfl, by go_num, by omega, by omega, by omega, hl.out, by unfold Hid; have := HNW6.out; omega, HN6.out, HR6.out, HM9.out⟩
            case measure => simp [intOf]; omega
          · go_wp2
            go_roundw
            case rel => exact ⟨j + 1, x6, T, I, l, kv, vv, rfl, by go_num, by omega, by omega, by omega, hl.out, by unfold Hid; have := HNW6.out; omega, HN6.out, HR6.out, HM9.out⟩
            case measure => simp [intOf]; omega
        · rw [her] at d8
          obtain ⟨hv1, hv2⟩ := hval fd u HV.out
          have HFD := hideIt hv1
          have HVA := hideIt hv2
          have HR6 := hideIt hR6
          have HGET := hideIt hget
          have HTL := hideIt (tdo_len k key v T.1 T.2 (by rw [hl.out.1, hl.out.2]))
          have hTP := HM8.out.perm (l' := [As.blk gt #[kv, vv] 55, As.row 3 1 kv l (ints T.1), As.row 3 1 vv l (ints T.2)] ++ (x6.as ++ [As.blk go #[.int .i64 k, .int .i64 key, .int .i64 v] 36])) (List.perm_append_comm_assoc [As.blk gt #[kv, vv] 55, As.row 3 1 kv l (ints T.1), As.row 3 1 vv l (ints T.2)] x6.as [As.blk go #[.int .i64 k, .int .i64 key, .int .i64 v] 36])
          have CD := hideIt (do_any gt l kv vv T.1 T.2 k key v (x6.as ++ [As.blk go #[.int .i64 k, .int .i64 key, .int .i64 v] 36]) w1 w8 gw (by omega) hl.out.1 hl.out.2 hTP)
          obtain ⟨T2, hT2⟩ : ∃ y, tdo k key v T.1 T.2 = y := ⟨_, rfl⟩
          rw [hT2] at CD HTL HR6
          have hl2 : T2.1.length ≤ j + 1 := by have := HTL.out.2; rw [hl.out.1] at this; omega
          have HL2 : Hid (T2.2.length = T2.1.length) := HTL.out.1.symm
          clear hR6 her hval hget HNO HV hv1 hv2 hTP hT2 HM8 HTL
          have hk123 : k = 1 ∨ k = 2 ∨ k = 3 := by omega
          rcases hk123 with rfl | rfl | rfl
          · cases fd
            · go_wp2_with fail
              refine CD.out.mono ?_
              rintro e w9 ⟨⟨u9, rfl⟩, kv9, vv9, hM9⟩
              have D := M.deed (pre := [_, _, _]) (fr := [As.blk go #[.int .i64 1, .int .i64 key, .int .i64 v] 36]) hM9 HDS.out
              have e9 := D.cell (i := 0) rfl 9 (.bool d.fd) rfl
              have e10 := D.cell (i := 0) rfl 10 (.int .i64 d.va) rfl
              rw [HGD.out, HFD.out] at e9
              rw [HGD.out, HVA.out] at e10
              have e4 := D.cell (i := 0) rfl 4 d.tm rfl
              have e11 := D.cell (i := 0) rfl 11 (.int .i64 d.pt) rfl
              obtain ⟨ta, tc, htm⟩ := As.form0 (D.get (i := 2) rfl)
              rw [HGD.out, htm] at e4
              rw [HGD.out] at e11
              have HM10 := hideIt (hM9.perm (l' := x6.as ++ ([As.blk gt #[kv9, vv9] 55, As.row 3 1 kv9 T2.1.length (ints T2.1), As.row 3 1 vv9 T2.1.length (ints T2.2)] ++ [As.blk go #[.int .i64 1, .int .i64 key, .int .i64 v] 36])) (List.perm_append_comm_assoc x6.as [As.blk gt #[kv9, vv9] 55, As.row 3 1 kv9 T2.1.length (ints T2.1), As.row 3 1 vv9 T2.1.length (ints T2.2)] [As.blk go #[.int .i64 1, .int .i64 key, .int .i64 v] 36]))
              have HM11 := hideIt (HM10.out.sub (l' := x6.as ++ [As.blk gt #[kv9, vv9] 55, As.row 3 1 kv9 T2.1.length (ints T2.1), As.row 3 1 vv9 T2.1.length (ints T2.2)]) (List.Sublist.append_left (List.sublist_append_left [As.blk gt #[kv9, vv9] 55, As.row 3 1 kv9 T2.1.length (ints T2.1), As.row 3 1 vv9 T2.1.length (ints T2.2)] [As.blk go #[.int .i64 1, .int .i64 key, .int .i64 v] 36]) _))
              have q0 := HM10.out.cellMem (b := go) (c := #[.int .i64 1, .int .i64 key, .int .i64 v]) (t := 36) (by simp) 0 _ rfl
              have hg9 : gd < w9.heap.size := lt_of_cell e9
              have hgo9 : go < w9.heap.size := lt_of_cell q0
              have huu : (u != u) = false := by simp
              clear CD D hM9 htm d8 o0 o1 o2 hgot hgdl HM10
              have HR7 : Hid (Rs gw x6 T2 (I + 0)) := by have := HR6.out; rw [HFD.out] at this; exact this
              clear HR6 HFD HVA
              rcases HGET.out (by trivial) with hq | hq
              · have hxt : xrf = true := by rw [← HXRF.out]; exact hq
                subst hxt
                clear e4 e11 hq
                go_wp2
                go_roundw
                case rel => exact ⟨j + 1, x6, T2, I + 0, T2.1.length, kv9, vv9, rfl, by go_num, by omega, by omega, hl2, ⟨rfl, HL2.out⟩, by unfold Hid; have := HNW6.out; omega, HN6.out, HR7.out, HM11.out⟩
                case measure => simp [intOf]; omega
              · obtain ⟨hq1, hq2⟩ := hq nd HSY.out
                rw [hq2] at e11
                obtain ⟨nt, hnt⟩ : ∃ n, d.ts.length = n := ⟨_, rfl⟩
                rw [hnt] at e4 hq1
                clear hq hq2 hnt
                have hb1 : (((nt : Nat) : Int) != nd.lv + 1) = false := by simp [hq1]
                have hb2 : (nd.lv != nd.lv) = false := by simp
                cases xrf
                · go_wp2
                  go_roundw
                  case rel => exact ⟨j + 1, x6, T2, I + 0, T2.1.length, kv9, vv9, rfl, by go_num, by omega, by omega, hl2, ⟨rfl, HL2.out⟩, by unfold Hid; have := HNW6.out; omega, HN6.out, HR7.out, HM11.out⟩
                  case measure => simp [intOf]; omega
                · go_wp2
                  go_roundw
                  case rel => exact ⟨j + 1, x6, T2, I + 0, T2.1.length, kv9, vv9, rfl, by go_num, by omega, by omega, hl2, ⟨rfl, HL2.out⟩, by unfold Hid; have := HNW6.out; omega, HN6.out, HR7.out, HM11.out⟩
                  case measure => simp [intOf]; omega
            · go_wp2_with fail
              refine CD.out.mono ?_
              rintro e w9 ⟨⟨u9, rfl⟩, kv9, vv9, hM9⟩
              have D := M.deed (pre := [_, _, _]) (fr := [As.blk go #[.int .i64 1, .int .i64 key, .int .i64 v] 36]) hM9 HDS.out
              have e9 := D.cell (i := 0) rfl 9 (.bool d.fd) rfl
              have e10 := D.cell (i := 0) rfl 10 (.int .i64 d.va) rfl
              rw [HGD.out, HFD.out] at e9
              rw [HGD.out, HVA.out] at e10
              have e4 := D.cell (i := 0) rfl 4 d.tm rfl
              have e11 := D.cell (i := 0) rfl 11 (.int .i64 d.pt) rfl
              obtain ⟨ta, tc, htm⟩ := As.form0 (D.get (i := 2) rfl)
              rw [HGD.out, htm] at e4
              rw [HGD.out] at e11
              have HM10 := hideIt (hM9.perm (l' := x6.as ++ ([As.blk gt #[kv9, vv9] 55, As.row 3 1 kv9 T2.1.length (ints T2.1), As.row 3 1 vv9 T2.1.length (ints T2.2)] ++ [As.blk go #[.int .i64 1, .int .i64 key, .int .i64 v] 36])) (List.perm_append_comm_assoc x6.as [As.blk gt #[kv9, vv9] 55, As.row 3 1 kv9 T2.1.length (ints T2.1), As.row 3 1 vv9 T2.1.length (ints T2.2)] [As.blk go #[.int .i64 1, .int .i64 key, .int .i64 v] 36]))
              have HM11 := hideIt (HM10.out.sub (l' := x6.as ++ [As.blk gt #[kv9, vv9] 55, As.row 3 1 kv9 T2.1.length (ints T2.1), As.row 3 1 vv9 T2.1.length (ints T2.2)]) (List.Sublist.append_left (List.sublist_append_left [As.blk gt #[kv9, vv9] 55, As.row 3 1 kv9 T2.1.length (ints T2.1), As.row 3 1 vv9 T2.1.length (ints T2.2)] [As.blk go #[.int .i64 1, .int .i64 key, .int .i64 v] 36]) _))
              have q0 := HM10.out.cellMem (b := go) (c := #[.int .i64 1, .int .i64 key, .int .i64 v]) (t := 36) (by simp) 0 _ rfl
              have hg9 : gd < w9.heap.size := lt_of_cell e9
              have hgo9 : go < w9.heap.size := lt_of_cell q0
              have huu : (u != u) = false := by simp
              clear CD D hM9 htm d8 o0 o1 o2 hgot hgdl HM10
              have HR7 : Hid (Rs gw x6 T2 (I + 0)) := by have := HR6.out; rw [HFD.out] at this; exact this
              clear HR6 HFD HVA
              rcases HGET.out (by trivial) with hq | hq
              · have hxt : xrf = true := by rw [← HXRF.out]; exact hq
                subst hxt
                clear e4 e11 hq
                go_wp2
                go_roundw
                case rel => exact ⟨j + 1, x6, T2, I + 0, T2.1.length, kv9, vv9, rfl, by go_num, by omega, by omega, hl2, ⟨rfl, HL2.out⟩, by unfold Hid; have := HNW6.out; omega, HN6.out, HR7.out, HM11.out⟩
                case measure => simp [intOf]; omega
              · obtain ⟨hq1, hq2⟩ := hq nd HSY.out
                rw [hq2] at e11
                obtain ⟨nt, hnt⟩ : ∃ n, d.ts.length = n := ⟨_, rfl⟩
                rw [hnt] at e4 hq1
                clear hq hq2 hnt
                have hb1 : (((nt : Nat) : Int) != nd.lv + 1) = false := by simp [hq1]
                have hb2 : (nd.lv != nd.lv) = false := by simp
                cases xrf
                · go_wp2
                  go_roundw
                  case rel => exact ⟨j + 1, x6, T2, I + 0, T2.1.length, kv9, vv9, rfl, by go_num, by omega, by omega, hl2, ⟨rfl, HL2.out⟩, by unfold Hid; have := HNW6.out; omega, HN6.out, HR7.out, HM11.out⟩
                  case measure => simp [intOf]; omega
                · go_wp2
                  go_roundw
                  case rel => exact ⟨j + 1, x6, T2, I + 0, T2.1.length, kv9, vv9, rfl, by go_num, by omega, by omega, hl2, ⟨rfl, HL2.out⟩, by unfold Hid; have := HNW6.out; omega, HN6.out, HR7.out, HM11.out⟩
                  case measure => simp [intOf]; omega
          · cases fd
            · go_wp2_with fail
              refine CD.out.mono ?_
              rintro e w9 ⟨⟨u9, rfl⟩, kv9, vv9, hM9⟩
              have D := M.deed (pre := [_, _, _]) (fr := [As.blk go #[.int .i64 2, .int .i64 key, .int .i64 v] 36]) hM9 HDS.out
              have e9 := D.cell (i := 0) rfl 9 (.bool d.fd) rfl
              have e10 := D.cell (i := 0) rfl 10 (.int .i64 d.va) rfl
              rw [HGD.out, HFD.out] at e9
              rw [HGD.out, HVA.out] at e10
              have e4 := D.cell (i := 0) rfl 4 d.tm rfl
              have e11 := D.cell (i := 0) rfl 11 (.int .i64 d.pt) rfl
              obtain ⟨ta, tc, htm⟩ := As.form0 (D.get (i := 2) rfl)
              rw [HGD.out, htm] at e4
              rw [HGD.out] at e11
              have HM10 := hideIt (hM9.perm (l' := x6.as ++ ([As.blk gt #[kv9, vv9] 55, As.row 3 1 kv9 T2.1.length (ints T2.1), As.row 3 1 vv9 T2.1.length (ints T2.2)] ++ [As.blk go #[.int .i64 2, .int .i64 key, .int .i64 v] 36])) (List.perm_append_comm_assoc x6.as [As.blk gt #[kv9, vv9] 55, As.row 3 1 kv9 T2.1.length (ints T2.1), As.row 3 1 vv9 T2.1.length (ints T2.2)] [As.blk go #[.int .i64 2, .int .i64 key, .int .i64 v] 36]))
              have HM11 := hideIt (HM10.out.sub (l' := x6.as ++ [As.blk gt #[kv9, vv9] 55, As.row 3 1 kv9 T2.1.length (ints T2.1), As.row 3 1 vv9 T2.1.length (ints T2.2)]) (List.Sublist.append_left (List.sublist_append_left [As.blk gt #[kv9, vv9] 55, As.row 3 1 kv9 T2.1.length (ints T2.1), As.row 3 1 vv9 T2.1.length (ints T2.2)] [As.blk go #[.int .i64 2, .int .i64 key, .int .i64 v] 36]) _))
              have q0 := HM10.out.cellMem (b := go) (c := #[.int .i64 2, .int .i64 key, .int .i64 v]) (t := 36) (by simp) 0 _ rfl
              have hg9 : gd < w9.heap.size := lt_of_cell e9
              have hgo9 : go < w9.heap.size := lt_of_cell q0
              have huu : (u != u) = false := by simp
              clear CD D hM9 htm d8 o0 o1 o2 hgot hgdl HM10
              have HR7 : Hid (Rs gw x6 T2 (I + 1)) := by have := HR6.out; rw [HFD.out] at this; exact this
              clear HR6 HFD HVA
              clear e4 e11
              go_wp2
              go_roundw
              case rel => exact ⟨j + 1, x6, T2, I + 1, T2.1.length, kv9, vv9, by go_num, by go_num, by omega, by omega, hl2, ⟨rfl, HL2.out⟩, by unfold Hid; have := HNW6.out; omega, HN6.out, HR7.out, HM11.out⟩
              case measure => simp [intOf]; omega
            · go_wp2_with fail
              refine CD.out.mono ?_
              rintro e w9 ⟨⟨u9, rfl⟩, kv9, vv9, hM9⟩
              have D := M.deed (pre := [_, _, _]) (fr := [As.blk go #[.int .i64 2, .int .i64 key, .int .i64 v] 36]) hM9 HDS.out
              have e9 := D.cell (i := 0) rfl 9 (.bool d.fd) rfl
              have e10 := D.cell (i := 0) rfl 10 (.int .i64 d.va) rfl
              rw [HGD.out, HFD.out] at e9
              rw [HGD.out, HVA.out] at e10
              have e4 := D.cell (i := 0) rfl 4 d.tm rfl
              have e11 := D.cell (i := 0) rfl 11 (.int .i64 d.pt) rfl
              obtain ⟨ta, tc, htm⟩ := As.form0 (D.get (i := 2) rfl)
              rw [HGD.out, htm] at e4
              rw [HGD.out] at e11
              have HM10 := hideIt (hM9.perm (l' := x6.as ++ ([As.blk gt #[kv9, vv9] 55, As.row 3 1 kv9 T2.1.length (ints T2.1), As.row 3 1 vv9 T2.1.length (ints T2.2)] ++ [As.blk go #[.int .i64 2, .int .i64 key, .int .i64 v] 36])) (List.perm_append_comm_assoc x6.as [As.blk gt #[kv9, vv9] 55, As.row 3 1 kv9 T2.1.length (ints T2.1), As.row 3 1 vv9 T2.1.length (ints T2.2)] [As.blk go #[.int .i64 2, .int .i64 key, .int .i64 v] 36]))
              have HM11 := hideIt (HM10.out.sub (l' := x6.as ++ [As.blk gt #[kv9, vv9] 55, As.row 3 1 kv9 T2.1.length (ints T2.1), As.row 3 1 vv9 T2.1.length (ints T2.2)]) (List.Sublist.append_left (List.sublist_append_left [As.blk gt #[kv9, vv9] 55, As.row 3 1 kv9 T2.1.length (ints T2.1), As.row 3 1 vv9 T2.1.length (ints T2.2)] [As.blk go #[.int .i64 2, .int .i64 key, .int .i64 v] 36]) _))
              have q0 := HM10.out.cellMem (b := go) (c := #[.int .i64 2, .int .i64 key, .int .i64 v]) (t := 36) (by simp) 0 _ rfl
              have hg9 : gd < w9.heap.size := lt_of_cell e9
              have hgo9 : go < w9.heap.size := lt_of_cell q0
              have huu : (u != u) = false := by simp
              clear CD D hM9 htm d8 o0 o1 o2 hgot hgdl HM10
              have HR7 : Hid (Rs gw x6 T2 (I + 0)) := by have := HR6.out; rw [HFD.out] at this; exact this
              clear HR6 HFD HVA
              clear e4 e11
              go_wp2
              go_roundw
              case rel => exact ⟨j + 1, x6, T2, I + 0, T2.1.length, kv9, vv9, rfl, by go_num, by omega, by omega, hl2, ⟨rfl, HL2.out⟩, by unfold Hid; have := HNW6.out; omega, HN6.out, HR7.out, HM11.out⟩
              case measure => simp [intOf]; omega
          · cases fd
            · go_wp2_with fail
              refine CD.out.mono ?_
              rintro e w9 ⟨⟨u9, rfl⟩, kv9, vv9, hM9⟩
              have D := M.deed (pre := [_, _, _]) (fr := [As.blk go #[.int .i64 3, .int .i64 key, .int .i64 v] 36]) hM9 HDS.out
              have e9 := D.cell (i := 0) rfl 9 (.bool d.fd) rfl
              have e10 := D.cell (i := 0) rfl 10 (.int .i64 d.va) rfl
              rw [HGD.out, HFD.out] at e9
              rw [HGD.out, HVA.out] at e10
              have e4 := D.cell (i := 0) rfl 4 d.tm rfl
              have e11 := D.cell (i := 0) rfl 11 (.int .i64 d.pt) rfl
              obtain ⟨ta, tc, htm⟩ := As.form0 (D.get (i := 2) rfl)
              rw [HGD.out, htm] at e4
              rw [HGD.out] at e11
              have HM10 := hideIt (hM9.perm (l' := x6.as ++ ([As.blk gt #[kv9, vv9] 55, As.row 3 1 kv9 T2.1.length (ints T2.1), As.row 3 1 vv9 T2.1.length (ints T2.2)] ++ [As.blk go #[.int .i64 3, .int .i64 key, .int .i64 v] 36])) (List.perm_append_comm_assoc x6.as [As.blk gt #[kv9, vv9] 55, As.row 3 1 kv9 T2.1.length (ints T2.1), As.row 3 1 vv9 T2.1.length (ints T2.2)] [As.blk go #[.int .i64 3, .int .i64 key, .int .i64 v] 36]))
              have HM11 := hideIt (HM10.out.sub (l' := x6.as ++ [As.blk gt #[kv9, vv9] 55, As.row 3 1 kv9 T2.1.length (ints T2.1), As.row 3 1 vv9 T2.1.length (ints T2.2)]) (List.Sublist.append_left (List.sublist_append_left [As.blk gt #[kv9, vv9] 55, As.row 3 1 kv9 T2.1.length (ints T2.1), As.row 3 1 vv9 T2.1.length (ints T2.2)] [As.blk go #[.int .i64 3, .int .i64 key, .int .i64 v] 36]) _))
              have q0 := HM10.out.cellMem (b := go) (c := #[.int .i64 3, .int .i64 key, .int .i64 v]) (t := 36) (by simp) 0 _ rfl
              have hg9 : gd < w9.heap.size := lt_of_cell e9
              have hgo9 : go < w9.heap.size := lt_of_cell q0
              have huu : (u != u) = false := by simp
              clear CD D hM9 htm d8 o0 o1 o2 hgot hgdl HM10
              have HR7 : Hid (Rs gw x6 T2 (I + 0)) := by have := HR6.out; rw [HFD.out] at this; exact this
              clear HR6 HFD HVA
              clear e4 e11
              go_wp2
              go_roundw
              case rel => exact ⟨j + 1, x6, T2, I + 0, T2.1.length, kv9, vv9, rfl, by go_num, by omega, by omega, hl2, ⟨rfl, HL2.out⟩, by unfold Hid; have := HNW6.out; omega, HN6.out, HR7.out, HM11.out⟩
              case measure => simp [intOf]; omega
            · go_wp2_with fail
              refine CD.out.mono ?_
              rintro e w9 ⟨⟨u9, rfl⟩, kv9, vv9, hM9⟩
              have D := M.deed (pre := [_, _, _]) (fr := [As.blk go #[.int .i64 3, .int .i64 key, .int .i64 v] 36]) hM9 HDS.out
              have e9 := D.cell (i := 0) rfl 9 (.bool d.fd) rfl
              have e10 := D.cell (i := 0) rfl 10 (.int .i64 d.va) rfl
              rw [HGD.out, HFD.out] at e9
              rw [HGD.out, HVA.out] at e10
              have e4 := D.cell (i := 0) rfl 4 d.tm rfl
              have e11 := D.cell (i := 0) rfl 11 (.int .i64 d.pt) rfl
              obtain ⟨ta, tc, htm⟩ := As.form0 (D.get (i := 2) rfl)
              rw [HGD.out, htm] at e4
              rw [HGD.out] at e11
              have HM10 := hideIt (hM9.perm (l' := x6.as ++ ([As.blk gt #[kv9, vv9] 55, As.row 3 1 kv9 T2.1.length (ints T2.1), As.row 3 1 vv9 T2.1.length (ints T2.2)] ++ [As.blk go #[.int .i64 3, .int .i64 key, .int .i64 v] 36])) (List.perm_append_comm_assoc x6.as [As.blk gt #[kv9, vv9] 55, As.row 3 1 kv9 T2.1.length (ints T2.1), As.row 3 1 vv9 T2.1.length (ints T2.2)] [As.blk go #[.int .i64 3, .int .i64 key, .int .i64 v] 36]))
              have HM11 := hideIt (HM10.out.sub (l' := x6.as ++ [As.blk gt #[kv9, vv9] 55, As.row 3 1 kv9 T2.1.length (ints T2.1), As.row 3 1 vv9 T2.1.length (ints T2.2)]) (List.Sublist.append_left (List.sublist_append_left [As.blk gt #[kv9, vv9] 55, As.row 3 1 kv9 T2.1.length (ints T2.1), As.row 3 1 vv9 T2.1.length (ints T2.2)] [As.blk go #[.int .i64 3, .int .i64 key, .int .i64 v] 36]) _))
              have q0 := HM10.out.cellMem (b := go) (c := #[.int .i64 3, .int .i64 key, .int .i64 v]) (t := 36) (by simp) 0 _ rfl
              have hg9 : gd < w9.heap.size := lt_of_cell e9
              have hgo9 : go < w9.heap.size := lt_of_cell q0
              have huu : (u != u) = false := by simp
              clear CD D hM9 htm d8 o0 o1 o2 hgot hgdl HM10
              have HR7 : Hid (Rs gw x6 T2 (I + 0)) := by have := HR6.out; rw [HFD.out] at this; exact this
              clear HR6 HFD HVA
              clear e4 e11
              go_wp2
              go_roundw
              case rel => exact ⟨j + 1, x6, T2, I + 0, T2.1.length, kv9, vv9, rfl, by go_num, by omega, by omega, hl2, ⟨rfl, HL2.out⟩, by unfold Hid; have := HNW6.out; omega, HN6.out, HR7.out, HM11.out⟩
              case measure => simp [intOf]; omega
    · obtain rfl : j = n := by omega
      have HB3 := hideIt (step HB1.out (by have := hM.out.bl; rw [← HGW.out] at this; exact this))
      clear hM hR
      go_wp2
      go_ret
      exact ⟨rfl, HB3.out⟩
end Go.Proofs.YtajobgmnmbnhiaaGreatDoor.Sap
