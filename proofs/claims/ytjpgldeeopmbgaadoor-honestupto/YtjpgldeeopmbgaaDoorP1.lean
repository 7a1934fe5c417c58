/- WHAT IS PROVED HERE: saplingkeep's pieces answers true of a Scan that has ended as it should, held against one map. Conditions: named at the theorem. -/
import Derived.Test.YtjpgldeeopmbgaaDoorK6
namespace Go.Proofs.YtjpgldeeopmbgaaDoor.Sap
open Go.RowKit

def lastT (ts pts : List Int) : Nat → Int
  | 0 => -1
  | i + 1 => ts[(pts[i]?.getD 0).toNat]?.getD 0
/-- A piece, held against a map; sn: how many keys were seen ahead of it. -/
structure PcR (K V ks vs : List Int) (key val : Int) (bel pts ts : List Int) (sn : Nat → Nat) (i : Nat) (p : Nat) (below : Int) (k : Nat) : Prop where
  pt : pts[i]? = some (p : Int)
  pj : p < ts.length
  be : bel[i]? = some below
  last : lastT ts pts i < ts[p]?.getD 0
  lo : fromV bel key i < below
  hi : below ≤ val + 1
  cnt : cntW K (fromV bel key i) below K.length = k
  nx : sn i + k = sn (i + 1)
  le : sn (i + 1) ≤ ks.length
  keys : ∀ m, m < k → fromV bel key i ≤ ks[sn i + m]?.getD 0 ∧ ks[sn i + m]?.getD 0 < below ∧ ∀ fd v, ValR K V (ks[sn i + m]?.getD 0) fd v → fd = true ∧ v = vs[sn i + m]?.getD 0

set_option maxRecDepth 100000 in
set_option maxHeartbeats 6400000 in
theorem pieces_fix (gd gt cg m cc : Nat) (gwv : Value) (key val pt b : Int) (fd : Bool) (kv vv tm tk tvv : Value) (ks vs K V bel pts ts : List Int) (sn : Nat → Nat) (w : World)
    (d1 : w.cell? ⟨gd, 1, none⟩ = some (.int .i64 key)) (d2 : w.cell? ⟨gd, 2, none⟩ = some (.int .i64 val)) (d4 : w.cell? ⟨gd, 4, none⟩ = some tm) (d8 : w.cell? ⟨gd, 8, none⟩ = some (.int .i64 0)) (d9 : w.cell? ⟨gd, 9, none⟩ = some (.bool fd)) (d10 : w.cell? ⟨gd, 10, none⟩ = some (.int .i64 ks.length)) (d11 : w.cell? ⟨gd, 11, none⟩ = some (.int .i64 pt)) (d12 : w.cell? ⟨gd, 12, none⟩ = some kv) (d13 : w.cell? ⟨gd, 13, none⟩ = some vv) (d14 : w.cell? ⟨gd, 14, none⟩ = some (.slice (some ⟨cg, 0, none⟩) (m + 1) cc))
    (t0 : w.cell? ⟨gt, 0, none⟩ = some tk) (t1 : w.cell? ⟨gt, 1, none⟩ = some tvv) (rk : Rd w kv ks) (rv : Rd w vv vs) (rt : Rd w tm ts) (rK : Rd w tk K) (rV : Rd w tvv V)
    (hc : ∀ i, i < m + 1 → w.cell? ⟨cg, i * 2, none⟩ = some (.int .i64 (bel[i]?.getD 0)) ∧ w.cell? ⟨cg, i * 2 + 1, none⟩ = some (.int .i64 (pts[i]?.getD 0)))
    (hpl : pts.length = m + 1) (hm : m ≤ 1000000) (hKV : K.length = V.length) (hK120 : K.length ≤ 1000000000) (hks : ks.length = vs.length) (hs0 : sn 0 = 0) (hsE : sn (m + 1) = ks.length) (hfE : fromV bel key (m + 1) = b) (hpt : pts.getLast? = some pt)
    (hPA : ∀ i, i < m + 1 → ∃ p be k, PcR K V ks vs key val bel pts ts sn i p be k) (hRI : ∀ i, i + 1 < ks.length → ks[i]?.getD 0 < ks[i + 1]?.getD 0) (hbb : key + 1 ≤ b ∧ b ≤ val + 1)
    (h12 : ks.length ≤ 12) (hfd : fd = decide (0 < ks.length)) (hend : (ks.length = 12 ∧ b = ks.getLast?.getD 0 + 1) ∨ (ks.length < 12 ∧ b = val + 1)) (hv0 : 0 ≤ val) (hv1 : val ≤ 9999) (hk0 : 0 ≤ key) :
    Calls Tryd.prog 34 #[gwv, .pointer (some ⟨gd, 0, none⟩), .pointer (some ⟨gt, 0, none⟩)] w fun e w' => e = .returned (.bool true) ∧ Below w.heap.size w w' := by
  have HRK := hideIt rk
  have HRV := hideIt rv
  have HRT := hideIt rt
  have HRKK := hideIt rK
  have HRVV := hideIt rV
  obtain ⟨ak, ck, rfl⟩ := rk.len
  obtain ⟨av, cv, rfl⟩ := rv.len
  have HPA := hideIt hPA
  have HRI := hideIt hRI
  have HS0 := hideIt hs0
  have HSE := hideIt hfE
  have HBB := hideIt hbb
  have HSS := hideIt hsE
  have hlp : pts[m]?.getD 0 = pt := by
    rw [List.getLast?_eq_getElem?, hpl, Nat.add_sub_cancel] at hpt
    rw [hpt]; rfl
  have hcm := (hc m (by omega)).2
  rw [hlp] at hcm
  have HC : Hid (∀ W i, Below w.heap.size w W → i < m + 1 → W.cell? ⟨cg, i * 2, none⟩ = some (.int .i64 (bel[i]?.getD 0)) ∧ W.cell? ⟨cg, i * 2 + 1, none⟩ = some (.int .i64 (pts[i]?.getD 0))) := fun W i hb hi => ⟨cell_below hb _ _ (hc i hi).1, cell_below hb _ _ (hc i hi).2⟩
  have HD : Hid (∀ W, Below w.heap.size w W → W.cell? ⟨gd, 1, none⟩ = some (.int .i64 key) ∧ W.cell? ⟨gd, 2, none⟩ = some (.int .i64 val) ∧ W.cell? ⟨gd, 4, none⟩ = some tm ∧ W.cell? ⟨gt, 0, none⟩ = some tk ∧ W.cell? ⟨gt, 1, none⟩ = some tvv) := fun W hb => ⟨cell_below hb _ _ d1, cell_below hb _ _ d2, cell_below hb _ _ d4, cell_below hb _ _ t0, cell_below hb _ _ t1⟩
  have hcg : cg < w.heap.size := by
    rcases Nat.lt_or_ge cg w.heap.size with h | h
    · exact h
    · simp [World.cell?, Array.getElem?_eq_none h] at hcm
  obtain ⟨nl, hnl⟩ : ∃ n, ks.length = n := ⟨_, rfl⟩
  rw [← hks] at d13 HRV
  rw [hnl] at d10 d12 d13 HRK HRV h12 hfd hend HRI HSS hks
  have HNL := hideIt hnl
  have HVL := hideIt hks
  have HEND := hideIt hend
  have HKV := hideIt hKV
  clear rk rv rt rK rV hc hpl hKV hpt hlp hnl hks hend d4 t0 t1 hPA hRI hs0 hsE hfE hbb
  have A0 := hideIt ((M.start w).alloc #[.int .i64 0, .bool fd, .int .i64 nl, .int .i64 pt, .slice ak nl ck, .slice av nl cv, .slice (some ⟨cg, 0, none⟩) (m + 1) cc] 66)
  have HFD := hideIt hfd
  have hcm2 : ∀ p, (w.alloc p).cell? ⟨cg, m * 2 + 1, none⟩ = some (.int .i64 pt) := fun p => cell_below ((Below.refl _ _).alloc (Nat.le_refl _) p) _ _ hcm
  have hm0 : (0 : Int) ≤ (m : Int) := by omega
  have hdn : decide ((12 : Int) < (nl : Int)) = false := by rw [decide_eq_false_iff_not]; omega
  have hcz : (((m : Int) + 1) == 0) = false := by simp; omega
  clear hfd hcm
  go_enter Tryd.func34, Tryd.ntmps34
  go_upto_region 4 with fail
  go_cut [73] (fun u wy => u = .bool false ∧ Hid (M w w.heap.size wy [.blk w.heap.size #[.int .i64 0, .bool fd, .int .i64 nl, .int .i64 pt, .slice ak nl ck, .slice av nl cv, .slice (some ⟨cg, 0, none⟩) (m + 1) cc] 66]))
  case first =>
    have a0 := A0.out.cell (i := 0) rfl 0 (.int .i64 0) rfl
    have a1 := A0.out.cell (i := 0) rfl 1 (.bool fd) rfl
    have a2 := A0.out.cell (i := 0) rfl 2 (.int .i64 nl) rfl
    have a3 := A0.out.cell (i := 0) rfl 3 (.int .i64 pt) rfl
    have a4 := A0.out.cell (i := 0) rfl 4 (.slice ak nl ck) rfl
    have a5 := A0.out.cell (i := 0) rfl 5 (.slice av nl cv) rfl
    have a6 := A0.out.cell (i := 0) rfl 6 (.slice (some ⟨cg, 0, none⟩) (m + 1) cc) rfl
    by_cases h0 : 0 < nl
    · obtain rfl : fd = true := by rw [HFD.out]; simp [h0]
      have h0i : (0 : Int) < (nl : Int) := by omega
      clear d1 d2 d8 d9 d10 d11 d12 d13 d14
      go_wp2
      go_quiet (fail)
      go_wp2
      go_meet
      case rel => exact ⟨rfl, A0.out.drewN _⟩
    · obtain rfl : fd = false := by rw [HFD.out]; simp [h0]
      have h0i : decide ((0 : Int) < (nl : Int)) = false := by rw [decide_eq_false_iff_not]; omega
      clear d1 d2 d8 d9 d10 d11 d12 d13 d14
      go_wp2
      go_quiet (fail)
      go_wp2
      go_meet
      case rel => exact ⟨rfl, A0.out.drewN _⟩
  case rest =>
    obtain ⟨rfl, hM0⟩ := hcut
    clear A0 hcm2 hcz hdn d1 d2 d8 d9 d10 d11 d12 d13 d14 HFD
    obtain ⟨e1, -, -, -, -⟩ := HD.out _ hM0.out.bl
    have hnl : (nl : Int) ≤ 12 := by omega
    go_wp2
    go_loopw [10, 11, 12, 13] (fun f l sv i wr => ∃ k : Nat, k ≤ m + 1 ∧ i = .int .i64 k ∧ f = .int .i64 (fromV bel key k) ∧ l = .int .i64 (lastT ts pts k) ∧ sv = .int .i64 (sn k) ∧ Hid (M w w.heap.size wr [.blk w.heap.size #[.int .i64 0, .bool fd, .int .i64 nl, .int .i64 pt, .slice ak nl ck, .slice av nl cv, .slice (some ⟨cg, 0, none⟩) (m + 1) cc] 66])) (fun _ _ _ i _ => m + 1 - (intOf i).toNat)
    case atStart => exact ⟨0, by omega, rfl, rfl, rfl, by rw [HS0.out]; rfl, hM0.out⟩
    case round =>
      clear hM0 e1
      obtain ⟨k, hk, rfl, rfl, rfl, rfl, hM⟩ := hrel
      by_cases hlt : k < m + 1
      · obtain ⟨p, be, cn, hP⟩ := HPA.out k hlt
        have HP := hideIt hP
        have y2 := (HC.out _ k hM.out.bl hlt).2
        rw [hP.pt] at y2
        simp only [Option.getD_some] at y2
        have a6 := hM.out.cell (i := 0) rfl 6 (.slice (some ⟨cg, 0, none⟩) (m + 1) cc) rfl
        obtain ⟨fr, hfr⟩ : ∃ x, fromV bel key k = x := ⟨_, rfl⟩
        obtain ⟨la, hla⟩ : ∃ x, lastT ts pts k = x := ⟨_, rfl⟩
        obtain ⟨se, hse⟩ : ∃ x, sn k = x := ⟨_, rfl⟩
        obtain ⟨nx, hnx⟩ : ∃ x, sn (k + 1) = x := ⟨_, rfl⟩
        obtain ⟨tp, htp⟩ : ∃ x, ts[p]?.getD 0 = x := ⟨_, rfl⟩
        have hpj := hP.pj
        have hlast := hP.last
        rw [hla, htp] at hlast
        have hlo := hP.lo
        rw [hfr] at hlo
        have hhi := hP.hi
        have HFR := hideIt hfr
        have HSEE := hideIt hse
        have HNX := hideIt hnx
        have HTP := hideIt htp
        have hle := hP.le
        rw [hnx, HNL.out] at hle
        have hsn := hP.nx
        rw [hse, hnx] at hsn
        have HSN := hideIt hsn
        have hkk : (0 : Int) ≤ (k : Int) := by omega
        have hkl : (k : Int) < (m : Int) + 1 := by omega
        have hkn : k < m + 1 := hlt
        rw [hfr, hla, hse]
        clear hP hfr hla hse hnx htp hsn
        go_wp2_with fail
        obtain ⟨-, -, q4, -, -⟩ := HD.out _ hM.out.bl
        refine (point_yes gd tm ts p _ q4 (HRT.out.below hM.out.bl) hpj).mono ?_
        rintro e w1 ⟨rfl, hb⟩
        rw [HTP.out]
        have hM1 := hideIt (hM.out.below hb)
        clear hM hb y2 a6 q4
        have y1 := (HC.out _ k hM1.out.bl hlt).1
        rw [HP.out.be] at y1
        simp only [Option.getD_some] at y1
        obtain ⟨-, q2, -, q5, q6⟩ := HD.out _ hM1.out.bl
        have a6 := hM1.out.cell (i := 0) rfl 6 (.slice (some ⟨cg, 0, none⟩) (m + 1) cc) rfl
        have hd1 : decide (tp ≤ la) = false := by rw [decide_eq_false_iff_not]; omega
        have hd2 : decide (be ≤ fr) = false := by rw [decide_eq_false_iff_not]; omega
        have hd3 : decide (val + 1 < be) = false := by rw [decide_eq_false_iff_not]; omega
        go_wp2_with fail
        refine (within_any gt tk K fr be _ q5 (HRKK.out.below hM1.out.bl) (by omega)).mono ?_
        rintro e w2 ⟨rfl, rfl⟩
        have hcn := HP.out.cnt
        rw [HFR.out] at hcn
        rw [hcn]
        clear hcn y1 q2 a6 hd1 hd2 hd3 q5 q6
        go_wp2
        go_loopw [12, 18] (fun sv r wx => ∃ q c : Nat, sv = .int .i64 q ∧ r = .int .i64 c ∧ q ≤ 12 ∧ c ≤ 12 ∧ se ≤ q ∧ Hid (q + c = nx) ∧ Hid (M w w.heap.size wx [.blk w.heap.size #[.int .i64 0, .bool fd, .int .i64 nl, .int .i64 pt, .slice ak nl ck, .slice av nl cv, .slice (some ⟨cg, 0, none⟩) (m + 1) cc] 66])) (fun _ r _ => (intOf r).toNat)
        case atStart => exact ⟨se, cn, rfl, rfl, by have := HSN.out; omega, by have := HSN.out; omega, Nat.le_refl _, HSN.out, hM1.out⟩
        case round =>
          clear hM1
          obtain ⟨q, c, rfl, rfl, hq1, hc1, hq2, hq3, hM2⟩ := hrel
          by_cases hc0 : 0 < c
          · obtain ⟨c', rfl⟩ : ∃ c', c = c' + 1 := ⟨c - 1, by omega⟩
            have hqn : q < nl := by have := hq3.out; omega
            have hqn2 : (q : Int) < (nl : Int) := by omega
            have hqn3 : decide ((nl : Int) ≤ (q : Int)) = false := by rw [decide_eq_false_iff_not]; omega
            have hq0 : (0 : Int) ≤ (q : Int) := by omega
            obtain ⟨b1, o1, e1, -, x1⟩ := HRK.out.elem q hqn
            obtain ⟨b2, o2, e2, -, x2⟩ := HRV.out.elem q hqn
            have HQ := HP.out.keys (q - se) (by have := hq3.out; have := HSN.out; omega)
            rw [HSEE.out, HFR.out, show se + (q - se) = q by omega] at HQ
            have y1 := x1 _ hM2.out.bl
            have y2 := x2 _ hM2.out.bl
            obtain ⟨x, hx⟩ : ∃ y, ks[q]?.getD 0 = y := ⟨_, rfl⟩
            obtain ⟨y, hy⟩ : ∃ y, vs[q]?.getD 0 = y := ⟨_, rfl⟩
            rw [hx] at y1 HQ
            rw [hy] at y2 HQ
            obtain ⟨hQ1, hQ2, hQ3⟩ := HQ
            have HQ3 := hideIt hQ3
            have hd1 : decide (x < fr) = false := by rw [decide_eq_false_iff_not]; omega
            have hd2 : decide (be ≤ x) = false := by rw [decide_eq_false_iff_not]; omega
            have a4 := hM2.out.cell (i := 0) rfl 4 (.slice ak nl ck) rfl
            have a5 := hM2.out.cell (i := 0) rfl 5 (.slice av nl cv) rfl
            obtain ⟨-, -, -, q5, q6⟩ := HD.out _ hM2.out.bl
            have CV := hideIt (fun W (hb : Below w.heap.size w W) => value_any gt tk tvv K V x W (HD.out _ hb).2.2.2.1 (HD.out _ hb).2.2.2.2 (HRKK.out.below hb) (HRVV.out.below hb) (by omega) HKV.out)
            have HX2 := hideIt x2
            have HY := hideIt hy
            subst e1
            subst e2
            clear x2 hy hQ3
            rcases Nat.eq_zero_or_pos q with hz | hz
            · subst hz
              have hz1 : decide ((nl : Int) ≤ 0) = false := by rw [decide_eq_false_iff_not]; omega
              have hz2 : decide (nl = 0) = false := by rw [decide_eq_false_iff_not]; omega
              have hz3 : (0 : Int) < (nl : Int) := by omega
              clear hqn3 hqn2 hq0
              clear x1 hx
              simp only [Nat.add_zero] at y1 y2
              go_wp2
              go_quiet (fail)
              go_wp2_with fail
              refine (CV.out _ (hM2.out.drewN _).bl).mono ?_
              rintro e w3 ⟨fd2, v2, rfl, hV, hb⟩
              obtain ⟨rfl, rfl⟩ := HQ3.out fd2 v2 hV
              have hM3 := hideIt ((hM2.out.drewN _).below hb)
              clear hM2 CV hb hV y1 y2 a4 a5 q5 q6 HQ3
              have y2 := HX2.out _ hM3.out.bl
              rw [HY.out] at y2
              simp only [Nat.add_zero] at y2
              have a5 := hM3.out.cell (i := 0) rfl 5 (.slice (some ⟨b2, o2, none⟩) nl cv) rfl
              go_wp2
              go_roundw
              case rel => exact ⟨1, c', by go_num, by go_num, by omega, by omega, by omega, by have := hq3.out; unfold Hid; omega, hM3.out⟩
              case measure => simp [intOf]
            · obtain ⟨q', rfl⟩ : ∃ q', q = q' + 1 := ⟨q - 1, by omega⟩
              obtain ⟨b3, o3, e3, -, x3⟩ := HRK.out.elem q' (by omega)
              cases e3
              have y3 := x3 _ hM2.out.bl
              obtain ⟨x0, hx0⟩ : ∃ y, ks[q']?.getD 0 = y := ⟨_, rfl⟩
              rw [hx0] at y3
              have hri := HRI.out q' hqn
              rw [hx, hx0] at hri
              have hd3 : decide (x ≤ x0) = false := by rw [decide_eq_false_iff_not]; omega
              have hz1 : (0 : Int) < (q' : Int) + 1 := by omega
              have hz2 : (0 : Int) ≤ (q' : Int) := by omega
              have hz3 : (q' : Int) < (nl : Int) := by omega
              have hz4 : (q' : Int) + 1 < (nl : Int) := by omega
              have hz5 : decide ((nl : Int) ≤ (q' : Int) + 1) = false := by rw [decide_eq_false_iff_not]; omega
              clear x1 x3 hx hx0 hz hqn3
              go_wp2
              go_quiet (fail)
              go_wp2_with fail
              refine (CV.out _ (hM2.out.drewN _).bl).mono ?_
              rintro e w3 ⟨fd2, v2, rfl, hV, hb⟩
              obtain ⟨rfl, rfl⟩ := HQ3.out fd2 v2 hV
              have hM3 := hideIt ((hM2.out.drewN _).below hb)
              clear hM2 CV hb hV y1 y2 a4 a5 q5 q6 HQ3
              have y2 := HX2.out _ hM3.out.bl
              rw [HY.out] at y2
              have a5 := hM3.out.cell (i := 0) rfl 5 (.slice (some ⟨b2, o2, none⟩) nl cv) rfl
              go_wp2
              go_roundw
              case rel => exact ⟨q' + 1 + 1, c', by go_num, by go_num, by omega, by omega, by omega, by have := hq3.out; unfold Hid; omega, hM3.out⟩
              case measure => simp [intOf]
          · obtain rfl : c = 0 := by omega
            go_wp2
            go_roundw
            case rel => exact ⟨k + 1, by omega, by go_num, by show _ = Value.int .i64 (bel[k]?.getD 0); rw [HP.out.be]; rfl, by show _ = Value.int .i64 (ts[(pts[k]?.getD 0).toNat]?.getD 0); rw [HP.out.pt, ← HTP.out]; rfl, by rw [HNX.out, ← hq3.out]; rfl, hM2.out⟩
            case measure => simp [intOf]; omega
      · obtain rfl : k = m + 1 := by omega
        rw [HSE.out, HSS.out]
        obtain ⟨hbb0, hbb1⟩ := HBB.out
        obtain ⟨-, q2, -, -, -⟩ := HD.out _ hM.out.bl
        have a4 := hM.out.cell (i := 0) rfl 4 (.slice ak nl ck) rfl
        rcases HEND.out with ⟨h12e, hbe⟩ | ⟨hlt12, hbe⟩
        · subst h12e
          obtain ⟨b1, o1, e1, -, x1⟩ := HRK.out.elem 11 (by omega)
          subst e1
          have y1 := x1 _ hM.out.bl
          have hg : ks.getLast?.getD 0 = ks[11]?.getD 0 := by rw [List.getLast?_eq_getElem?, HNL.out]
          obtain ⟨z, hz⟩ : ∃ y, ks[11]?.getD 0 = y := ⟨_, rfl⟩
          rw [hg, hz] at hbe
          rw [hz] at y1
          subst hbe
          clear x1 hg hz hk hlt
          go_wp2
          go_ret
          exact ⟨rfl, hM.out.bl⟩
        · have hne : ((nl : Int) == 12) = false := by simp; omega
          subst hbe
          clear hk hlt
          go_wp2
          go_ret
          exact ⟨rfl, hM.out.bl⟩
end Go.Proofs.YtjpgldeeopmbgaaDoor.Sap
