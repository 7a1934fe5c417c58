/- WHAT IS PROVED HERE: saplingkeep's Honest and Linear answer true over any program that keeps an invariant of the world (Good) which lets the answers be a plain map's. Conditions: those of Good; the script has at most a million turns. -/
import Derived.Test.YtajobgmnmbnhiaaDoorPt30
import Derived.Test.YtajobgmnmbnhiaaDoorPt35
namespace Go.Proofs.YtajobgmnmbnhiaaDoor.Sap
open Go.RowKit
theorem M.deedAt {w0 w : World} {B j n : Nat} {x : Wd} {d : Dd} {fr : List As} (h : M w0 B w (x.as ++ fr)) (hd : x.ds[j]? = some d) (hn : x.ds.length = n) : ∃ dg dc, w.cell? ⟨x.gw, 3, none⟩ = some (.slice (some ⟨dg, 0, none⟩) n dc) ∧ w.cell? ⟨dg, j, none⟩ = some (.pointer (some ⟨d.gd, 0, none⟩)) ∧ w.cell? ⟨d.gd, 0, none⟩ = some (.int .i64 d.k) := by
  have hl := (List.getElem?_eq_some_iff.1 hd).1
  obtain ⟨dg, dc, hdv⟩ := As.form (h.get (i := 2) rfl) (show 0 < x.ds.length by omega)
  have g3 := h.cell (i := 0) rfl 3 x.dv rfl
  have hrow := (h.get (i := 2) rfl).own
  have hdp : (x.ds.map Dd.ptr)[j]? = some (.pointer (some ⟨d.gd, 0, none⟩)) := by rw [List.getElem?_map, hd]; rfl
  rw [hdv] at g3 hrow
  have c0 := World.ownsRow.cellAt hrow j (by omega)
  rw [hdp] at c0
  rw [hn] at g3
  have D := M.deed (pre := []) h hd
  exact ⟨dg, dc, g3, c0, D.cell (i := 0) rfl 0 (.int .i64 d.k) rfl⟩
set_option maxRecDepth 100000 in
set_option maxHeartbeats 3200000 in
theorem levels_any (gw tg tc ug uc : Nat) (T : List ByteArray) (U : List Bool) (n : Nd) (w : World) (h : PgR gw tg tc ug uc T U w) (hs : Says T U 0 n) :
    Calls Tryd.prog 39 #[.pointer (some ⟨gw, 0, none⟩)] w fun e w' => e = .returned (.int .i64 (n.lv + 1)) ∧ Below w.heap.size w w' := by
  obtain ⟨hp, hu, t, ht, hn⟩ := hs
  obtain ⟨c0, c1, c2⟩ := h
  obtain ⟨t', b, a1, a2, a3, a4⟩ := c2 0 hp
  rw [ht] at a1; cases a1
  have hsz := size_of_unp ⟨n, hn⟩
  have hlv : 0 ≤ n.lv ∧ n.lv ≤ 9 := by
    have := hn.1
    simp only [rightB, Bool.and_eq_true, decide_eq_true_eq] at this
    omega
  have HN := hideIt hn
  clear c1 c2 a4 a2 ht hu hn
  go_enter Tryd.func39, Tryd.ntmps39
  go_wp2_with fail
  refine (unpack_any t _ (by omega)).mono ?_
  rintro e w2 ⟨hR, hb⟩
  rcases hR with ⟨n', kv, vv, hn', hO, rfl⟩ | ⟨hno, -⟩
  case inr => exact absurd HN.out (hno n)
  obtain rfl : n' = n := hn'.uniq HN.out
  have A1 := hO.m hb
  obtain ⟨ka, kc, rfl⟩ := As.form0 (A1.get (i := 0) rfl)
  obtain ⟨va, vc, rfl⟩ := As.form0 (A1.get (i := 1) rfl)
  have HB := hideIt (step hb ((Below.refl w2.heap.size w2).alloc (Nat.le_refl _) (.cells #[.int .i64 n'.lv, .int .i64 n'.lk, .int .i64 n'.hi, .slice ka n'.ks.length kc, .slice va n'.vs.length vc] 24)))
  clear hO hb hn' A1 a3 c0 HN
  go_wp2
  go_ret
  exact ⟨rfl, HB.out⟩
structure AskOk (Inv : Nat → Wd → Prop) (Gb : Nat → Int → Wd → Prop) (w0 : World) : Prop where
  bg : ∀ x (key : Int) W (fr : List As), Inv w0.heap.size x → (∀ c, c < 64 → x.bs[c]? = some (-1)) → x.now ≤ 89000000 → x.ds.length ≤ 89000000 → 1 ≤ key → key ≤ 9999 → M w0 w0.heap.size W (x.as ++ fr) → Calls Tryd.prog 55 #[.pointer (some ⟨w0.heap.size, 0, none⟩), .int .i64 0, .agg #[.int .i64 1, .int .i64 key, .int .i64 0]] W fun e w' => (∃ u, e = .returned u) ∧ ∃ x', Gb w0.heap.size key x' ∧ M w0 w0.heap.size w' (x'.as ++ fr)
  pb : ∀ x key, Gb w0.heap.size key x → x.gw = w0.heap.size
  al : ∀ x (key : Int) W (fr : List As), Gb w0.heap.size key x → M w0 w0.heap.size W (x.as ++ fr) → Calls Tryd.prog 37 #[.pointer (some ⟨w0.heap.size, 0, none⟩), .int .i64 0] W fun e w' => (∃ u, e = .returned u) ∧ ∃ (x' : Wd) (n : Nat) (d : Dd) (nd : Nd), x'.gw = w0.heap.size ∧ x'.ds.length = n + 1 ∧ n ≤ 90000000 ∧ x'.ds[n]? = some d ∧ d.er = 0 ∧ Says x'.T x'.U 0 nd ∧ (x'.rf = true ∨ ((d.ts.length : Int) = nd.lv + 1 ∧ d.pt = nd.lv)) ∧ M w0 w0.heap.size w' (x'.as ++ fr)
def AskQ (gw : Nat) (x : Wd) (d : Dd) : Prop := ∃ (n : Nat) (nd : Nd), x.gw = gw ∧ x.ds[n]? = some d ∧ d.er = 0 ∧ Says x.T x.U 0 nd ∧ (x.rf = true ∨ ((d.ts.length : Int) = nd.lv + 1 ∧ d.pt = nd.lv))
set_option maxRecDepth 100000 in
set_option maxHeartbeats 6400000 in
theorem ask_gen (Inv : Nat → Wd → Prop) (Gb : Nat → Int → Wd → Prop) (w0 w : World) (G : AskOk Inv Gb w0) (x : Wd) (key : Int) (fr : List As) (hI : Inv w0.heap.size x) (_hg : x.gw = w0.heap.size) (hid : ∀ c, c < 64 → x.bs[c]? = some (-1)) (hn : x.now ≤ 89000000) (hd : x.ds.length ≤ 89000000) (hk0 : 1 ≤ key) (hk1 : key ≤ 9999) (h : M w0 w0.heap.size w (x.as ++ fr)) :
    Calls Tryd.prog 38 #[.pointer (some ⟨w0.heap.size, 0, none⟩), .agg #[.int .i64 1, .int .i64 key, .int .i64 0]] w fun e w' => ∃ x' d, e = .returned (.pointer (some ⟨d.gd, 0, none⟩)) ∧ AskQ w0.heap.size x' d ∧ M w0 w0.heap.size w' (x'.as ++ fr) := by
  have A0 := hideIt (h.allocd (.cells #[.int .i64 1, .int .i64 key, .int .i64 0] 37))
  have CB := hideIt (fun W hM => G.bg x key W fr hI hid hn hd hk0 hk1 hM)
  have HG := hideIt G
  obtain ⟨gw, hgw⟩ : ∃ g, w0.heap.size = g := ⟨_, rfl⟩
  have HGW := hideIt hgw
  rw [hgw] at A0 CB ⊢
  clear h hI _hg hid hn hd G hgw
  go_enter Tryd.func38, Tryd.ntmps38
  go_wp2_with fail
  refine (CB.out _ A0.out).mono ?_
  rintro e w2 ⟨⟨u, rfl⟩, x2, hG2, hM2⟩
  have hg2 : Hid (x2.gw = gw) := by have := HG.out.pb x2 key (by rw [HGW.out]; exact hG2); rw [HGW.out] at this; exact this
  have g14 := hM2.cell (i := 0) rfl 14 (.bool false) rfl
  rw [hg2.out] at g14
  have CA := hideIt (HG.out.al x2 key w2 fr (by rw [HGW.out]; exact hG2) (by rw [HGW.out]; exact hM2))
  rw [HGW.out] at CA
  clear CB A0 hG2 hM2
  go_wp2_with fail
  refine CA.out.mono ?_
  rintro e w3 ⟨⟨u, rfl⟩, x3, n, d, nd, hg3, hn3, hn1, hd3, her, hs, hq, hM3⟩
  have HQ : Hid (AskQ gw x3 d) := ⟨n, nd, hg3, hd3, her, hs, hq⟩
  have HM3 := hideIt hM3
  obtain ⟨dg, dc, g3, c0, -⟩ := M.deedAt hM3 hd3 hn3
  rw [hg3] at g3
  have hn0 : (0 : Int) ≤ (n : Int) := by omega
  obtain ⟨gd, hgd⟩ : ∃ y, d.gd = y := ⟨_, rfl⟩
  have HGD := hideIt hgd
  rw [hgd] at c0
  clear CA hM3 hd3 her hs hq hg3 hg2 hgd hn3 g14
  go_wp2
  go_quiet (fail)
  go_wp2
  go_ret
  exact ⟨x3, d, by rw [HGD.out]; rfl, HQ.out, HM3.out.drewN _⟩
set_option maxRecDepth 100000 in
set_option maxHeartbeats 6400000 in
theorem calm_gen (sv : Value) (ts : List Tn) (key client : Int) (Inv : Nat → Wd → Prop) (rk : Nat → Wd → Nat) (Gb : Nat → Int → Wd → Prop) (w : World) (htab : Tab w) (hT : TRd w sv ts) (hok : ∀ t ∈ ts, t.ok) (hlen : ts.length ≤ 1048576) (hkey : I64 key) (hcl : I64 client) (G : Good Inv rk) (hA : ∀ W, Tab W → AskOk Inv Gb W) :
    Calls Tryd.prog 10 #[sv, .int .i64 key, .int .i64 client] w fun e w' => e = .returned (.bool true) ∧ Below w.heap.size w w' := by
  have HT := hideIt hT
  have HOK := hideIt hok
  have HL := hideIt hlen
  have HG := hideIt G
  have HA := hideIt hA
  obtain ⟨ao, cap, rfl, -⟩ := hT
  obtain ⟨Pv, Pb, hpv, hp0⟩ := G.pv w htab
  have CP := hideIt (proved_gen Pv Pb w hpv hp0)
  obtain ⟨hc0, hc1⟩ := pickV_bd client 64 (by omega)
  obtain ⟨hk0, hk1⟩ := pickV_bd key 9999 (by omega)
  have P1 := hideIt (fun W => pick_ok client 64 W ⟨hcl, by omega, by omega⟩)
  have P2 := hideIt (fun W => pick_ok key 9999 W ⟨hkey, by omega, by omega⟩)
  obtain ⟨c, hcc⟩ : ∃ c : Nat, pickV client 64 = (c : Int) := ⟨(pickV client 64).toNat, by omega⟩
  obtain ⟨kq, hkk⟩ : ∃ k : Nat, pickV key 9999 = (k : Int) := ⟨(pickV key 9999).toNat, by omega⟩
  rw [hcc] at P1 hc0 hc1
  rw [hkk] at P2 hk0 hk1
  clear hok hlen G hpv hp0 hA hkey hcl hcc hkk
  go_enter Tryd.func10, Tryd.ntmps10
  go_wp2_with fail
  refine CP.out.mono ?_
  rintro e w1 ⟨rfl, hb1⟩
  have HB1 := hideIt hb1
  have HTB := hideIt (htab.below hb1)
  have HMC := hideIt (HG.out.mc w1 HTB.out)
  have CQ := hideIt (play_gen _ ts (Inv w1.heap.size) rk w1 (HT.out.below hb1) HOK.out HL.out HMC.out (HG.out.ini w1.heap.size))
  clear hb1 CP HT
  go_wp2_with fail
  refine CQ.out.mono ?_
  rintro e w2 ⟨rfl, x, hI, hn, hd, hM⟩
  have HI := hideIt hI
  have HN := hideIt hn
  have HD := hideIt hd
  have HM := hideIt hM
  clear CQ hI hn hM hd
  go_wp2_with fail
  refine (P1.out _).mono ?_
  rintro e w9 ⟨rfl, rfl⟩
  obtain ⟨gw, hgw⟩ : ∃ g, w1.heap.size = g := ⟨_, rfl⟩
  have HGW := hideIt hgw
  rw [hgw] at HI HM HMC ⊢
  clear hgw
  go_wp2
  go_loopw [10] (fun y wr => ∃ (j : Nat) (x' : Wd), y = .int .i64 j ∧ j ≤ 64 ∧ Hid (∀ i, i < j → x'.bs[(c + i) % 64]? = some (-1)) ∧ Hid (x'.now ≤ x.now + 1000 * (j : Int)) ∧ Hid (x'.ds.length = x.ds.length) ∧ Hid (Inv gw x') ∧ Hid (M w1 gw wr (x'.as ++ []))) (fun i _ => 64 - (intOf i).toNat)
  case atStart => exact ⟨0, x, rfl, by omega, fun i hi => by omega, by unfold Hid; omega, rfl, HI.out, HM.out⟩
  case round =>
    clear HM HI
    obtain ⟨j, x3, rfl, hj, hr, hnw, hnd, hI, hM⟩ := hrel
    have hg : Hid (x3.gw = gw) := HMC.out.pg x3 hI.out
    have g14 := hM.out.cell (i := 0) rfl 14 (.bool false) rfl
    rw [hg.out] at g14
    have hl6 := HL.out
    have hn6 := HN.out
    by_cases hlt : j < 64
    · have hj1 : (j : Int) < 64 := by omega
      have hj0 : (0 : Int) ≤ (j : Int) := by omega
      have CM := hideIt (HMC.out.alone ((c + j) % 64) x3 wr [] (Nat.mod_lt _ (by omega)) hI.out (by have := hnw.out; omega) hM.out)
      have he : Hid ((((c + j) % 64 : Nat) : Int) = ((c : Int) + (j : Int)).tmod 64) := by
        unfold Hid
        rw [Int.tmod_eq_emod_of_nonneg (by omega)]
        omega
      clear hM hI
      go_wp2_with fail
      rw [he.out] at CM
      refine CM.out.mono ?_
      rintro e w4 ⟨⟨u, rfl⟩, x', hI', hb', hn', hd', hk', hM'⟩
      have HI2 := hideIt hI'
      have HM2 := hideIt hM'
      have HB : Hid (∀ i, i < j + 1 → x'.bs[(c + i) % 64]? = some (-1)) := fun i hi => by
        by_cases e : (c + i) % 64 = (c + j) % 64
        · rw [e]; exact hb'
        · rw [hk' _ e]; exact hr.out i (by rcases Nat.lt_or_ge i j with h | h; exact h; exfalso; exact e (by rw [show i = j by omega]))
      have HN2 : Hid (x'.now ≤ x.now + 1000 * ((j + 1 : Nat) : Int)) := by unfold Hid; have := hnw.out; omega
      have HD2 : Hid (x'.ds.length = x.ds.length) := hd'.trans hnd.out
      clear CM g14 hI' hM' hb' hk' hn' hd' hg he
      go_wp2
      go_roundw
      case rel => exact ⟨j + 1, x', by go_num, by omega, HB.out, HN2.out, HD2.out, HI2.out, HM2.out⟩
      case measure => simp [intOf]; omega
    · obtain rfl : j = 64 := by omega
      have hid : ∀ i, i < 64 → x3.bs[i]? = some (-1) := fun i hi => by
        have := hr.out ((i + 64 - c) % 64) (Nat.mod_lt _ (by omega))
        rw [show (c + (i + 64 - c) % 64) % 64 = i by omega] at this
        exact this
      have CA := hideIt (ask_gen Inv Gb w1 wr (HA.out w1 HTB.out) x3 (1 + (kq : Int)) [] (by rw [HGW.out]; exact hI.out) (by rw [HGW.out]; exact hg.out) hid (by have := hnw.out; omega) (by have := hnd.out; have := HD.out; omega) (by omega) (by omega) (by rw [HGW.out]; exact hM.out))
      rw [HGW.out] at CA
      rw [show ((64 : Nat) : Int) = 64 from rfl]
      clear hid hM hI hr
      go_wp2_with fail
      refine (P2.out _).mono ?_
      rintro e w8 ⟨rfl, rfl⟩
      go_wp2_with fail
      refine CA.out.mono ?_
      rintro e w5 ⟨x5, d, rfl, ⟨n5, nd, hg5, hd5, her, hs, hq⟩, hM5⟩
      have g14 := hM5.cell (i := 0) rfl 14 (.bool false) rfl
      have D := M.deed (pre := []) hM5 hd5
      have d8 := D.cell (i := 0) rfl 8 (.int .i64 d.er) rfl
      rw [her] at d8
      rw [hg5] at g14
      have CL := hideIt (levels_any x5.gw _ _ _ _ _ _ nd w5 hM5.pages hs)
      rw [hg5] at CL
      have HM5 := hideIt hM5
      have HD5 := hideIt hd5
      have hlv : 0 ≤ nd.lv ∧ nd.lv ≤ 9 := by
        obtain ⟨-, -, t, -, hn⟩ := hs
        have := hn.1
        simp only [rightB, Bool.and_eq_true, decide_eq_true_eq] at this
        omega
      obtain ⟨gd, hgd⟩ : ∃ y, d.gd = y := ⟨_, rfl⟩
      have HGD := hideIt hgd
      rw [hgd] at d8 ⊢
      clear CA D hM5 hd5 her hs hgd
      go_wp2_with fail
      refine CL.out.mono ?_
      rintro e w6 ⟨rfl, hb6⟩
      have A6 := hideIt (HM5.out.below hb6)
      have D := M.deed (pre := []) A6.out HD5.out
      have e4 := D.cell (i := 0) rfl 4 d.tm rfl
      have e11 := D.cell (i := 0) rfl 11 (.int .i64 d.pt) rfl
      obtain ⟨ta, tc, htm⟩ := As.form0 (D.get (i := 2) rfl)
      rw [htm] at e4
      have g7 := A6.out.cell (i := 0) rfl 7 (.bool x5.rf) rfl
      rw [hg5] at g7
      rw [HGD.out] at e4 e11
      have HB6 := hideIt (step HB1.out (by have := A6.out.bl; rw [← HGW.out] at this; exact this))
      clear CL D htm hb6 HM5 g14 d8 A6
      rcases hq with hq | ⟨hq1, hq2⟩
      · rw [hq] at g7
        go_wp2
        go_ret
        exact ⟨rfl, HB6.out⟩
      · rw [hq2] at e11
        obtain ⟨nt, hnt⟩ : ∃ n, d.ts.length = n := ⟨_, rfl⟩
        rw [hnt] at e4 hq1
        cases hrf : x5.rf
        · rw [hrf] at g7
          go_wp2
          go_ret
          exact ⟨ret_bool (by simp), HB6.out⟩
        · rw [hrf] at g7
          go_wp2
          go_ret
          exact ⟨rfl, HB6.out⟩
end Go.Proofs.YtajobgmnmbnhiaaDoor.Sap
