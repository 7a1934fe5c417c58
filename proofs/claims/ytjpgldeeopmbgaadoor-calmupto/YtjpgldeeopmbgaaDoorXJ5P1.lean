/- WHAT IS PROVED HERE: saplingkeep's Calm answers true over any program that keeps an invariant of the world (Good), over which a Get that moves alone has as many accesses as there are levels (AskOk). Conditions: those of Good and AskOk; the script has at most a million turns. -/
import Derived.Test.YtjpgldeeopmbgaaDoorRows
import Derived.Test.YtjpgldeeopmbgaaDoorXN5N7
import Derived.Test.YtjpgldeeopmbgaaDoorXN8P2
import Derived.Test.YtjpgldeeopmbgaaDoorXJ1J4
import Derived.Deep.Slices
import Derived.OpenShut
namespace Go.Proofs.YtjpgldeeopmbgaaDoor.Sap
open Go.RowKit

set_option maxRecDepth 100000 in
set_option maxHeartbeats 6400000 in
theorem calm_gen (sv : Value) (ts : List Tn) (key client : Int) (Inv : Nat → Wd → Prop) (rk : Nat → Wd → Nat) (Gb : Nat → Int → Wd → Prop) (w : World) (htab : Tab w) (hT : TRd w sv ts) (hok : ∀ t ∈ ts, t.ok) (hlen : ts.length ≤ 1048576) (hkey : I64 key) (hcl : I64 client) (G : Good Inv rk) (hA : ∀ W, Tab W → AskOk Inv Gb W) :
    Calls Tryd.prog 13 #[sv, .int .i64 key, .int .i64 client] w fun e w' => e = .returned (.bool true) ∧ Below w.heap.size w w' := by
  have HT := hideIt hT
  have HOK := hideIt hok
  have HL := hideIt hlen
  have HG := hideIt G
  have HA := hideIt hA
  obtain ⟨ao, cap, rfl, -⟩ := hT
  obtain ⟨Pv, Pb, hpv, hp0⟩ := G.pv w htab
  have CP := hideIt (proved_gen Pv Pb w hpv hp0)
  obtain ⟨hc0, hc1⟩ := pickV_bd client 64 (by omega)
  obtain ⟨hk0, hk1⟩ := pickV_bd key 9999 (by omega)
  have P1 := hideIt (fun W => pick_ok client 64 W ⟨hcl, by omega, by omega⟩)
  have P2 := hideIt (fun W => pick_ok key 9999 W ⟨hkey, by omega, by omega⟩)
  obtain ⟨c, hcc⟩ : ∃ c : Nat, pickV client 64 = (c : Int) := ⟨(pickV client 64).toNat, by omega⟩
  obtain ⟨kq, hkk⟩ : ∃ k : Nat, pickV key 9999 = (k : Int) := ⟨(pickV key 9999).toNat, by omega⟩
  rw [hcc] at P1 hc0 hc1
  rw [hkk] at P2 hk0 hk1
  clear hok hlen G hpv hp0 hA hkey hcl hcc hkk
  go_enter Tryd.func13, Tryd.ntmps13
  go_wp2_with fail
  refine CP.out.mono ?_
  rintro e w1 ⟨rfl, hb1⟩
  have HB1 := hideIt hb1
  have HTB := hideIt (htab.below hb1)
  have HMC := hideIt (HG.out.mc w1 HTB.out)
  have CQ := hideIt (play_gen _ ts (Inv w1.heap.size) rk w1 (HT.out.below hb1) HOK.out HL.out HMC.out (HG.out.ini w1.heap.size))
  clear hb1 CP HT
  go_wp2_with fail
  refine CQ.out.mono ?_
  rintro e w2 ⟨rfl, x, hI, hn, hd, hM⟩
  have HI := hideIt hI
  have HN := hideIt hn
  have HD := hideIt hd
  have HM := hideIt hM
  clear CQ hI hn hM hd
  go_wp2_with fail
  refine (P1.out _).mono ?_
  rintro e w9 ⟨rfl, rfl⟩
  obtain ⟨gw, hgw⟩ : ∃ g, w1.heap.size = g := ⟨_, rfl⟩
  have HGW := hideIt hgw
  rw [hgw] at HI HM HMC ⊢
  clear hgw
  go_wp2
  go_loopw [10] (fun y wr => ∃ (j : Nat) (x' : Wd), y = .int .i64 j ∧ j ≤ 64 ∧ Hid (∀ i, i < j → x'.bs[(c + i) % 64]? = some (-1)) ∧ Hid (x'.now ≤ x.now + 1000 * (j : Int)) ∧ Hid (x'.ds.length = x.ds.length) ∧ Hid (Inv gw x') ∧ Hid (M w1 gw wr (x'.as ++ []))) (fun i _ => 64 - (intOf i).toNat)
  case atStart => exact ⟨0, x, rfl, by omega, fun i hi => by omega, by unfold Hid; omega, rfl, HI.out, HM.out⟩
  case round =>
    clear HM HI
    obtain ⟨j, x3, rfl, hj, hr, hnw, hnd, hI, hM⟩ := hrel
    have hg : Hid (x3.gw = gw) := HMC.out.pg x3 hI.out
    have g14 := hM.out.cell (i := 0) rfl 14 (.bool false) rfl
    rw [hg.out] at g14
    have hl6 := HL.out
    have hn6 := HN.out
    by_cases hlt : j < 64
    · have hj1 : (j : Int) < 64 := by omega
      have hj0 : (0 : Int) ≤ (j : Int) := by omega
      have CM := hideIt (HMC.out.alone ((c + j) % 64) x3 wr [] (Nat.mod_lt _ (by omega)) hI.out (by have := hnw.out; omega) hM.out)
      have he : Hid ((((c + j) % 64 : Nat) : Int) = ((c : Int) + (j : Int)).tmod 64) := by
        unfold Hid
        rw [Int.tmod_eq_emod_of_nonneg (by omega)]
        omega
      clear hM hI
      go_wp2_with fail
      rw [he.out] at CM
      refine CM.out.mono ?_
      rintro e w4 ⟨⟨u, rfl⟩, x', hI', hb', hn', hd', hk', hM'⟩
      have HI2 := hideIt hI'
      have HM2 := hideIt hM'
      have HB : Hid (∀ i, i < j + 1 → x'.bs[(c + i) % 64]? = some (-1)) := fun i hi => by
        by_cases e : (c + i) % 64 = (c + j) % 64
        · rw [e]; exact hb'
        · rw [hk' _ e]; exact hr.out i (by rcases Nat.lt_or_ge i j with h | h; exact h; exfalso; exact e (by rw [show i = j by omega]))
      have HN2 : Hid (x'.now ≤ x.now + 1000 * ((j + 1 : Nat) : Int)) := by unfold Hid; have := hnw.out; omega
      have HD2 : Hid (x'.ds.length = x.ds.length) := hd'.trans hnd.out
      clear CM g14 hI' hM' hb' hk' hn' hd' hg he
      go_wp2
      go_roundw
      case rel => exact ⟨j + 1, x', by go_num, by omega, HB.out, HN2.out, HD2.out, HI2.out, HM2.out⟩
      case measure => simp [intOf]; omega
    · obtain rfl : j = 64 := by omega
      have hid : ∀ i, i < 64 → x3.bs[i]? = some (-1) := fun i hi => by
        have := hr.out ((i + 64 - c) % 64) (Nat.mod_lt _ (by omega))
        rw [show (c + (i + 64 - c) % 64) % 64 = i by omega] at this
        exact this
      have CA := hideIt (ask_gen Inv Gb w1 wr (HA.out w1 HTB.out) x3 (1 + (kq : Int)) [] (by rw [HGW.out]; exact hI.out) (by rw [HGW.out]; exact hg.out) hid (by have := hnw.out; omega) (by have := hnd.out; have := HD.out; omega) (by omega) (by omega) (by rw [HGW.out]; exact hM.out))
      rw [HGW.out] at CA
      rw [show ((64 : Nat) : Int) = 64 from rfl]
      clear hid hM hI hr
      go_wp2_with fail
      refine (P2.out _).mono ?_
      rintro e w8 ⟨rfl, rfl⟩
      go_wp2_with fail
      refine CA.out.mono ?_
      rintro e w5 ⟨x5, d, rfl, ⟨n5, nd, hg5, hd5, her, hs, hq⟩, hM5⟩
      have g14 := hM5.cell (i := 0) rfl 14 (.bool false) rfl
      have D := M.deed (pre := []) hM5 hd5
      have d8 := D.cell (i := 0) rfl 8 (.int .i64 d.er) rfl
      rw [her] at d8
      rw [hg5] at g14
      have CL := hideIt (levels_any x5.gw _ _ _ _ _ _ nd w5 hM5.pages hs)
      rw [hg5] at CL
      have HM5 := hideIt hM5
      have HD5 := hideIt hd5
      have hlv : 0 ≤ nd.lv ∧ nd.lv ≤ 9 := by
        obtain ⟨-, -, t, -, hn⟩ := hs
        have := hn.1
        simp only [rightB, Bool.and_eq_true, decide_eq_true_eq] at this
        omega
      obtain ⟨gd, hgd⟩ : ∃ y, d.gd = y := ⟨_, rfl⟩
      have HGD := hideIt hgd
      rw [hgd] at d8 ⊢
      clear CA D hM5 hd5 her hs hgd
      go_wp2_with fail
      refine CL.out.mono ?_
      rintro e w6 ⟨rfl, hb6⟩
      have A6 := hideIt (HM5.out.below hb6)
      have D := M.deed (pre := []) A6.out HD5.out
      have e4 := D.cell (i := 0) rfl 4 d.tm rfl
      have e11 := D.cell (i := 0) rfl 11 (.int .i64 d.pt) rfl
      obtain ⟨ta, tc, htm⟩ := As.form0 (D.get (i := 2) rfl)
      rw [htm] at e4
      have g7 := A6.out.cell (i := 0) rfl 7 (.bool x5.rf) rfl
      rw [hg5] at g7
      rw [HGD.out] at e4 e11
      have HB6 := hideIt (step HB1.out (by have := A6.out.bl; rw [← HGW.out] at this; exact this))
      clear CL D htm hb6 HM5 g14 d8 A6
      rcases hq with hq | ⟨hq1, hq2⟩
      · rw [hq] at g7
        go_wp2
        go_ret
        exact ⟨rfl, HB6.out⟩
      · rw [hq2] at e11
        obtain ⟨nt, hnt⟩ : ∃ n, d.ts.length = n := ⟨_, rfl⟩
        rw [hnt] at e4 hq1
        cases hrf : x5.rf
        · rw [hrf] at g7
          go_wp2
          go_ret
          exact ⟨ret_bool (by simp), HB6.out⟩
        · rw [hrf] at g7
          go_wp2
          go_ret
          exact ⟨rfl, HB6.out⟩
end Go.Proofs.YtjpgldeeopmbgaaDoor.Sap

/- WHAT IS PROVED HERE: a script that is handed in lies in memory as a list of turns; where what is handed in is of bulk at most 1048576, it has at most as many turns. Conditions: named at each theorem. -/
namespace Go.Proofs.YtjpgldeeopmbgaaDoor.Sap
open Go.RowKit Go.ChangeShapes Go.WideShapes Go.Deep

theorem cellsTurn : Tryd.prog.cellsOf 79 = 5 := by kernel_rfl
theorem cellsOp : Tryd.prog.cellsOf 37 = 3 := by kernel_rfl
theorem cellsI : Tryd.prog.cellsOf 3 = 1 := by kernel_rfl
theorem i64_of {n : Int} (h : (Lit.int .i64 n).wf = true) : I64 n := by
  simpa [I64, Lit.wf, IntKind.min, IntKind.max, IntKind.signed, IntKind.bits] using h

theorem list5s {α : Type} {l : List α} (h : l.length = 5) : ∃ a b c d e, l = [a, b, c, d, e] := by
  match l, h with
  | [a, b, c, d, e], _ => exact ⟨a, b, c, d, e, rfl⟩
theorem list3s {α : Type} {l : List α} (h : l.length = 3) : ∃ a b c, l = [a, b, c] := by
  match l, h with
  | [a, b, c], _ => exact ⟨a, b, c, rfl⟩

/-- The five cells of a turn. -/
theorem turn_in {H : Type} {enc : TypeId × Value → H} {W : World} {base : Nat} {fuel : Nat} {cs : List Value} {x : DataW H × List MemPlace} {sp : Nat → Bool}
    (h : DataW.trod enc Tryd.prog W base sp true fuel 79 cs = some x) : ∃ t : Tn, t.ok ∧ cs = [.int .i64 t.cl, .int .i64 t.k, .int .i64 t.key, .int .i64 t.v, .int .i64 t.mv] := by
  obtain ⟨xs, m, -, -, hl, hlen, hf⟩ := DataW.trod_struct Tryd.underlying79 h
  rw [cellsTurn] at hl
  obtain ⟨c0, c1, c2, c3, c4, rfl⟩ := list5s hl
  obtain ⟨y0, y1, y2, rfl⟩ := list3s (l := xs) hlen
  have f0 : DataW.trod enc Tryd.prog W base sp true m 3 (List.take (Tryd.prog.cellsOf 3) [c0, c1, c2, c3, c4]) = some y0 := hf 0 _ rfl
  have f1 : DataW.trod enc Tryd.prog W base sp true m 37 (List.take (Tryd.prog.cellsOf 37) [c1, c2, c3, c4]) = some y1 := hf 1 _ rfl
  have f2 : DataW.trod enc Tryd.prog W base sp true m 3 (List.take (Tryd.prog.cellsOf 3) [c4]) = some y2 := hf 2 _ rfl
  rw [cellsI] at f0 f2
  rw [cellsOp] at f1
  obtain ⟨cl, e0, -, w0⟩ := DataW.trod_int Tryd.underlying3 f0
  obtain ⟨mv, e4, -, w4⟩ := DataW.trod_int Tryd.underlying3 f2
  obtain ⟨zs, m2, -, -, -, hlen2, hg⟩ := DataW.trod_struct Tryd.underlying37 f1
  obtain ⟨z0, z1, z2, rfl⟩ := list3s (l := zs) hlen2
  have g0 : DataW.trod enc Tryd.prog W base sp true m2 3 (List.take (Tryd.prog.cellsOf 3) [c1, c2, c3]) = some z0 := hg 0 _ rfl
  have g1 : DataW.trod enc Tryd.prog W base sp true m2 3 (List.take (Tryd.prog.cellsOf 3) [c2, c3]) = some z1 := hg 1 _ rfl
  have g2 : DataW.trod enc Tryd.prog W base sp true m2 3 (List.take (Tryd.prog.cellsOf 3) [c3]) = some z2 := hg 2 _ rfl
  rw [cellsI] at g0 g1 g2
  obtain ⟨k, e1, -, w1⟩ := DataW.trod_int Tryd.underlying3 g0
  obtain ⟨key, e2, -, w2⟩ := DataW.trod_int Tryd.underlying3 g1
  obtain ⟨v, e3, -, w3⟩ := DataW.trod_int Tryd.underlying3 g2
  simp only [List.take_succ_cons, List.take_zero, List.cons.injEq, and_true] at e0 e1 e2 e3 e4
  subst e0 e1 e2 e3 e4
  exact ⟨⟨cl, k, key, v, mv⟩, ⟨i64_of w0, i64_of w1, i64_of w2, i64_of w3, i64_of w4⟩, rfl⟩

/-- A script that is handed in. -/
theorem script_in {H : Type} {enc : TypeId × Value → H} {W : World} {base : Nat} {fuel : Nat} {c : Value} {x : DataW H × List MemPlace} {sp : Nat → Bool}
    (h : DataW.trod enc Tryd.prog W base sp true fuel 71 [c] = some x) :
    ∃ ts : List Tn, TRd W c ts ∧ (∀ t ∈ ts, t.ok) ∧ (ts = [] ∨ ∃ e s, x.1 = .slice e s ∧ ts.length = e.length) := by
  rcases open_slice Tryd.underlying71 h with ⟨hc, -⟩ | ⟨a, len, cap, m, n, D, Pl, hc, -, hlc, -, hm, hx, hel⟩
  · simp only [List.cons.injEq, and_true] at hc
    subst hc
    exact ⟨[], ⟨none, 0, rfl, fun hp => absurd hp (by decide)⟩, fun t ht => (by cases ht), Or.inl rfl⟩
  · simp only [List.cons.injEq, and_true] at hc
    subst hc
    have hlm : len ≤ m := by rw [hm]; split <;> omega
    haveI : Inhabited Tn := ⟨⟨0, 0, 0, 0, 0⟩⟩
    obtain ⟨f, hf⟩ := choose_lt (α := Tn) (n := len) (p := fun i t => t.ok ∧ W.cell? (a.add (i * 5)) = some (.int .i64 t.cl) ∧ W.cell? (a.add (i * 5 + 1)) = some (.int .i64 t.k) ∧ W.cell? (a.add (i * 5 + 2)) = some (.int .i64 t.key) ∧ W.cell? (a.add (i * 5 + 3)) = some (.int .i64 t.v) ∧ W.cell? (a.add (i * 5 + 4)) = some (.int .i64 t.mv)) (fun i hi => by
      obtain ⟨cs', h1, h2⟩ := hel i (by omega)
      rw [cellsTurn] at h1
      obtain ⟨-, -, hcell⟩ := World.cells?_some h1
      obtain ⟨t, hok, rfl⟩ := turn_in h2
      have e0 := hcell 0 (by omega)
      have e1 := hcell 1 (by omega)
      have e2 := hcell 2 (by omega)
      have e3 := hcell 3 (by omega)
      have e4 := hcell 4 (by omega)
      rw [add_add] at e0 e1 e2 e3 e4
      exact ⟨t, hok, e0, e1, e2, e3, e4⟩)
    refine ⟨(List.range len).map f, ⟨some a, cap, by rw [List.length_map, List.length_range], fun hp => ?_⟩, fun t ht => ?_, Or.inr ⟨_, _, by rw [hx], by rw [List.length_map, List.length_map]⟩⟩
    · rw [List.length_map, List.length_range] at hp
      obtain ⟨b, off, spot⟩ := a
      have hspot : spot = none := by simpa [Addr.add] using World.cell?_spot (hf 0 hp).2.1
      subst hspot
      refine ⟨b, off, rfl, fun j t hj => ?_⟩
      have hjl : j < len := by have := (List.getElem?_eq_some_iff.1 hj).1; rw [List.length_map, List.length_range] at this; exact this
      obtain rfl : f j = t := by rw [List.getElem?_map, List.getElem?_range hjl] at hj; exact Option.some.inj hj
      have := (hf j hjl).2
      simp only [add_plain] at this
      simpa only [Nat.add_assoc] using this
    · obtain ⟨j, hj, rfl⟩ := List.mem_map.1 ht
      exact (hf j (List.mem_range.1 hj)).1

/-- How many turns, where the bulk is bound. -/
theorem bulk_one {H : Type} (d : DataW H) : 1 ≤ Rows.uptoBulk d := by
  cases d with
  | lit l => cases l <;> simp [Rows.uptoBulk]
  | nil => simp [Rows.uptoBulk]
  | ptr d => simp [Rows.uptoBulk]
  | slice elems spare => simp [Rows.uptoBulk]
  | agg parts => simp [Rows.uptoBulk]
  | iface t d => simp [Rows.uptoBulk]
  | map entries => simp [Rows.uptoBulk]
  | held h => simp [Rows.uptoBulk]
theorem bulk_len {H : Type} (l : List (DataW H)) : l.length ≤ Rows.uptoBulkAll l := by
  induction l with
  | nil => simp [Rows.uptoBulkAll]
  | cons x r ih => have := bulk_one x; simp only [Rows.uptoBulkAll, List.length_cons]; omega
theorem bulk_slice {H : Type} {d : DataW H} {r : List (DataW H)} {e s : List (DataW H)} (hd : d = .slice e s) (hk : Rows.uptoSmall H (d :: r) = true) : e.length ≤ 1048576 := by
  have h1 := of_decide_eq_true hk
  have h2 := bulk_len e
  rw [hd] at h1
  simp only [Rows.uptoBulkAll, Rows.uptoBulk] at h1
  omega
end Go.Proofs.YtjpgldeeopmbgaaDoor.Sap

/- WHAT IS PROVED HERE: saplingkeep's pieces answers true of a Scan that has ended as it should, held against one map. Conditions: named at the theorem. -/
namespace Go.Proofs.YtjpgldeeopmbgaaDoor.Sap
open Go.RowKit

def lastT (ts pts : List Int) : Nat → Int
  | 0 => -1
  | i + 1 => ts[(pts[i]?.getD 0).toNat]?.getD 0
/-- A piece, held against a map; sn: how many keys were seen ahead of it. -/
structure PcR (K V ks vs : List Int) (key val : Int) (bel pts ts : List Int) (sn : Nat → Nat) (i : Nat) (p : Nat) (below : Int) (k : Nat) : Prop where
  pt : pts[i]? = some (p : Int)
  pj : p < ts.length
  be : bel[i]? = some below
  last : lastT ts pts i < ts[p]?.getD 0
  lo : fromV bel key i < below
  hi : below ≤ val + 1
  cnt : cntW K (fromV bel key i) below K.length = k
  nx : sn i + k = sn (i + 1)
  le : sn (i + 1) ≤ ks.length
  keys : ∀ m, m < k → fromV bel key i ≤ ks[sn i + m]?.getD 0 ∧ ks[sn i + m]?.getD 0 < below ∧ ∀ fd v, ValR K V (ks[sn i + m]?.getD 0) fd v → fd = true ∧ v = vs[sn i + m]?.getD 0

set_option maxRecDepth 100000 in
set_option maxHeartbeats 6400000 in
theorem pieces_fix (gd gt cg m cc : Nat) (gwv : Value) (key val pt b : Int) (fd : Bool) (kv vv tm tk tvv : Value) (ks vs K V bel pts ts : List Int) (sn : Nat → Nat) (w : World)
    (d1 : w.cell? ⟨gd, 1, none⟩ = some (.int .i64 key)) (d2 : w.cell? ⟨gd, 2, none⟩ = some (.int .i64 val)) (d4 : w.cell? ⟨gd, 4, none⟩ = some tm) (d8 : w.cell? ⟨gd, 8, none⟩ = some (.int .i64 0)) (d9 : w.cell? ⟨gd, 9, none⟩ = some (.bool fd)) (d10 : w.cell? ⟨gd, 10, none⟩ = some (.int .i64 ks.length)) (d11 : w.cell? ⟨gd, 11, none⟩ = some (.int .i64 pt)) (d12 : w.cell? ⟨gd, 12, none⟩ = some kv) (d13 : w.cell? ⟨gd, 13, none⟩ = some vv) (d14 : w.cell? ⟨gd, 14, none⟩ = some (.slice (some ⟨cg, 0, none⟩) (m + 1) cc))
    (t0 : w.cell? ⟨gt, 0, none⟩ = some tk) (t1 : w.cell? ⟨gt, 1, none⟩ = some tvv) (rk : Rd w kv ks) (rv : Rd w vv vs) (rt : Rd w tm ts) (rK : Rd w tk K) (rV : Rd w tvv V)
    (hc : ∀ i, i < m + 1 → w.cell? ⟨cg, i * 2, none⟩ = some (.int .i64 (bel[i]?.getD 0)) ∧ w.cell? ⟨cg, i * 2 + 1, none⟩ = some (.int .i64 (pts[i]?.getD 0)))
    (hpl : pts.length = m + 1) (hm : m ≤ 1000000) (hKV : K.length = V.length) (hK120 : K.length ≤ 1000000000) (hks : ks.length = vs.length) (hs0 : sn 0 = 0) (hsE : sn (m + 1) = ks.length) (hfE : fromV bel key (m + 1) = b) (hpt : pts.getLast? = some pt)
    (hPA : ∀ i, i < m + 1 → ∃ p be k, PcR K V ks vs key val bel pts ts sn i p be k) (hRI : ∀ i, i + 1 < ks.length → ks[i]?.getD 0 < ks[i + 1]?.getD 0) (hbb : key + 1 ≤ b ∧ b ≤ val + 1)
    (h12 : ks.length ≤ 12) (hfd : fd = decide (0 < ks.length)) (hend : (ks.length = 12 ∧ b = ks.getLast?.getD 0 + 1) ∨ (ks.length < 12 ∧ b = val + 1)) (hv0 : 0 ≤ val) (hv1 : val ≤ 9999) (hk0 : 0 ≤ key) :
    Calls Tryd.prog 34 #[gwv, .pointer (some ⟨gd, 0, none⟩), .pointer (some ⟨gt, 0, none⟩)] w fun e w' => e = .returned (.bool true) ∧ Below w.heap.size w w' := by
  have HRK := hideIt rk
  have HRV := hideIt rv
  have HRT := hideIt rt
  have HRKK := hideIt rK
  have HRVV := hideIt rV
  obtain ⟨ak, ck, rfl⟩ := rk.len
  obtain ⟨av, cv, rfl⟩ := rv.len
  have HPA := hideIt hPA
  have HRI := hideIt hRI
  have HS0 := hideIt hs0
  have HSE := hideIt hfE
  have HBB := hideIt hbb
  have HSS := hideIt hsE
  have hlp : pts[m]?.getD 0 = pt := by
    rw [List.getLast?_eq_getElem?, hpl, Nat.add_sub_cancel] at hpt
    rw [hpt]; rfl
  have hcm := (hc m (by omega)).2
  rw [hlp] at hcm
  have HC : Hid (∀ W i, Below w.heap.size w W → i < m + 1 → W.cell? ⟨cg, i * 2, none⟩ = some (.int .i64 (bel[i]?.getD 0)) ∧ W.cell? ⟨cg, i * 2 + 1, none⟩ = some (.int .i64 (pts[i]?.getD 0))) := fun W i hb hi => ⟨cell_below hb _ _ (hc i hi).1, cell_below hb _ _ (hc i hi).2⟩
  have HD : Hid (∀ W, Below w.heap.size w W → W.cell? ⟨gd, 1, none⟩ = some (.int .i64 key) ∧ W.cell? ⟨gd, 2, none⟩ = some (.int .i64 val) ∧ W.cell? ⟨gd, 4, none⟩ = some tm ∧ W.cell? ⟨gt, 0, none⟩ = some tk ∧ W.cell? ⟨gt, 1, none⟩ = some tvv) := fun W hb => ⟨cell_below hb _ _ d1, cell_below hb _ _ d2, cell_below hb _ _ d4, cell_below hb _ _ t0, cell_below hb _ _ t1⟩
  have hcg : cg < w.heap.size := by
    rcases Nat.lt_or_ge cg w.heap.size with h | h
    · exact h
    · simp [World.cell?, Array.getElem?_eq_none h] at hcm
  obtain ⟨nl, hnl⟩ : ∃ n, ks.length = n := ⟨_, rfl⟩
  rw [← hks] at d13 HRV
  rw [hnl] at d10 d12 d13 HRK HRV h12 hfd hend HRI HSS hks
  have HNL := hideIt hnl
  have HVL := hideIt hks
  have HEND := hideIt hend
  have HKV := hideIt hKV
  clear rk rv rt rK rV hc hpl hKV hpt hlp hnl hks hend d4 t0 t1 hPA hRI hs0 hsE hfE hbb
  have A0 := hideIt ((M.start w).alloc #[.int .i64 0, .bool fd, .int .i64 nl, .int .i64 pt, .slice ak nl ck, .slice av nl cv, .slice (some ⟨cg, 0, none⟩) (m + 1) cc] 66)
  have HFD := hideIt hfd
  have hcm2 : ∀ p, (w.alloc p).cell? ⟨cg, m * 2 + 1, none⟩ = some (.int .i64 pt) := fun p => cell_below ((Below.refl _ _).alloc (Nat.le_refl _) p) _ _ hcm
  have hm0 : (0 : Int) ≤ (m : Int) := by omega
  have hdn : decide ((12 : Int) < (nl : Int)) = false := by rw [decide_eq_false_iff_not]; omega
  have hcz : (((m : Int) + 1) == 0) = false := by simp; omega
  clear hfd hcm
  go_enter Tryd.func34, Tryd.ntmps34
  go_upto_region 4 with fail
  go_cut [73] (fun u wy => u = .bool false ∧ Hid (M w w.heap.size wy [.blk w.heap.size #[.int .i64 0, .bool fd, .int .i64 nl, .int .i64 pt, .slice ak nl ck, .slice av nl cv, .slice (some ⟨cg, 0, none⟩) (m + 1) cc] 66]))
  case first =>
    have a0 := A0.out.cell (i := 0) rfl 0 (.int .i64 0) rfl
    have a1 := A0.out.cell (i := 0) rfl 1 (.bool fd) rfl
    have a2 := A0.out.cell (i := 0) rfl 2 (.int .i64 nl) rfl
    have a3 := A0.out.cell (i := 0) rfl 3 (.int .i64 pt) rfl
    have a4 := A0.out.cell (i := 0) rfl 4 (.slice ak nl ck) rfl
    have a5 := A0.out.cell (i := 0) rfl 5 (.slice av nl cv) rfl
    have a6 := A0.out.cell (i := 0) rfl 6 (.slice (some ⟨cg, 0, none⟩) (m + 1) cc) rfl
    by_cases h0 : 0 < nl
    · obtain rfl : fd = true := by rw [HFD.out]; simp [h0]
      have h0i : (0 : Int) < (nl : Int) := by omega
      clear d1 d2 d8 d9 d10 d11 d12 d13 d14
      go_wp2
      go_quiet (fail)
      go_wp2
      go_meet
      case rel => exact ⟨rfl, A0.out.drewN _⟩
    · obtain rfl : fd = false := by rw [HFD.out]; simp [h0]
      have h0i : decide ((0 : Int) < (nl : Int)) = false := by rw [decide_eq_false_iff_not]; omega
      clear d1 d2 d8 d9 d10 d11 d12 d13 d14
      go_wp2
      go_quiet (fail)
      go_wp2
      go_meet
      case rel => exact ⟨rfl, A0.out.drewN _⟩
  case rest =>
    obtain ⟨rfl, hM0⟩ := hcut
    clear A0 hcm2 hcz hdn d1 d2 d8 d9 d10 d11 d12 d13 d14 HFD
    obtain ⟨e1, -, -, -, -⟩ := HD.out _ hM0.out.bl
    have hnl : (nl : Int) ≤ 12 := by omega
    go_wp2
    go_loopw [10, 11, 12, 13] (fun f l sv i wr => ∃ k : Nat, k ≤ m + 1 ∧ i = .int .i64 k ∧ f = .int .i64 (fromV bel key k) ∧ l = .int .i64 (lastT ts pts k) ∧ sv = .int .i64 (sn k) ∧ Hid (M w w.heap.size wr [.blk w.heap.size #[.int .i64 0, .bool fd, .int .i64 nl, .int .i64 pt, .slice ak nl ck, .slice av nl cv, .slice (some ⟨cg, 0, none⟩) (m + 1) cc] 66])) (fun _ _ _ i _ => m + 1 - (intOf i).toNat)
    case atStart => exact ⟨0, by omega, rfl, rfl, rfl, by rw [HS0.out]; rfl, hM0.out⟩
    case round =>
      clear hM0 e1
      obtain ⟨k, hk, rfl, rfl, rfl, rfl, hM⟩ := hrel
      by_cases hlt : k < m + 1
      · obtain ⟨p, be, cn, hP⟩ := HPA.out k hlt
        have HP := hideIt hP
        have y2 := (HC.out _ k hM.out.bl hlt).2
        rw [hP.pt] at y2
        simp only [Option.getD_some] at y2
        have a6 := hM.out.cell (i := 0) rfl 6 (.slice (some ⟨cg, 0, none⟩) (m + 1) cc) rfl
        obtain ⟨fr, hfr⟩ : ∃ x, fromV bel key k = x := ⟨_, rfl⟩
        obtain ⟨la, hla⟩ : ∃ x, lastT ts pts k = x := ⟨_, rfl⟩
        obtain ⟨se, hse⟩ : ∃ x, sn k = x := ⟨_, rfl⟩
        obtain ⟨nx, hnx⟩ : ∃ x, sn (k + 1) = x := ⟨_, rfl⟩
        obtain ⟨tp, htp⟩ : ∃ x, ts[p]?.getD 0 = x := ⟨_, rfl⟩
        have hpj := hP.pj
        have hlast := hP.last
        rw [hla, htp] at hlast
        have hlo := hP.lo
        rw [hfr] at hlo
        have hhi := hP.hi
        have HFR := hideIt hfr
        have HSEE := hideIt hse
        have HNX := hideIt hnx
        have HTP := hideIt htp
        have hle := hP.le
        rw [hnx, HNL.out] at hle
        have hsn := hP.nx
        rw [hse, hnx] at hsn
        have HSN := hideIt hsn
        have hkk : (0 : Int) ≤ (k : Int) := by omega
        have hkl : (k : Int) < (m : Int) + 1 := by omega
        have hkn : k < m + 1 := hlt
        rw [hfr, hla, hse]
        clear hP hfr hla hse hnx htp hsn
        go_wp2_with fail
        obtain ⟨-, -, q4, -, -⟩ := HD.out _ hM.out.bl
        refine (point_yes gd tm ts p _ q4 (HRT.out.below hM.out.bl) hpj).mono ?_
        rintro e w1 ⟨rfl, hb⟩
        rw [HTP.out]
        have hM1 := hideIt (hM.out.below hb)
        clear hM hb y2 a6 q4
        have y1 := (HC.out _ k hM1.out.bl hlt).1
        rw [HP.out.be] at y1
        simp only [Option.getD_some] at y1
        obtain ⟨-, q2, -, q5, q6⟩ := HD.out _ hM1.out.bl
        have a6 := hM1.out.cell (i := 0) rfl 6 (.slice (some ⟨cg, 0, none⟩) (m + 1) cc) rfl
        have hd1 : decide (tp ≤ la) = false := by rw [decide_eq_false_iff_not]; omega
        have hd2 : decide (be ≤ fr) = false := by rw [decide_eq_false_iff_not]; omega
        have hd3 : decide (val + 1 < be) = false := by rw [decide_eq_false_iff_not]; omega
        go_wp2_with fail
        refine (within_any gt tk K fr be _ q5 (HRKK.out.below hM1.out.bl) (by omega)).mono ?_
        rintro e w2 ⟨rfl, rfl⟩
        have hcn := HP.out.cnt
        rw [HFR.out] at hcn
        rw [hcn]
        clear hcn y1 q2 a6 hd1 hd2 hd3 q5 q6
        go_wp2
        go_loopw [12, 18] (fun sv r wx => ∃ q c : Nat, sv = .int .i64 q ∧ r = .int .i64 c ∧ q ≤ 12 ∧ c ≤ 12 ∧ se ≤ q ∧ Hid (q + c = nx) ∧ Hid (M w w.heap.size wx [.blk w.heap.size #[.int .i64 0, .bool fd, .int .i64 nl, .int .i64 pt, .slice ak nl ck, .slice av nl cv, .slice (some ⟨cg, 0, none⟩) (m + 1) cc] 66])) (fun _ r _ => (intOf r).toNat)
        case atStart => exact ⟨se, cn, rfl, rfl, by have := HSN.out; omega, by have := HSN.out; omega, Nat.le_refl _, HSN.out, hM1.out⟩
        case round =>
          clear hM1
          obtain ⟨q, c, rfl, rfl, hq1, hc1, hq2, hq3, hM2⟩ := hrel
          by_cases hc0 : 0 < c
          · obtain ⟨c', rfl⟩ : ∃ c', c = c' + 1 := ⟨c - 1, by omega⟩
            have hqn : q < nl := by have := hq3.out; omega
            have hqn2 : (q : Int) < (nl : Int) := by omega
            have hqn3 : decide ((nl : Int) ≤ (q : Int)) = false := by rw [decide_eq_false_iff_not]; omega
            have hq0 : (0 : Int) ≤ (q : Int) := by omega
            obtain ⟨b1, o1, e1, -, x1⟩ := HRK.out.elem q hqn
            obtain ⟨b2, o2, e2, -, x2⟩ := HRV.out.elem q hqn
            have HQ := HP.out.keys (q - se) (by have := hq3.out; have := HSN.out; omega)
            rw [HSEE.out, HFR.out, show se + (q - se) = q by omega] at HQ
            have y1 := x1 _ hM2.out.bl
            have y2 := x2 _ hM2.out.bl
            obtain ⟨x, hx⟩ : ∃ y, ks[q]?.getD 0 = y := ⟨_, rfl⟩
            obtain ⟨y, hy⟩ : ∃ y, vs[q]?.getD 0 = y := ⟨_, rfl⟩
            rw [hx] at y1 HQ
            rw [hy] at y2 HQ
            obtain ⟨hQ1, hQ2, hQ3⟩ := HQ
            have HQ3 := hideIt hQ3
            have hd1 : decide (x < fr) = false := by rw [decide_eq_false_iff_not]; omega
            have hd2 : decide (be ≤ x) = false := by rw [decide_eq_false_iff_not]; omega
            have a4 := hM2.out.cell (i := 0) rfl 4 (.slice ak nl ck) rfl
            have a5 := hM2.out.cell (i := 0) rfl 5 (.slice av nl cv) rfl
            obtain ⟨-, -, -, q5, q6⟩ := HD.out _ hM2.out.bl
            have CV := hideIt (fun W (hb : Below w.heap.size w W) => value_any gt tk tvv K V x W (HD.out _ hb).2.2.2.1 (HD.out _ hb).2.2.2.2 (HRKK.out.below hb) (HRVV.out.below hb) (by omega) HKV.out)
            have HX2 := hideIt x2
            have HY := hideIt hy
            subst e1
            subst e2
            clear x2 hy hQ3
            rcases Nat.eq_zero_or_pos q with hz | hz
            · subst hz
              have hz1 : decide ((nl : Int) ≤ 0) = false := by rw [decide_eq_false_iff_not]; omega
              have hz2 : decide (nl = 0) = false := by rw [decide_eq_false_iff_not]; omega
              have hz3 : (0 : Int) < (nl : Int) := by omega
              clear hqn3 hqn2 hq0
              clear x1 hx
              simp only [Nat.add_zero] at y1 y2
              go_wp2
              go_quiet (fail)
              go_wp2_with fail
              refine (CV.out _ (hM2.out.drewN _).bl).mono ?_
              rintro e w3 ⟨fd2, v2, rfl, hV, hb⟩
              obtain ⟨rfl, rfl⟩ := HQ3.out fd2 v2 hV
              have hM3 := hideIt ((hM2.out.drewN _).below hb)
              clear hM2 CV hb hV y1 y2 a4 a5 q5 q6 HQ3
              have y2 := HX2.out _ hM3.out.bl
              rw [HY.out] at y2
              simp only [Nat.add_zero] at y2
              have a5 := hM3.out.cell (i := 0) rfl 5 (.slice (some ⟨b2, o2, none⟩) nl cv) rfl
              go_wp2
              go_roundw
              case rel => exact ⟨1, c', by go_num, by go_num, by omega, by omega, by omega, by have := hq3.out; unfold Hid; omega, hM3.out⟩
              case measure => simp [intOf]
            · obtain ⟨q', rfl⟩ : ∃ q', q = q' + 1 := ⟨q - 1, by omega⟩
              obtain ⟨b3, o3, e3, -, x3⟩ := HRK.out.elem q' (by omega)
              cases e3
              have y3 := x3 _ hM2.out.bl
              obtain ⟨x0, hx0⟩ : ∃ y, ks[q']?.getD 0 = y := ⟨_, rfl⟩
              rw [hx0] at y3
              have hri := HRI.out q' hqn
              rw [hx, hx0] at hri
              have hd3 : decide (x ≤ x0) = false := by rw [decide_eq_false_iff_not]; omega
              have hz1 : (0 : Int) < (q' : Int) + 1 := by omega
              have hz2 : (0 : Int) ≤ (q' : Int) := by omega
              have hz3 : (q' : Int) < (nl : Int) := by omega
              have hz4 : (q' : Int) + 1 < (nl : Int) := by omega
              have hz5 : decide ((nl : Int) ≤ (q' : Int) + 1) = false := by rw [decide_eq_false_iff_not]; omega
              clear x1 x3 hx hx0 hz hqn3
              go_wp2
              go_quiet (fail)
              go_wp2_with fail
              refine (CV.out _ (hM2.out.drewN _).bl).mono ?_
              rintro e w3 ⟨fd2, v2, rfl, hV, hb⟩
              obtain ⟨rfl, rfl⟩ := HQ3.out fd2 v2 hV
              have hM3 := hideIt ((hM2.out.drewN _).below hb)
              clear hM2 CV hb hV y1 y2 a4 a5 q5 q6 HQ3
              have y2 := HX2.out _ hM3.out.bl
              rw [HY.out] at y2
              have a5 := hM3.out.cell (i := 0) rfl 5 (.slice (some ⟨b2, o2, none⟩) nl cv) rfl
              go_wp2
              go_roundw
              case rel => exact ⟨q' + 1 + 1, c', by go_num, by go_num, by omega, by omega, by omega, by have := hq3.out; unfold Hid; omega, hM3.out⟩
              case measure => simp [intOf]
          · obtain rfl : c = 0 := by omega
            go_wp2
            go_roundw
            case rel => exact ⟨k + 1, by omega, by go_num, by show _ = Value.int .i64 (bel[k]?.getD 0); rw [HP.out.be]; rfl, by show _ = Value.int .i64 (ts[(pts[k]?.getD 0).toNat]?.getD 0); rw [HP.out.pt, ← HTP.out]; rfl, by rw [HNX.out, ← hq3.out]; rfl, hM2.out⟩
            case measure => simp [intOf]; omega
      · obtain rfl : k = m + 1 := by omega
        rw [HSE.out, HSS.out]
        obtain ⟨hbb0, hbb1⟩ := HBB.out
        obtain ⟨-, q2, -, -, -⟩ := HD.out _ hM.out.bl
        have a4 := hM.out.cell (i := 0) rfl 4 (.slice ak nl ck) rfl
        rcases HEND.out with ⟨h12e, hbe⟩ | ⟨hlt12, hbe⟩
        · subst h12e
          obtain ⟨b1, o1, e1, -, x1⟩ := HRK.out.elem 11 (by omega)
          subst e1
          have y1 := x1 _ hM.out.bl
          have hg : ks.getLast?.getD 0 = ks[11]?.getD 0 := by rw [List.getLast?_eq_getElem?, HNL.out]
          obtain ⟨z, hz⟩ : ∃ y, ks[11]?.getD 0 = y := ⟨_, rfl⟩
          rw [hg, hz] at hbe
          rw [hz] at y1
          subst hbe
          clear x1 hg hz hk hlt
          go_wp2
          go_ret
          exact ⟨rfl, hM.out.bl⟩
        · have hne : ((nl : Int) == 12) = false := by simp; omega
          subst hbe
          clear hk hlt
          go_wp2
          go_ret
          exact ⟨rfl, hM.out.bl⟩
end Go.Proofs.YtjpgldeeopmbgaaDoor.Sap
