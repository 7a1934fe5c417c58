/- WHAT IS PROVED HERE: saplingkeep's Steady answers true over any program that keeps an invariant of the world, while each call is kept, in which each call that was kept is answered so whenever it is asked. Conditions: named at the theorem; the script has at most 1048576 turns. -/
import Derived.Test.YtajobgmnmbnhiaaDoorPt56
import Derived.Deep.MidRow
import Derived.Deep.RegionHeld3
namespace Go.Proofs.YtajobgmnmbnhiaaDoor.Sap
open Go.RowKit
theorem flat_at {C : List Rc} {i j : Nat} {r : Rc} {v : Value} (hr : C[i]? = some r) (hv : r.cells[j]? = some v) : (C.flatMap Rc.cells)[i * 18 + j]? = some v := by
  induction C generalizing i with
  | nil => simp at hr
  | cons a l ih =>
    have ha : a.cells.length = 18 := rfl
    rw [List.flatMap_cons]
    cases i with
    | zero =>
      have hj : j < r.cells.length := (List.getElem?_eq_some_iff.1 hv).1
      have e : a = r := by simpa using hr
      subst e
      rw [List.getElem?_append_left (by omega)]
      simpa using hv
    | succ i =>
      rw [List.getElem?_append_right (by omega), ha, show (i + 1) * 18 + j - 18 = i * 18 + j by omega]
      exact ih (by simpa using hr)
theorem M.callAt {w0 W : World} {B i : Nat} {x : Wk} {r : Rc} (h : M w0 B W (x.as ++ [])) (hr : x.C[i]? = some r) :
    ∃ g cap, x.cv = .slice (some ⟨g, 0, none⟩) x.C.length cap ∧ W.rangeAt g (i * 18) r.cells ∧ Rd W r.kv r.ks ∧ Rd W r.vv r.vs ∧ CRd W r.cv r.cs := by
  have hl := (List.getElem?_eq_some_iff.1 hr).1
  rw [List.append_nil] at h
  have hin : ∀ a ∈ x.ex, a.holds W B := fun a ha => h.holds a (List.mem_append.2 (Or.inr ha))
  have h0 := hin _ (List.mem_cons_self)
  obtain ⟨g, cap, hg⟩ := As.form h0 (by omega)
  have hmem : ∀ a ∈ r.as, a.holds W B := fun a ha => hin a (List.mem_cons_of_mem _ (List.mem_flatMap.2 ⟨r, List.mem_reverse.2 (List.mem_of_getElem? hr), ha⟩))
  refine ⟨g, cap, hg, fun j v hv => ?_, owns_rd (hmem (.row 3 1 r.kv r.ks.length (ints r.ks)) (by unfold Rc.as; simp)).own, owns_rd (hmem (.row 3 1 r.vv r.vs.length (ints r.vs)) (by unfold Rc.as; simp)).own, crd_of_row rfl (hmem (.row 142 2 r.cv r.cs.length (cutc r.cs)) (by unfold Rc.as; simp))⟩
  have hj : j < 18 := (List.getElem?_eq_some_iff.1 hv).1
  rw [hg] at h0
  rw [World.ownsRow.cellAt h0.own _ (by omega)]
  exact flat_at hr hv
theorem infoCallSz : (Tryd.prog.info? 78).map (·.size) = some 18 := by kernel_rfl
set_option maxRecDepth 100000 in
set_option maxHeartbeats 6400000 in
theorem steady_gen (sv : Value) (ts : List Tn) (Inv0 : Nat → Wd → Prop) (rk0 : Nat → Wd → Nat) (Inv : Nat → Wk → Prop) (rk : Nat → Wk → Nat) (w : World) (htab : Tab w) (hT : TRd w sv ts) (hok : ∀ t ∈ ts, t.ok) (hlen : ts.length ≤ 1048576) (G : Good Inv0 rk0)
    (hMc : ∀ W, Tab W → Mck (Inv W.heap.size) rk W.heap.size W W.heap.size) (hIni : ∀ gw tg tc ug uc vg vc bg bc, Inv gw ⟨Wd.first gw tg tc ug uc vg vc bg bc, .slice none 0 0, []⟩)
    (hC : ∀ gw x, Inv gw x → (∀ r ∈ x.C, r.ok) ∧ (x.C.length : Int) ≤ x.wd.now) :
    Calls Tryd.prog 9 #[sv] w fun e w' => e = .returned (.bool true) ∧ Below w.heap.size w w' := by
  have HT := hideIt hT
  have HOK := hideIt hok
  have HL := hideIt hlen
  have HMCA := hideIt hMc
  have HINI := hideIt hIni
  have HC := hideIt hC
  obtain ⟨ao, cap, rfl, -⟩ := hT
  obtain ⟨n, hn⟩ : ∃ n, ts.length = n := ⟨_, rfl⟩
  have HNN := hideIt hn
  rw [hn] at HL HT ⊢
  obtain ⟨Pv, Pb, hpv, hp0⟩ := G.pv w htab
  have CP := hideIt (proved_gen Pv Pb w hpv hp0)
  clear hok hlen G hpv hp0 hMc hIni hC hn
  go_enter Tryd.func9, Tryd.ntmps9
  go_wp2_with fail
  refine CP.out.mono ?_
  rintro e w1 ⟨rfl, hb1⟩
  have HB1 := hideIt hb1
  have HTB := hideIt (htab.below hb1)
  have HMC := hideIt (HMCA.out w1 (htab.below hb1))
  have HT1 := hideIt (HT.out.below hb1)
  clear hb1 CP HT
  go_wp2_with fail
  refine (fresh_wd w1).mono ?_
  rintro e w2 ⟨rfl, tg, tc, ug, uc, vg, vc, bg, bc, hM⟩
  obtain ⟨x0, hx0⟩ : ∃ y : Wk, y = ⟨Wd.first w1.heap.size tg tc ug uc vg vc bg bc, .slice none 0 0, []⟩ := ⟨_, rfl⟩
  have S1 : Hid (M w1 w1.heap.size (w2.setCell ⟨w1.heap.size, 11, none⟩ (.bool true)) (x0.as ++ [])) := by
    subst hx0
    have h1 := hM.store (i := 0) (j := 11) rfl (.bool true) rfl
    have h2 := h1.snocNil (e := 78) (z := 18)
    unfold Hid
    rw [List.append_nil]
    rw [List.append_nil] at h2
    exact h2
  have HI0 : Hid (Inv w1.heap.size x0) := by unfold Hid; rw [hx0]; exact HINI.out w1.heap.size tg tc ug uc vg vc bg bc
  have HX0 : Hid (x0.wd.now = 0 ∧ x0.wd.ds = []) := by unfold Hid; rw [hx0]; exact ⟨rfl, rfl⟩
  have c11 := hM.cell (i := 0) rfl 11 (.bool false) rfl
  have f11 := hM.free (i := 0) rfl 11
  obtain ⟨gw, hgw⟩ : ∃ g, w1.heap.size = g := ⟨_, rfl⟩
  have HGW := hideIt hgw
  rw [show (Wd.first w1.heap.size tg tc ug uc vg vc bg bc).gw = w1.heap.size from rfl] at c11 f11
  rw [hgw] at S1 HI0 HMC c11 f11 ⊢
  clear hM hx0 hgw
  go_wp2
  go_loopw [5] (fun y wr => ∃ (j : Nat) (x : Wk), y = .int .i64 j ∧ j ≤ n ∧ Hid (x.wd.now ≤ 40 * (j : Int)) ∧ Hid (x.wd.ds.length ≤ j) ∧ Hid (Inv gw x) ∧ Hid (M w1 gw wr (x.as ++ []))) (fun i _ => n - (intOf i).toNat)
  case atStart => exact ⟨0, x0, rfl, by omega, by unfold Hid; rw [HX0.out.1]; decide, by unfold Hid; rw [HX0.out.2]; exact Nat.le_refl _, HI0.out, S1.out⟩
  case round =>
    clear S1 HI0 HX0 c11 f11
    obtain ⟨j, x, rfl, hj, hnw, hnd, hI, hM⟩ := hrel
    have hg : Hid (x.wd.gw = gw) := HMC.out.pg x hI.out
    have g14 := hM.out.k14
    rw [hg.out] at g14
    by_cases hlt : j < n
    · have hj1 : (j : Int) < (n : Int) := by omega
      have hj0 : (0 : Int) ≤ (j : Int) := by omega
      have hl6 := HL.out
      obtain ⟨ao2, cap2, e2, hT2⟩ := HT1.out
      obtain ⟨b, off, e3, hT3⟩ := hT2 (by rw [HNN.out]; omega)
      obtain ⟨t, ht⟩ : ∃ t, ts[j]? = some t := ⟨_, List.getElem?_eq_getElem (by rw [HNN.out]; exact hlt)⟩
      rw [HNN.out] at e2
      cases e2
      subst e3
      have hb2 : Below w1.heap.size w1 wr := by have := hM.out.bl; rw [← HGW.out] at this; exact this
      obtain ⟨c0, c1, c2, c3, c4⟩ := hT3 j t ht
      have c0 := cell_below hb2 _ _ c0
      have c1 := cell_below hb2 _ _ c1
      have c2 := cell_below hb2 _ _ c2
      have c3 := cell_below hb2 _ _ c3
      have c4 := cell_below hb2 _ _ c4
      have hok := HOK.out t (List.mem_of_getElem? ht)
      have CM := hideIt (HMC.out.turn x t.cl t.k t.key t.v t.mv wr [] hok.cl hok.k hok.key hok.v hok.mv hI.out (by have := hnw.out; have := HL.out; omega) (by have := hnd.out; have := HL.out; omega) hM.out)
      clear hM hI hb2 hT3 hT2 ht hok
      go_wp2_with fail
      refine CM.out.mono ?_
      rintro e w4 ⟨⟨u, rfl⟩, x', hI', hn', hd', hM'⟩
      have HI2 := hideIt hI'
      have HM2 := hideIt hM'
      have HN2 : Hid (x'.wd.now ≤ 40 * ((j + 1 : Nat) : Int)) := by unfold Hid; have := hnw.out; omega
      have HD2 : Hid (x'.wd.ds.length ≤ j + 1) := by unfold Hid; have := hnd.out; omega
      clear CM g14 hI' hM' hn' hd' hg c0 c1 c2 c3 c4
      go_wp2
      go_roundw
      case rel => exact ⟨j + 1, x', by go_num, by omega, HN2.out, HD2.out, HI2.out, HM2.out⟩
      case measure => simp [intOf]; omega
    · obtain rfl : j = n := by omega
      have CS := hideIt (HMC.out.settle x wr [] hI.out (by have := HL.out; have := hnw.out; omega) hM.out)
      clear hM hI
      go_wp2_with fail
      refine CS.out.mono ?_
      rintro e w3 ⟨⟨u, rfl⟩, x3, hI3, -, hn3, -, hM3⟩
      have hg3 : Hid (x3.wd.gw = gw) := HMC.out.pg x3 hI3
      have HCK := hideIt (HC.out _ x3 hI3)
      have hcl : x3.C.length ≤ 100000000 := by have := HCK.out.2; have := HL.out; have := hnw.out; omega
      have HM3 := hideIt hM3
      obtain ⟨nc, hnc⟩ : ∃ y, x3.C.length = y := ⟨_, rfl⟩
      have HNC := hideIt hnc
      rw [hnc] at hcl
      clear CS hI3 hM3 hn3 g14 hg hnc
      go_wp2
      go_loopw [6] (fun y wr => ∃ i : Nat, y = .int .i64 i ∧ i ≤ nc ∧ Hid (M w1 gw wr (x3.as ++ []))) (fun y _ => nc - (intOf y).toNat)
      case atStart => exact ⟨0, rfl, by omega, HM3.out⟩
      case round =>
        clear HM3
        obtain ⟨i, rfl, hi, hM8⟩ := hrel
        have hi0 : (0 : Int) ≤ (i : Int) := by omega
        have g14 := hM8.out.k14
        have g12 := hM8.out.k12
        rw [hg3.out] at g14 g12
        have hbl : Hid (Below w1.heap.size w1 wr) := by have := hM8.out.bl; rw [← HGW.out] at this; exact this
        by_cases hlt2 : i < nc
        · have hi1 : (i : Int) < (nc : Int) := by omega
          obtain ⟨r, hr⟩ : ∃ r, x3.C[i]? = some r := ⟨_, List.getElem?_eq_getElem (by rw [HNC.out]; exact hlt2)⟩
          obtain ⟨g, cap3, hcv, hrg, rk', rv', rc'⟩ := hM8.out.callAt hr
          rw [HNC.out] at hcv
          rw [hcv] at g12
          have ho := HCK.out.1 r (List.mem_of_getElem? hr)
          have HRG : Hid (wr.rangeAt g (i * 18) [.string r.f, .int .i64 r.ak, .int .i64 r.ap, .int .i64 r.av, .string r.at', .int .i64 r.rv, .int .i64 r.rp, .string r.rt, .bool r.rd, .string r.nx, .bool r.en, .int .i64 r.er, .bool r.fd, .int .i64 r.va, .int .i64 r.pt, r.kv, r.vv, r.cv]) := hrg
          have CA := hideIt (again_yes r.f r.at' r.rt r.nx r.ak r.ap r.av r.rv r.rp r.er r.va r.pt r.rd r.en r.fd r.kv r.vv r.cv r.ks r.vs r.cs wr (HTB.out.below hbl.out) ho.sd rk' rv' rc' ho.kl ho.vl ho.cl)
          clear hr rk' rv' rc' ho hrg hcv
          go_upto_region 14 with fail
          go_wp2_with (refine wpList_load_mid rfl 78 _ rfl g (i * 18) rfl _ _ HRG.out Tryd.underlying78 rfl infoCallSz ?_)
          refine CA.out.mono ?_
          rintro e w7 ⟨rfl, hb7⟩
          have HM9 := hideIt (hM8.out.below hb7)
          clear CA hb7 hM8 HRG g14 g12 hbl
          go_wp2
          go_roundw
          case rel => exact ⟨i + 1, by go_num, by omega, HM9.out⟩
          case measure => simp [intOf]; omega
        · obtain rfl : i = nc := by omega
          have HB9 := hideIt (step HB1.out hbl.out)
          obtain ⟨ca, cc, hcv⟩ : ∃ ca cc, x3.cv = .slice ca i cc := by
            have h9 := (hM8.out.holds (.row 78 18 x3.cv x3.C.length (x3.C.flatMap Rc.cells)) (by rw [List.append_nil]; exact List.mem_append.2 (Or.inr List.mem_cons_self)))
            rw [HNC.out] at h9
            exact As.form0 h9
          rw [hcv] at g12
          clear hM8 hbl hcv
          go_wp2
          go_ret
          exact ⟨rfl, HB9.out⟩
theorem infoCall : (Tryd.prog.info? 78).map (fun i => (i.zero, i.size, i.bytes)) = some (some (.agg #[.string ⟨#[]⟩, .int .i64 0, .int .i64 0, .int .i64 0, .string ⟨#[]⟩, .int .i64 0, .int .i64 0, .string ⟨#[]⟩, .bool false, .string ⟨#[]⟩, .bool false, .int .i64 0, .bool false, .int .i64 0, .int .i64 0, .slice none 0 0, .slice none 0 0, .slice none 0 0]), 18, 224) := by kernel_rfl
def KpS (gd ga gr gx : Nat) (f : ByteArray) (ak ap av : Int) (at' : ByteArray) (rv rp : Int) (rt : ByteArray) (rd : Bool) (er : Int) (fd : Bool) (va pt : Int) (kv vv cv : Value) (W : World) : Prop :=
  W.cell? ⟨gd, 3, none⟩ = some (.string f) ∧ W.cell? ⟨ga, 0, none⟩ = some (.int .i64 ak) ∧ W.cell? ⟨ga, 1, none⟩ = some (.int .i64 ap) ∧ W.cell? ⟨ga, 2, none⟩ = some (.int .i64 av) ∧ W.cell? ⟨ga, 3, none⟩ = some (.string at') ∧ W.cell? ⟨gr, 0, none⟩ = some (.int .i64 rv) ∧ W.cell? ⟨gr, 1, none⟩ = some (.int .i64 rp) ∧ W.cell? ⟨gr, 2, none⟩ = some (.string rt) ∧ W.cell? ⟨gr, 3, none⟩ = some (.bool rd) ∧ W.cell? ⟨gx, 0, none⟩ = some (.int .i64 er) ∧ W.cell? ⟨gx, 1, none⟩ = some (.bool fd) ∧ W.cell? ⟨gx, 2, none⟩ = some (.int .i64 va) ∧ W.cell? ⟨gx, 3, none⟩ = some (.int .i64 pt) ∧ W.cell? ⟨gx, 4, none⟩ = some kv ∧ W.cell? ⟨gx, 5, none⟩ = some vv ∧ W.cell? ⟨gx, 6, none⟩ = some cv
theorem kpS_of {w0 W : World} {B : Nat} {l : List As} {gd ga gr gx : Nat} {f : ByteArray} {ak ap av : Int} {at' : ByteArray} {rv rp : Int} {rt : ByteArray} {rd : Bool} {er : Int} {fd : Bool} {va pt : Int} {kv vv cv : Value} {c : Array Value} {t1 t2 t3 t4 : TypeId} (h : M w0 B W l) (i : Nat) (h0 : l[i]? = some (.blk gx #[.int .i64 er, .bool fd, .int .i64 va, .int .i64 pt, kv, vv, cv] t1)) (h1 : l[i + 1]? = some (.blk gr #[.int .i64 rv, .int .i64 rp, .string rt, .bool rd] t2)) (h2 : l[i + 2]? = some (.blk ga #[.int .i64 ak, .int .i64 ap, .int .i64 av, .string at'] t3)) (h3 : l[i + 3]? = some (.blk gd c t4)) (h4 : c[3]? = some (.string f)) : KpS gd ga gr gx f ak ap av at' rv rp rt rd er fd va pt kv vv cv W :=
  ⟨h.cell h3 3 _ h4, h.cell h2 0 _ rfl, h.cell h2 1 _ rfl, h.cell h2 2 _ rfl, h.cell h2 3 _ rfl, h.cell h1 0 _ rfl, h.cell h1 1 _ rfl, h.cell h1 2 _ rfl, h.cell h1 3 _ rfl, h.cell h0 0 _ rfl, h.cell h0 1 _ rfl, h.cell h0 2 _ rfl, h.cell h0 3 _ rfl, h.cell h0 4 _ rfl, h.cell h0 5 _ rfl, h.cell h0 6 _ rfl⟩
theorem M.kept {w0 W : World} {B : Nat} {nb r : As} {R K P fr : List As} (h : M w0 B W (nb :: (R ++ (K ++ (P ++ (r :: fr)))))) : M w0 B W (K ++ (P ++ (r :: (R ++ fr)))) := by
  refine (h.sub (List.sublist_cons_self _ _)).perm ?_
  refine List.Perm.symm ((List.perm_append_comm_assoc R K _).trans (List.Perm.append_left _ ?_))
  refine (List.perm_append_comm_assoc R P _).trans (List.Perm.append_left _ ?_)
  exact List.perm_middle
set_option maxRecDepth 100000 in
set_option maxHeartbeats 6400000 in
theorem move_go_k (nc : Nat) (CL : List Value) (hnc : nc ≤ 100000000000) (gd kg kc nt gw tg tc ug uc vg vc dg dc bg bc nd i c : Nat) (cv ov : Value) (now puts : Int) (k key v ak ap av rv rp : Int) (f at' rt : ByteArray) (rd drf drf' rf wt : Bool) (kns kns' bs V V' : List Int) (ds : List Value) (ts : List Int) (T T' : List ByteArray) (U U' : List Bool) (tm : Value) (P : ByteArray → Prop) (fr : List As) (w0 w : World) (B : Nat) (htab : Tab w0) (hB : B = w0.heap.size)
    (hc : c < 64) (hb : bs[c]? = some (i : Int)) (hD : ds[i]? = some (.pointer (some ⟨gd, 0, none⟩))) (_hnd : nd ≤ 100000000) (hdl : ds.length = nd) (hnt : nt ≤ 100000000) (hnw : 0 ≤ now ∧ now ≤ 100000000000)
    (hNext : ∀ W, Tab W → Calls Tryd.prog 26 #[.string f] W fun e w' => e = .returned (.tuple #[.agg #[.int .i64 ak, .int .i64 ap, .int .i64 av, .string at'], .int .i64 0]) ∧ Below W.heap.size W w')
    (hLegal : ∀ W ga, M w0 B W (.blk ga #[.int .i64 ak, .int .i64 ap, .int .i64 av, .string at'] 45 :: LM gd kg kc gw tg tc ug uc vg vc dg dc bg bc nd k key v f tm nt drf kns ts now puts rf wt true cv ov bs ds T U V (.row 78 18 cv nc CL :: fr)) → Calls Tryd.prog 81 #[.pointer (some ⟨gw, 0, none⟩), .pointer (some ⟨gd, 0, none⟩), .agg #[.int .i64 ak, .int .i64 ap, .int .i64 av, .string at']] W fun e w' => e = .returned (.bool true) ∧ Below W.heap.size W w')
    (hAct : ∀ W ga, M w0 B W (.blk ga #[.int .i64 ak, .int .i64 ap, .int .i64 av, .string at'] 45 :: LM gd kg kc gw tg tc ug uc vg vc dg dc bg bc nd k key v f tm nt drf kns ts now puts rf wt true cv ov bs ds T U V (.row 78 18 cv nc CL :: fr)) → Calls Tryd.prog 82 #[.pointer (some ⟨gw, 0, none⟩), .agg #[.int .i64 ak, .int .i64 ap, .int .i64 av, .string at']] W fun e w' => e = .returned (.agg #[.int .i64 rv, .int .i64 rp, .string rt, .bool rd]) ∧ M w0 B w' (.blk ga #[.int .i64 ak, .int .i64 ap, .int .i64 av, .string at'] 45 :: LM gd kg kc gw tg tc ug uc vg vc dg dc bg bc nd k key v f tm nt drf kns ts now puts rf wt true cv ov bs ds T' U' V' (.row 78 18 cv nc CL :: fr)))
    (hLearns : ∀ W ga gr, M w0 B W (.blk gr #[.int .i64 rv, .int .i64 rp, .string rt, .bool rd] 73 :: .blk ga #[.int .i64 ak, .int .i64 ap, .int .i64 av, .string at'] 45 :: LM gd kg kc gw tg tc ug uc vg vc dg dc bg bc nd k key v f tm nt drf kns ts now puts rf wt true cv ov bs ds T' U' V' (.row 78 18 cv nc CL :: fr)) → Calls Tryd.prog 83 #[.pointer (some ⟨gd, 0, none⟩), .agg #[.int .i64 ak, .int .i64 ap, .int .i64 av, .string at'], .agg #[.int .i64 rv, .int .i64 rp, .string rt, .bool rd]] W fun e w' => (∃ u, e = .returned u) ∧ M w0 B w' (.blk gr #[.int .i64 rv, .int .i64 rp, .string rt, .bool rd] 73 :: .blk ga #[.int .i64 ak, .int .i64 ap, .int .i64 av, .string at'] 45 :: LM gd kg kc gw tg tc ug uc vg vc dg dc bg bc nd k key v f tm nt drf' kns' ts now puts rf wt true cv ov bs ds T' U' V' (.row 78 18 cv nc CL :: fr)))
    (hStands : wt = true → ak ≠ 1 → ∀ W ga gr, M w0 B W (.blk gr #[.int .i64 rv, .int .i64 rp, .string rt, .bool rd] 73 :: .blk ga #[.int .i64 ak, .int .i64 ap, .int .i64 av, .string at'] 45 :: LM gd kg kc gw tg tc ug uc vg vc dg dc bg bc nd k key v f tm nt drf' kns' ts now puts rf wt true cv ov bs ds T' U' V' (.row 78 18 cv nc CL :: fr)) → Calls Tryd.prog 84 #[.pointer (some ⟨gw, 0, none⟩)] W fun e w' => e = .returned (.bool true) ∧ Below W.heap.size W w')
    (hTell : ∀ W, Tab W → Calls Tryd.prog 61 #[.string f, .agg #[.int .i64 rv, .int .i64 rp, .string rt, .bool rd]] W fun e w' => GoR P W w' e)
    (h : M w0 B w (LM gd kg kc gw tg tc ug uc vg vc dg dc bg bc nd k key v f tm nt drf kns ts now puts rf wt true cv ov bs ds T U V (.row 78 18 cv nc CL :: fr))) :
    Calls Tryd.prog 56 #[.pointer (some ⟨gw, 0, none⟩), .int .i64 c] w fun e w' => (∃ u, e = .returned u) ∧ ∃ tm' f' cv2 k2 v2 c2, P f' ∧ M w0 B w' (LM gd kg kc gw tg tc ug uc vg vc dg dc bg bc nd k key v f' tm' (nt + 1) drf' kns' (ts ++ [now]) (now + 1) puts (rf || drf') wt true cv2 ov bs ds T' U' V' (.row 78 18 cv2 (nc + 1) (CL ++ [.string f, .int .i64 ak, .int .i64 ap, .int .i64 av, .string at', .int .i64 rv, .int .i64 rp, .string rt, .bool rd, .string f', .bool false, .int .i64 0, .bool false, .int .i64 0, .int .i64 0, k2, v2, c2]) :: .row 142 2 c2 0 (cutc []) :: .row 3 1 v2 0 (ints []) :: .row 3 1 k2 0 (ints []) :: fr)) := by
  obtain ⟨i0, hi0, hz0, hz1, hz2⟩ := info_parts infoInt
  obtain ⟨ta, tcp, rfl⟩ := As.form0 (h.get (i := 2) rfl)
  obtain ⟨hn0, hn1⟩ := hnw
  have hi1 : i < nd := by rw [← hdl]; exact (List.getElem?_eq_some_iff.1 hD).1
  have hii : (i : Int) < (nd : Int) := by omega
  have hi2 : (0 : Int) ≤ (i : Int) := by omega
  have hc0 : (0 : Int) ≤ (c : Int) := by omega
  have hc1 : (c : Int) < 64 := by omega
  have q3 := h.cell (i := 3) rfl 3 (.slice (some ⟨dg, 0, none⟩) nd dc) rfl
  have q4 := h.cell (i := 3) rfl 4 (.slice (some ⟨bg, 0, none⟩) 64 bc) rfl
  have b0 := h.rowCell (i := 4) rfl c (.int .i64 i) (by simp [ints, hb])
  have d0 := h.rowCell (i := 5) rfl i _ hD
  have d3 := h.cell (i := 0) rfl 3 (.string f) rfl
  have HM := hideIt h
  have HT : Hid (∀ W l, M w0 B W l → Tab W) := fun W l hm => htab.below (hB ▸ hm.bl)
  have CN := hideIt hNext
  have CL := hideIt hLegal
  have CA := hideIt hAct
  have CE := hideIt hLearns
  have CST := hideIt hStands
  have HTL := hideIt hTell
  clear h htab hB hD hdl hTell hNext hLegal hAct hLearns hStands hb
  go_enter Tryd.func56, Tryd.ntmps56
  go_wp2
  go_quiet (fail)
  go_wp2_with fail
  refine (CN.out _ (HT.out _ _ (HM.out.drewN _))).mono ?_
  rintro e w1 ⟨rfl, hb⟩
  have A1 := hideIt ((HM.out.drewN _).below hb)
  clear hb HM CN q3 q4 b0 d0 d3
  have A2 := hideIt (A1.out.alloc #[.int .i64 ak, .int .i64 ap, .int .i64 av, .string at'] 45)
  obtain ⟨ga, hga⟩ : ∃ g, w1.heap.size = g := ⟨_, rfl⟩
  rw [hga] at A2
  go_wp2_with fail
  refine (CL.out _ ga A2.out).mono ?_
  rintro e w2 ⟨rfl, hb⟩
  have A3 := hideIt (A2.out.below hb)
  clear hb A2 A1 hga CL
  have a0 := A3.out.cell (i := 0) rfl 0 (.int .i64 ak) rfl
  have a1 := A3.out.cell (i := 0) rfl 1 (.int .i64 ap) rfl
  have a2 := A3.out.cell (i := 0) rfl 2 (.int .i64 av) rfl
  have a3 := A3.out.cell (i := 0) rfl 3 (.string at') rfl
  go_wp2_with fail
  refine (CA.out _ ga A3.out).mono ?_
  rintro e w3 ⟨rfl, hM3⟩
  have A4 := hideIt hM3
  clear hM3 A3 a0 a1 a2 a3 CA
  have a0 := A4.out.cell (i := 0) rfl 0 (.int .i64 ak) rfl
  have a1 := A4.out.cell (i := 0) rfl 1 (.int .i64 ap) rfl
  have a2 := A4.out.cell (i := 0) rfl 2 (.int .i64 av) rfl
  have a3 := A4.out.cell (i := 0) rfl 3 (.string at') rfl
  have hlg := A4.out.lt (i := 0) rfl
  have A5 := hideIt (A4.out.alloc #[.int .i64 rv, .int .i64 rp, .string rt, .bool rd] 73)
  go_wp2_with fail
  obtain ⟨gr, hgr⟩ : ∃ g, w3.heap.size = g := ⟨_, rfl⟩
  rw [hgr] at A5 ⊢
  refine (CE.out _ ga gr A5.out).mono ?_
  rintro e w4 ⟨⟨u, rfl⟩, hM4⟩
  have A6 := hideIt hM4
  clear hM4 A5 A4 a0 a1 a2 a3 hgr hlg CE
  have g9 := A6.out.cell (i := 5) rfl 9 (.bool wt) rfl
  have g10 := A6.out.cell (i := 5) rfl 10 (.bool false) rfl
  have ak0 := A6.out.cell (i := 1) rfl 0 (.int .i64 ak) rfl
  go_upto_region 9 with fail
  go_cut [63] (fun u wy => u = .bool (wt && (ak != 1)) ∧ wy = w4)
  case first =>
    cases wt
    all_goals
      go_wp2
      go_meet
      case rel => exact ⟨by simp, rfl⟩
  case rest =>
  obtain ⟨rfl, rfl⟩ := hcut
  obtain ⟨bb, hbb⟩ : ∃ b, (wt && (ak != 1)) = b := ⟨_, rfl⟩
  have HBB := hideIt hbb
  rw [hbb]
  clear hbb
  go_upto_if 63 with fail
  go_cut [] (fun wy => Hid (M w0 B wy (.blk gr #[.int .i64 rv, .int .i64 rp, .string rt, .bool rd] 73 :: .blk ga #[.int .i64 ak, .int .i64 ap, .int .i64 av, .string at'] 45 :: LM gd kg kc gw tg tc ug uc vg vc dg dc bg bc nd k key v f (.slice ta nt tcp) nt drf' kns' ts now puts rf wt true cv ov bs ds T' U' V' (.row 78 18 cv nc CL :: fr))))
  case first =>
    cases bb
    · go_wp2
      go_meet
      case rel => exact A6.out
    · have hb1 : wt = true ∧ ak ≠ 1 := by have := HBB.out; simp at this; exact this
      have CS2 := hideIt (CST.out hb1.1 hb1.2 _ ga gr A6.out)
      clear hb1
      go_wp2_with fail
      refine CS2.out.mono ?_
      rintro e w5 ⟨rfl, hb⟩
      have B6 := hideIt (A6.out.below hb)
      clear hb CS2 g9 g10 ak0
      have g10 := B6.out.cell (i := 5) rfl 10 (.bool false) rfl
      have f10 := B6.out.free (i := 5) rfl 10
      have S10 := hideIt (B6.out.store (i := 5) (j := 10) rfl (.bool false) rfl)
      go_wp2
      go_meet
      case rel => exact S10.out
  case rest =>
   have B6 := hideIt hcut.out
   clear hcut A6 g9 g10 ak0 CST
   have A6 := hideIt B6.out
   clear B6
   have g7 := A6.out.cell (i := 5) rfl 7 (.bool rf) rfl
   have g5 := A6.out.cell (i := 5) rfl 5 (.int .i64 now) rfl
   have d6 := A6.out.cell (i := 2) rfl 6 (.bool drf') rfl
   have d4 := A6.out.cell (i := 2) rfl 4 (.slice ta nt tcp) rfl
   have e7 := A6.out.free (i := 5) rfl 7
   have hgg := A6.out.bne (i := 2) (j := 5) rfl rfl (by omega)
   have hgg' : gw ≠ gd := fun e => hgg e.symm
   have A7 := hideIt (A6.out.store (i := 5) (j := 7) rfl (.bool (rf || drf')) rfl)
   have hlw := A6.out.lt (i := 5) rfl
   have hld := A6.out.lt (i := 2) rfl
   go_upto_region 12 with fail
   go_cut [] (fun wy => Hid (M w0 B wy (.blk gr #[.int .i64 rv, .int .i64 rp, .string rt, .bool rd] 73 :: .blk ga #[.int .i64 ak, .int .i64 ap, .int .i64 av, .string at'] 45 :: LM gd kg kc gw tg tc ug uc vg vc dg dc bg bc nd k key v f (.slice ta nt tcp) nt drf' kns' ts now puts (rf || drf') wt true cv ov bs ds T' U' V' (.row 78 18 cv nc CL :: fr))))
   case first =>
     cases rf
     all_goals
       go_wp2
       go_meet
       case rel => exact A7.out
   case rest =>
    have A8 := hideIt hcut.out
    clear hcut A6 A7 g7 g5 d6 d4 e7 hlw hld
    have g5 := A8.out.cell (i := 5) rfl 5 (.int .i64 now) rfl
    have d4 := A8.out.cell (i := 2) rfl 4 (.slice ta nt tcp) rfl
    have hlw := A8.out.lt (i := 5) rfl
    have hld := A8.out.lt (i := 2) rfl
    go_upto_region 13 with fail
    go_cut [] (fun wy => ∃ tm', Hid (M w0 B wy (.blk gr #[.int .i64 rv, .int .i64 rp, .string rt, .bool rd] 73 :: .blk ga #[.int .i64 ak, .int .i64 ap, .int .i64 av, .string at'] 45 :: LM gd kg kc gw tg tc ug uc vg vc dg dc bg bc nd k key v f tm' (nt + 1) drf' kns' (ts ++ [now]) now puts (rf || drf') wt true cv ov bs ds T' U' V' (.row 78 18 cv nc CL :: fr))))
    case first =>
     go_region_law (refine step_append_lies _ rfl _ _ 22 rfl B 3 i0 (.int .i64 0) 1 8 Tryd.underlying22 hi0 hz0 hz1 hz2 rfl (by decide) _ nt (ints ts) rfl (World.ownsRow.alloc (A8.out.get (i := 4) rfl).own _) ⟨_, 0, none⟩ 1 1 [.int .i64 now] rfl rfl (by have := news_one wc (.int .i64 now) 3; simpa using this) (by simp [Value.oneCell']) (by omega) (by unfold maxLen; omega) (by omega) (by have := A8.out.sz; simp at this ⊢; omega) _ rfl ?_; intro g1 cap1 w5 hown hgrow hat hlt1; rw [← ints_snoc] at hown; have hm := (A8.out.allocd _).drew.lies (i := 4) rfl hown hgrow hat; clear g5 d4 hown hgrow hat; have d4 := hm.cell (i := 2) rfl 4 (.slice ta nt tcp) rfl; have f4 := hm.free (i := 2) rfl 4; have H1 := hideIt (hm.store (i := 2) (j := 4) rfl (.slice (some ⟨g1, 0, none⟩) (nt + 1) cap1) rfl); clear hm)
     all_goals
       go_wp2
       go_meet
       case rel => exact ⟨_, H1.out⟩
    case rest =>
     obtain ⟨tm', hM8⟩ := hcut
     clear A8 g5 d4 hlw hld
     have g5 := hM8.out.cell (i := 5) rfl 5 (.int .i64 now) rfl
     have e5 := hM8.out.free (i := 5) rfl 5
     have d3 := hM8.out.cell (i := 2) rfl 3 (.string f) rfl
     have r0 := hM8.out.cell (i := 0) rfl 0 (.int .i64 rv) rfl
     have r1 := hM8.out.cell (i := 0) rfl 1 (.int .i64 rp) rfl
     have r2 := hM8.out.cell (i := 0) rfl 2 (.string rt) rfl
     have r3 := hM8.out.cell (i := 0) rfl 3 (.bool rd) rfl
     have hgr1 := hM8.out.bne (i := 0) (j := 5) rfl rfl (by omega)
     have hgr2 : gw ≠ gr := fun e => hgr1 e.symm
     have A9 := hideIt (hM8.out.store (i := 5) (j := 5) rfl (.int .i64 (now + 1)) rfl)
     have A10 := A9.out.alloc #[.int .i64 0, .bool false, .int .i64 0, .int .i64 0, .slice none 0 0, .slice none 0 0, .slice none 0 0] 76
     rw [show (wc.setCell ⟨gw, 5, none⟩ (.int .i64 (now + 1))).heap.size = wc.heap.size by simp [World.setCell]] at A10
     replace A10 := hideIt A10
     have hgrl := hM8.out.lt (i := 0) rfl
     have hgdl := hM8.out.lt (i := 2) rfl
     have hnw1 : gd ≠ wc.heap.size := by omega
     have hnw2 : gr ≠ wc.heap.size := by omega
     have hnw3 : wc.heap.size ≠ gd := by omega
     have hnw4 : wc.heap.size ≠ gr := by omega
     go_upto_region 15 with fail
     go_cut [9, 10, 11, 12] (fun a b c d wy => ∃ gx : Nat, b = .pointer (some ⟨gx, 0, none⟩) ∧ d = .int .i64 0 ∧ (∃ f' : ByteArray, a = .string f' ∧ c = .bool false ∧ Hid (P f') ∧ Hid (M w0 B wy (.blk gx ans0 76 :: .blk gr #[.int .i64 rv, .int .i64 rp, .string rt, .bool rd] 73 :: .blk ga #[.int .i64 ak, .int .i64 ap, .int .i64 av, .string at'] 45 :: LM gd kg kc gw tg tc ug uc vg vc dg dc bg bc nd k key v f tm' (nt + 1) drf' kns' (ts ++ [now]) (now + 1) puts (rf || drf') wt true cv ov bs ds T' U' V' (.row 78 18 cv nc CL :: fr)))))
     case first =>
       go_region_held3 (fun W => W.cell? ⟨gd, 3, none⟩ = some (.string f) ∧ W.cell? ⟨gr, 0, none⟩ = some (.int .i64 rv) ∧ W.cell? ⟨gr, 1, none⟩ = some (.int .i64 rp) ∧ W.cell? ⟨gr, 2, none⟩ = some (.string rt) ∧ W.cell? ⟨gr, 3, none⟩ = some (.bool rd)) (go_keep) (first
         | (go_at_call 61; refine (HTL.out _ (HT.out _ _ A9.out.drew)).mono ?_; rintro e w9 ⟨c9, rfl, hc9, hb9⟩; have hm9 := A9.out.drew.below hb9; have z3 := hm9.cell (i := 2) rfl 3 (.string f) rfl; have zr0 := hm9.cell (i := 0) rfl 0 (.int .i64 rv) rfl; have zr1 := hm9.cell (i := 0) rfl 1 (.int .i64 rp) rfl; have zr2 := hm9.cell (i := 0) rfl 2 (.string rt) rfl; have zr3 := hm9.cell (i := 0) rfl 3 (.bool rd) rfl; have zl1 := hm9.lt (i := 2) rfl; have zl2 := hm9.lt (i := 0) rfl; have HA : Hid True := trivial; have H9 := hideIt (hm9.alloc ans0 76); have HC9 := hideIt hc9; clear hb9 hc9 hm9)
         | (go_at_call 61; refine (HTL.out _ (HT.out _ _ A10.out.drew)).mono ?_; rintro e w9 ⟨c9, rfl, hc9, hb9⟩; have hm9 := A10.out.drew.below hb9; have z3 := hm9.cell (i := 3) rfl 3 (.string f) rfl; have zr0 := hm9.cell (i := 1) rfl 0 (.int .i64 rv) rfl; have zr1 := hm9.cell (i := 1) rfl 1 (.int .i64 rp) rfl; have zr2 := hm9.cell (i := 1) rfl 2 (.string rt) rfl; have zr3 := hm9.cell (i := 1) rfl 3 (.bool rd) rfl; have zl1 := hm9.lt (i := 3) rfl; have zl2 := hm9.lt (i := 1) rfl; have HB : Hid True := trivial; have x0 := hm9.cell (i := 0) rfl 0 (.int .i64 0) rfl; have y0 := hm9.free (i := 0) rfl 0; have x1 := hm9.cell (i := 0) rfl 1 (.bool false) rfl; have y1 := hm9.free (i := 0) rfl 1; have x2 := hm9.cell (i := 0) rfl 2 (.int .i64 0) rfl; have y2 := hm9.free (i := 0) rfl 2; have x3 := hm9.cell (i := 0) rfl 3 (.int .i64 0) rfl; have y3 := hm9.free (i := 0) rfl 3; have x4 := hm9.cell (i := 0) rfl 4 (.slice none 0 0) rfl; have y4 := hm9.free (i := 0) rfl 4; have x5 := hm9.cell (i := 0) rfl 5 (.slice none 0 0) rfl; have y5 := hm9.free (i := 0) rfl 5; have x6 := hm9.cell (i := 0) rfl 6 (.slice none 0 0) rfl; have y6 := hm9.free (i := 0) rfl 6; have H9 := hideIt (hm9.store7 (i := 0) rfl (.int .i64 0) (.bool false) (.int .i64 0) (.int .i64 0) (.slice none 0 0) (.slice none 0 0) (.slice none 0 0)); have HC9 := hideIt hc9; clear hm9 hb9 hc9))
       all_goals
         go_wp2
         go_meet
         case rel => first | (have := HA; exact ⟨w9.heap.size, rfl, rfl, c9, rfl, rfl, HC9.out, H9.out⟩) | (have := HB; exact ⟨wc.heap.size, rfl, rfl, c9, rfl, rfl, HC9.out, H9.out⟩)
     case rest =>
       clear A9 A10 hgrl hgdl hnw1 hnw2 hnw3 hnw4 g5 e5 d3 r0 r1 r2 r3 hgr1 hgr2 hM8
       obtain ⟨gx, rfl, rfl, f', rfl, rfl, hf', hN⟩ := hcut
       have g11 := hN.out.cell (i := 6) rfl 11 (.bool true) rfl
       go_upto_region 19 with fail
       go_cut [] (fun wy => ∃ cv2 k2 v2 c2, Hid (M w0 B wy (.blk gx ans0 76 :: .blk gr #[.int .i64 rv, .int .i64 rp, .string rt, .bool rd] 73 :: .blk ga #[.int .i64 ak, .int .i64 ap, .int .i64 av, .string at'] 45 :: LM gd kg kc gw tg tc ug uc vg vc dg dc bg bc nd k key v f tm' (nt + 1) drf' kns' (ts ++ [now]) (now + 1) puts (rf || drf') wt true cv2 ov bs ds T' U' V' (.row 78 18 cv2 (nc + 1) (CL ++ [.string f, .int .i64 ak, .int .i64 ap, .int .i64 av, .string at', .int .i64 rv, .int .i64 rp, .string rt, .bool rd, .string f', .bool false, .int .i64 0, .bool false, .int .i64 0, .int .i64 0, k2, v2, c2]) :: .row 142 2 c2 0 (cutc []) :: .row 3 1 v2 0 (ints []) :: .row 3 1 k2 0 (ints []) :: fr))))
       case first =>
         obtain ⟨j0, hj0, hy0, hy1, hy2⟩ := info_parts infoCall
         obtain ⟨ca, cc, rfl⟩ := As.form0 (hN.out.get (i := 12) rfl)
         have HND := hideIt (M.nil2 (e := 3) (z := 1) (l1 := []) (M.nil2 (e := 3) (z := 1) (l1 := []) (M.nil2 (e := 142) (z := 2) (l1 := []) hN.out.drew)))
         obtain ⟨wd, hwd⟩ : ∃ W, wc.drew = W := ⟨_, rfl⟩
         rw [hwd] at HND
         have CP := hideIt (copied_any 0 0 0 false (.slice none 0 0) (.slice none 0 0) (.slice none 0 0) 0 0 0 [] [] [] _ w0 wd B rfl rfl rfl (by omega) (by omega) (by omega) HND.out)
         have g12 := HND.out.cell (i := 9) rfl 12 (.slice ca nc cc) rfl
         refine wp_region_noPanic ?_
         refine wp_region_held_drew (S := (KpS gd ga gr gx f ak ap av at' rv rp rt rd 0 false 0 0 (.slice none 0 0) (.slice none 0 0) (.slice none 0 0))) (by kernel_rfl) ?_ (fun hHeld => ?_)
         · rw [hwd]
           exact (kpS_of HND.out 3 rfl rfl rfl rfl rfl)
         rw [hwd] at hHeld ⊢
         clear hwd
         refine wpAnyH_take (i := 0) (oi := ({ dst := some 130, op := Go.Op.move (Go.Operand.tmp 0), type := 50, pos := "world.go:208", after := #[], guard := none } : Oper)) (v := ?_) rfl (by kernel_rfl) (by kernel_rfl) (by kernel_rfl) (fun _ _ _ h => h) (Or.inl ⟨by rfl, ?_⟩) (by assumption) ?_
         rotate_left 1
         · (intro w hSw; unfold KpS at hSw; first | (go_simp; done) | (go_simp; with_reducible rfl))
         try simp only [Act.put, List.setIfInBounds_toArray, List.set_cons_zero, List.set_cons_succ]
         refine wpAnyH_take (i := 1) (oi := ({ dst := some 131, op := Go.Op.move (Go.Operand.tmp 0), type := 50, pos := "world.go:208", after := #[], guard := none } : Oper)) (v := ?_) rfl (by kernel_rfl) (by kernel_rfl) (by kernel_rfl) (fun _ _ _ h => h) (Or.inl ⟨by rfl, ?_⟩) (by assumption) ?_
         rotate_left 1
         · (intro w hSw; unfold KpS at hSw; first | (go_simp; done) | (go_simp; with_reducible rfl))
         try simp only [Act.put, List.setIfInBounds_toArray, List.set_cons_zero, List.set_cons_succ]
         refine wpAnyH_take (i := 2) (oi := ({ dst := some 132, op := Go.Op.nilCheck (Go.Operand.tmp 131), type := 0, pos := "world.go:208", after := #[{ on := 1, ground := Go.Ground.data }], guard := none } : Oper)) (v := ?_) rfl (by kernel_rfl) (by kernel_rfl) (by kernel_rfl) (fun _ _ _ h => h) (Or.inl ⟨by rfl, ?_⟩) (by assumption) ?_
         rotate_left 1
         · (intro w hSw; unfold KpS at hSw; first | (go_simp; done) | (go_simp; with_reducible rfl))
         try simp only [Act.put, List.setIfInBounds_toArray, List.set_cons_zero, List.set_cons_succ]
         refine wpAnyH_take (i := 3) (oi := ({ dst := some 133, op := Go.Op.fieldAddr 58 (Go.Operand.tmp 132) 12, type := 0, pos := "world.go:208", after := #[{ on := 2, ground := Go.Ground.data }], guard := none } : Oper)) (v := ?_) rfl (by kernel_rfl) (by kernel_rfl) (by kernel_rfl) (fun _ _ _ h => h) (Or.inl ⟨by rfl, ?_⟩) (by assumption) ?_
         rotate_left 1
         · (intro w hSw; unfold KpS at hSw; first | (go_simp; done) | (go_simp; with_reducible rfl))
         try simp only [Act.put, List.setIfInBounds_toArray, List.set_cons_zero, List.set_cons_succ]
         refine wpAnyH_take (i := 5) (oi := ({ dst := some 135, op := Go.Op.move (Go.Operand.tmp 4), type := 81, pos := "world.go:208", after := #[], guard := none } : Oper)) (v := ?_) rfl (by kernel_rfl) (by kernel_rfl) (by kernel_rfl) (fun _ _ _ h => h) (Or.inl ⟨by rfl, ?_⟩) (by assumption) ?_
         rotate_left 1
         · (intro w hSw; unfold KpS at hSw; first | (go_simp; done) | (go_simp; with_reducible rfl))
         try simp only [Act.put, List.setIfInBounds_toArray, List.set_cons_zero, List.set_cons_succ]
         refine wpAnyH_take (i := 6) (oi := ({ dst := some 136, op := Go.Op.nilCheck (Go.Operand.tmp 135), type := 0, pos := "world.go:208", after := #[{ on := 5, ground := Go.Ground.data }], guard := none } : Oper)) (v := ?_) rfl (by kernel_rfl) (by kernel_rfl) (by kernel_rfl) (fun _ _ _ h => h) (Or.inl ⟨by rfl, ?_⟩) (by assumption) ?_
         rotate_left 1
         · (intro w hSw; unfold KpS at hSw; first | (go_simp; done) | (go_simp; with_reducible rfl))
         try simp only [Act.put, List.setIfInBounds_toArray, List.set_cons_zero, List.set_cons_succ]
         refine wpAnyH_take (i := 7) (oi := ({ dst := some 137, op := Go.Op.fieldAddr 84 (Go.Operand.tmp 136) 1, type := 0, pos := "world.go:208", after := #[{ on := 6, ground := Go.Ground.data }], guard := none } : Oper)) (v := ?_) rfl (by kernel_rfl) (by kernel_rfl) (by kernel_rfl) (fun _ _ _ h => h) (Or.inl ⟨by rfl, ?_⟩) (by assumption) ?_
         rotate_left 1
         · (intro w hSw; unfold KpS at hSw; first | (go_simp; done) | (go_simp; with_reducible rfl))
         try simp only [Act.put, List.setIfInBounds_toArray, List.set_cons_zero, List.set_cons_succ]
         refine wpAnyH_take (i := 8) (oi := ({ dst := some 138, op := Go.Op.load 9 (Go.Operand.tmp 137), type := 9, pos := "world.go:208", after := #[{ on := 7, ground := Go.Ground.data }], guard := none } : Oper)) (v := ?_) rfl (by kernel_rfl) (by kernel_rfl) (by kernel_rfl) (fun _ _ _ h => h) (Or.inl ⟨by rfl, ?_⟩) (by assumption) ?_
         rotate_left 1
         · (intro w hSw; unfold KpS at hSw; first | (go_simp; done) | (go_simp; with_reducible rfl))
         try simp only [Act.put, List.setIfInBounds_toArray, List.set_cons_zero, List.set_cons_succ]
         refine wpAnyH_take (i := 9) (oi := ({ dst := some 139, op := Go.Op.load 45 (Go.Operand.tmp 5), type := 45, pos := "world.go:208", after := #[], guard := none } : Oper)) (v := ?_) rfl (by kernel_rfl) (by kernel_rfl) (by kernel_rfl) (fun _ _ _ h => h) (Or.inl ⟨by rfl, ?_⟩) (by assumption) ?_
         rotate_left 1
         · (intro w hSw; unfold KpS at hSw; first | (go_simp; done) | (go_simp; with_reducible rfl))
         try simp only [Act.put, List.setIfInBounds_toArray, List.set_cons_zero, List.set_cons_succ]
         refine wpAnyH_take (i := 10) (oi := ({ dst := some 140, op := Go.Op.load 73 (Go.Operand.tmp 8), type := 73, pos := "world.go:208", after := #[], guard := none } : Oper)) (v := ?_) rfl (by kernel_rfl) (by kernel_rfl) (by kernel_rfl) (fun _ _ _ h => h) (Or.inl ⟨by rfl, ?_⟩) (by assumption) ?_
         rotate_left 1
         · (intro w hSw; unfold KpS at hSw; first | (go_simp; done) | (go_simp; with_reducible rfl))
         try simp only [Act.put, List.setIfInBounds_toArray, List.set_cons_zero, List.set_cons_succ]
         refine wpAnyH_take (i := 11) (oi := ({ dst := some 141, op := Go.Op.move (Go.Operand.tmp 9), type := 9, pos := "world.go:208", after := #[], guard := none } : Oper)) (v := ?_) rfl (by kernel_rfl) (by kernel_rfl) (by kernel_rfl) (fun _ _ _ h => h) (Or.inl ⟨by rfl, ?_⟩) (by assumption) ?_
         rotate_left 1
         · (intro w hSw; unfold KpS at hSw; first | (go_simp; done) | (go_simp; with_reducible rfl))
         try simp only [Act.put, List.setIfInBounds_toArray, List.set_cons_zero, List.set_cons_succ]
         refine wpAnyH_take (i := 12) (oi := ({ dst := some 142, op := Go.Op.move (Go.Operand.tmp 11), type := 4, pos := "world.go:208", after := #[], guard := none } : Oper)) (v := ?_) rfl (by kernel_rfl) (by kernel_rfl) (by kernel_rfl) (fun _ _ _ h => h) (Or.inl ⟨by rfl, ?_⟩) (by assumption) ?_
         rotate_left 1
         · (intro w hSw; unfold KpS at hSw; first | (go_simp; done) | (go_simp; with_reducible rfl))
         try simp only [Act.put, List.setIfInBounds_toArray, List.set_cons_zero, List.set_cons_succ]
         refine wpAnyH_take (i := 13) (oi := ({ dst := some 143, op := Go.Op.load 76 (Go.Operand.tmp 10), type := 76, pos := "world.go:208", after := #[], guard := none } : Oper)) (v := ?_) rfl (by kernel_rfl) (by kernel_rfl) (by kernel_rfl) (fun _ _ _ h => h) (Or.inl ⟨by rfl, ?_⟩) (by assumption) ?_
         rotate_left 1
         · (intro w hSw; unfold KpS at hSw; first | (go_simp; done) | (go_simp; with_reducible rfl))
         try simp only [Act.put, List.setIfInBounds_toArray, List.set_cons_zero, List.set_cons_succ]
         refine wpAnyH_ready (rs := [4, 14]) (by kernel_rfl) (by simp) ?_
         refine AllReadyH.cons (o := ({ dst := some 134, op := Go.Op.load 55 (Go.Operand.tmp 133), type := 55, pos := "world.go:208", after := #[{ on := 3, ground := Go.Ground.data }], guard := none } : Oper)) rfl (fun K hK => ?_) ?_
         go_simp
         refine hK.out _ _ hHeld (fun hHeld2 => ?_)
         clear hK K
         try simp only [Act.put, List.setIfInBounds_toArray, List.set_cons_zero, List.set_cons_succ]
         clear hHeld
         have hHeld := hHeld2
         clear hHeld2
         refine wpAnyH_ready (rs := [14]) (by kernel_rfl) (by simp) ?_
         refine AllReadyH.cons (o := ({ dst := some 144, op := Go.Op.call { callee := Go.Callee.value (Go.Operand.func 85), args := #[Go.Operand.tmp 143], argTypes := #[76] }, type := 76, pos := "world.go:208", after := #[{ on := 13, ground := Go.Ground.data }], guard := none } : Oper)) rfl (fun K hK => ?_) AllReadyH.nil
         go_simp
         refine CP.out.mono ?_
         rintro e w9 ⟨k2, v2, c2, rfl, hm9⟩
         obtain ⟨c2a, c2c, rfl⟩ := As.form0 (hm9.get (i := 0) rfl)
         obtain ⟨v2a, v2c, rfl⟩ := As.form0 (hm9.get (i := 1) rfl)
         obtain ⟨k2a, k2c, rfl⟩ := As.form0 (hm9.get (i := 2) rfl)
         have z12 := hm9.cell (i := 12) rfl 12 (.slice ca nc cc) rfl
         have zlt := hm9.lt (i := 12) rfl
         have H9 := hideIt hm9
         have HB9 := hideIt (hm9.alloc #[.string f, .int .i64 ak, .int .i64 ap, .int .i64 av, .string at', .int .i64 rv, .int .i64 rp, .string rt, .bool rd, .string f', .bool false, .int .i64 0, .bool false, .int .i64 0, .int .i64 0, .slice k2a 0 k2c, .slice v2a 0 v2c, .slice c2a 0 c2c] 78)
         clear hm9
         go_wp2_with fail
         refine hK.out _ _ (kpS_of H9.out 6 rfl rfl rfl rfl rfl) (fun hHeld3 => ?_)
         clear hK K
         try simp only [Act.put, List.setIfInBounds_toArray, List.set_cons_zero, List.set_cons_succ]
         clear hHeld
         refine wpAnyH_take (i := 15) (oi := ({ dst := some 145, op := Go.Op.build 78 #[(0, Go.Operand.tmp 138), (1, Go.Operand.tmp 139), (2, Go.Operand.tmp 140), (3, Go.Operand.tmp 141), (4, Go.Operand.tmp 142), (5, Go.Operand.tmp 144)], type := 78, pos := "world.go:208", after := #[{ on := 8, ground := Go.Ground.data }, { on := 9, ground := Go.Ground.data }, { on := 10, ground := Go.Ground.data }, { on := 11, ground := Go.Ground.data }, { on := 12, ground := Go.Ground.data }, { on := 14, ground := Go.Ground.data }], guard := none } : Oper)) (v := ?_) rfl (by kernel_rfl) (by kernel_rfl) (by kernel_rfl) (fun _ _ _ h => h) (Or.inl ⟨by rfl, ?_⟩) (by assumption) ?_
         rotate_left 1
         · (intro w hSw; unfold KpS at hSw; first | (go_simp; done) | (go_simp; with_reducible rfl))
         try simp only [Act.put, List.setIfInBounds_toArray, List.set_cons_zero, List.set_cons_succ]
         refine wpAnyH_ready (rs := [16]) (by kernel_rfl) (by simp) ?_
         refine AllReadyH.cons (o := ({ dst := some 146, op := Go.Op.buildSlice 55 1 #[(0, Go.Operand.tmp 145)], type := 55, pos := "world.go:208", after := #[{ on := 15, ground := Go.Ground.data }], guard := none } : Oper)) rfl (fun K hK => ?_) AllReadyH.nil
         go_simp
         refine hK.out _ _ (kpS_of HB9.out 7 rfl rfl rfl rfl rfl) (fun hHeld4 => ?_)
         clear hK K
         try simp only [Act.put, List.setIfInBounds_toArray, List.set_cons_zero, List.set_cons_succ]
         clear hHeld3
         rotate_left 1
         refine AllReadyH.cons (o := ({ dst := some 144, op := Go.Op.call { callee := Go.Callee.value (Go.Operand.func 85), args := #[Go.Operand.tmp 143], argTypes := #[76] }, type := 76, pos := "world.go:208", after := #[{ on := 13, ground := Go.Ground.data }], guard := none } : Oper)) rfl (fun K hK => ?_) AllReadyH.nil
         go_simp
         refine CP.out.mono ?_
         rintro e w9 ⟨k2, v2, c2, rfl, hm9⟩
         obtain ⟨c2a, c2c, rfl⟩ := As.form0 (hm9.get (i := 0) rfl)
         obtain ⟨v2a, v2c, rfl⟩ := As.form0 (hm9.get (i := 1) rfl)
         obtain ⟨k2a, k2c, rfl⟩ := As.form0 (hm9.get (i := 2) rfl)
         have z12 := hm9.cell (i := 12) rfl 12 (.slice ca nc cc) rfl
         have zlt := hm9.lt (i := 12) rfl
         have H9 := hideIt hm9
         have HB9 := hideIt (hm9.alloc #[.string f, .int .i64 ak, .int .i64 ap, .int .i64 av, .string at', .int .i64 rv, .int .i64 rp, .string rt, .bool rd, .string f', .bool false, .int .i64 0, .bool false, .int .i64 0, .int .i64 0, .slice k2a 0 k2c, .slice v2a 0 v2c, .slice c2a 0 c2c] 78)
         clear hm9
         go_wp2_with fail
         refine hK.out _ _ (kpS_of H9.out 6 rfl rfl rfl rfl rfl) (fun hHeld3 => ?_)
         clear hK K
         try simp only [Act.put, List.setIfInBounds_toArray, List.set_cons_zero, List.set_cons_succ]
         clear hHeld
         refine wpAnyH_take (i := 15) (oi := ({ dst := some 145, op := Go.Op.build 78 #[(0, Go.Operand.tmp 138), (1, Go.Operand.tmp 139), (2, Go.Operand.tmp 140), (3, Go.Operand.tmp 141), (4, Go.Operand.tmp 142), (5, Go.Operand.tmp 144)], type := 78, pos := "world.go:208", after := #[{ on := 8, ground := Go.Ground.data }, { on := 9, ground := Go.Ground.data }, { on := 10, ground := Go.Ground.data }, { on := 11, ground := Go.Ground.data }, { on := 12, ground := Go.Ground.data }, { on := 14, ground := Go.Ground.data }], guard := none } : Oper)) (v := ?_) rfl (by kernel_rfl) (by kernel_rfl) (by kernel_rfl) (fun _ _ _ h => h) (Or.inl ⟨by rfl, ?_⟩) (by assumption) ?_
         rotate_left 1
         · (intro w hSw; unfold KpS at hSw; first | (go_simp; done) | (go_simp; with_reducible rfl))
         try simp only [Act.put, List.setIfInBounds_toArray, List.set_cons_zero, List.set_cons_succ]
         refine wpAnyH_ready (rs := [4, 16]) (by kernel_rfl) (by simp) ?_
         refine AllReadyH.cons (o := ({ dst := some 134, op := Go.Op.load 55 (Go.Operand.tmp 133), type := 55, pos := "world.go:208", after := #[{ on := 3, ground := Go.Ground.data }], guard := none } : Oper)) rfl (fun K hK => ?_) ?_
         go_simp
         refine hK.out _ _ hHeld3 (fun hHeld2 => ?_)
         clear hK K
         try simp only [Act.put, List.setIfInBounds_toArray, List.set_cons_zero, List.set_cons_succ]
         clear hHeld3
         have hHeld3 := hHeld2
         clear hHeld2
         refine wpAnyH_ready (rs := [16]) (by kernel_rfl) (by simp) ?_
         refine AllReadyH.cons (o := ({ dst := some 146, op := Go.Op.buildSlice 55 1 #[(0, Go.Operand.tmp 145)], type := 55, pos := "world.go:208", after := #[{ on := 15, ground := Go.Ground.data }], guard := none } : Oper)) rfl (fun K hK => ?_) AllReadyH.nil
         go_simp
         refine hK.out _ _ (kpS_of HB9.out 7 rfl rfl rfl rfl rfl) (fun hHeld4 => ?_)
         clear hK K
         try simp only [Act.put, List.setIfInBounds_toArray, List.set_cons_zero, List.set_cons_succ]
         clear hHeld3
         rotate_left 1
         refine AllReadyH.cons (o := ({ dst := some 146, op := Go.Op.buildSlice 55 1 #[(0, Go.Operand.tmp 145)], type := 55, pos := "world.go:208", after := #[{ on := 15, ground := Go.Ground.data }], guard := none } : Oper)) rfl (fun K hK => ?_) AllReadyH.nil
         go_simp
         refine hK.out _ _ (kpS_of HB9.out 7 rfl rfl rfl rfl rfl) (fun hHeld4 => ?_)
         clear hK K
         try simp only [Act.put, List.setIfInBounds_toArray, List.set_cons_zero, List.set_cons_succ]
         clear hHeld3
         have g12b := HB9.out.cell (i := 13) rfl 12 (.slice ca nc cc) rfl
         refine wpAnyH_ready (rs := [4]) (by kernel_rfl) (by simp) ?_
         refine AllReadyH.cons (o := ({ dst := some 134, op := Go.Op.load 55 (Go.Operand.tmp 133), type := 55, pos := "world.go:208", after := #[{ on := 3, ground := Go.Ground.data }], guard := none } : Oper)) rfl (fun K hK => ?_) AllReadyH.nil
         go_simp
         refine hK.out _ _ hHeld4 (fun hHeld2 => ?_)
         clear hK K
         try simp only [Act.put, List.setIfInBounds_toArray, List.set_cons_zero, List.set_cons_succ]
         clear hHeld4
         have hHeld4 := hHeld2
         clear hHeld2
         all_goals
           refine wpAnyH_ready (rs := [17]) (by kernel_rfl) (by simp) ?_
           refine AllReadyH.cons (o := ({ dst := some 147, op := Go.Op.call { callee := Go.Callee.builtin Go.Builtin.append, args := #[Go.Operand.tmp 134, Go.Operand.tmp 146], argTypes := #[55, 55] }, type := 55, pos := "world.go:208", after := #[{ on := 4, ground := Go.Ground.data }, { on := 16, ground := Go.Ground.data }, { on := 14, ground := Go.Ground.chain }], guard := none } : Oper)) rfl (fun K hK => ?_) AllReadyH.nil
           refine step_append_lies _ rfl _ _ 55 rfl B 78 j0 (.agg #[.string ⟨#[]⟩, .int .i64 0, .int .i64 0, .int .i64 0, .string ⟨#[]⟩, .int .i64 0, .int .i64 0, .string ⟨#[]⟩, .bool false, .string ⟨#[]⟩, .bool false, .int .i64 0, .bool false, .int .i64 0, .int .i64 0, .slice none 0 0, .slice none 0 0, .slice none 0 0]) 18 224 Tryd.underlying55 hj0 hy0 hy1 hy2 rfl (by decide) (.slice ca nc cc) nc CL rfl (HB9.out.get (i := 19) rfl) ⟨_, 0, none⟩ 1 1 [.string f, .int .i64 ak, .int .i64 ap, .int .i64 av, .string at', .int .i64 rv, .int .i64 rp, .string rt, .bool rd, .string f', .bool false, .int .i64 0, .bool false, .int .i64 0, .int .i64 0, .slice k2a 0 k2c, .slice v2a 0 v2c, .slice c2a 0 c2c] rfl rfl (World.news_of_block (cs := #[.string f, .int .i64 ak, .int .i64 ap, .int .i64 av, .string at', .int .i64 rv, .int .i64 rp, .string rt, .bool rd, .string f', .bool false, .int .i64 0, .bool false, .int .i64 0, .int .i64 0, .slice k2a 0 k2c, .slice v2a 0 v2c, .slice c2a 0 c2c]) (HB9.out.block (i := 0) rfl)) (by simp [Value.oneCell']) (by omega) (by unfold maxLen; omega) (by omega) HB9.out.sz _ rfl ?_
           intro g1 cap1 w10 hown hgrow hat hlt1
           have hm := HB9.out.lies (i := 19) rfl hown hgrow hat
           clear hown hgrow hat
           have uw := hm.cell (i := 13) rfl 12 (.slice ca nc cc) rfl
           have uf := hm.free (i := 13) rfl 12
           have HM10 := hideIt hm
           have H1 := hideIt (hm.store (i := 13) (j := 12) rfl (.slice (some ⟨g1, 0, none⟩) (nc + 1) cap1) rfl)
           clear hm
           refine hK.out _ _ (kpS_of HM10.out 7 rfl rfl rfl rfl rfl) (fun hHeld5 => ?_)
           clear hK K
           try simp only [Act.put, List.setIfInBounds_toArray, List.set_cons_zero, List.set_cons_succ]
           clear hHeld4
           refine wpAnyH_take (i := 18) (oi := ({ dst := some 148, op := Go.Op.nilCheck (Go.Operand.tmp 130), type := 0, pos := "world.go:208", after := #[{ on := 0, ground := Go.Ground.data }, { on := 0, ground := Go.Ground.phase }, { on := 1, ground := Go.Ground.phase }, { on := 2, ground := Go.Ground.phase }, { on := 3, ground := Go.Ground.phase }, { on := 4, ground := Go.Ground.phase }, { on := 5, ground := Go.Ground.phase }, { on := 6, ground := Go.Ground.phase }, { on := 7, ground := Go.Ground.phase }, { on := 8, ground := Go.Ground.phase }, { on := 9, ground := Go.Ground.phase }, { on := 10, ground := Go.Ground.phase }, { on := 11, ground := Go.Ground.phase }, { on := 12, ground := Go.Ground.phase }, { on := 13, ground := Go.Ground.phase }, { on := 14, ground := Go.Ground.phase }, { on := 15, ground := Go.Ground.phase }, { on := 16, ground := Go.Ground.phase }, { on := 17, ground := Go.Ground.phase }], guard := none } : Oper)) (v := ?_) rfl (by kernel_rfl) (by kernel_rfl) (by kernel_rfl) (fun _ _ _ h => h) (Or.inl ⟨by rfl, ?_⟩) (by assumption) ?_
           rotate_left 1
           · (intro w hSw; unfold KpS at hSw; first | (go_simp; done) | (go_simp; with_reducible rfl))
           try simp only [Act.put, List.setIfInBounds_toArray, List.set_cons_zero, List.set_cons_succ]
           refine wpAnyH_take (i := 19) (oi := ({ dst := some 149, op := Go.Op.fieldAddr 58 (Go.Operand.tmp 148) 12, type := 0, pos := "world.go:208", after := #[{ on := 18, ground := Go.Ground.data }, { on := 0, ground := Go.Ground.phase }, { on := 1, ground := Go.Ground.phase }, { on := 2, ground := Go.Ground.phase }, { on := 3, ground := Go.Ground.phase }, { on := 4, ground := Go.Ground.phase }, { on := 5, ground := Go.Ground.phase }, { on := 6, ground := Go.Ground.phase }, { on := 7, ground := Go.Ground.phase }, { on := 8, ground := Go.Ground.phase }, { on := 9, ground := Go.Ground.phase }, { on := 10, ground := Go.Ground.phase }, { on := 11, ground := Go.Ground.phase }, { on := 12, ground := Go.Ground.phase }, { on := 13, ground := Go.Ground.phase }, { on := 14, ground := Go.Ground.phase }, { on := 15, ground := Go.Ground.phase }, { on := 16, ground := Go.Ground.phase }, { on := 17, ground := Go.Ground.phase }], guard := none } : Oper)) (v := ?_) rfl (by kernel_rfl) (by kernel_rfl) (by kernel_rfl) (fun _ _ _ h => h) (Or.inl ⟨by rfl, ?_⟩) (by assumption) ?_
           rotate_left 1
           · (intro w hSw; unfold KpS at hSw; first | (go_simp; done) | (go_simp; with_reducible rfl))
           try simp only [Act.put, List.setIfInBounds_toArray, List.set_cons_zero, List.set_cons_succ]
           refine wpAnyH_ready (rs := [20]) (by kernel_rfl) (by simp) ?_
           refine AllReadyH.cons (o := ({ dst := none, op := Go.Op.store 55 (Go.Operand.tmp 149) (Go.Operand.tmp 147), type := 0, pos := "world.go:208", after := #[{ on := 19, ground := Go.Ground.data }, { on := 17, ground := Go.Ground.data }, { on := 17, ground := Go.Ground.chain }, { on := 0, ground := Go.Ground.phase }, { on := 1, ground := Go.Ground.phase }, { on := 2, ground := Go.Ground.phase }, { on := 3, ground := Go.Ground.phase }, { on := 4, ground := Go.Ground.phase }, { on := 5, ground := Go.Ground.phase }, { on := 6, ground := Go.Ground.phase }, { on := 7, ground := Go.Ground.phase }, { on := 8, ground := Go.Ground.phase }, { on := 9, ground := Go.Ground.phase }, { on := 10, ground := Go.Ground.phase }, { on := 11, ground := Go.Ground.phase }, { on := 12, ground := Go.Ground.phase }, { on := 13, ground := Go.Ground.phase }, { on := 14, ground := Go.Ground.phase }, { on := 15, ground := Go.Ground.phase }, { on := 16, ground := Go.Ground.phase }, { on := 17, ground := Go.Ground.phase }], guard := none } : Oper)) rfl (fun K hK => ?_) AllReadyH.nil
           go_simp
           refine hK.out _ _ (kpS_of H1.out 7 rfl rfl rfl rfl rfl) (fun hHeld6 => ?_)
           clear hK K
           try simp only [Act.put, List.setIfInBounds_toArray, List.set_cons_zero, List.set_cons_succ]
           clear hHeld5
           refine wpAnyH_done (by kernel_rfl) ?_ _
           refine NoPanic.normal ?_
           go_wp2
           go_meet
           case rel => exact ⟨_, _, _, _, (M.kept (R := [_, _, _]) (K := [_, _, _]) (P := [_, _, _, _, _, _, _, _, _, _, _, _]) H1.out).sub (List.sublist_append_right [_, _, _] _)⟩
       case rest =>
         clear hN g11
         obtain ⟨cv2, k2, v2, c2, hN⟩ := hcut
         have d3 := hN.out.cell (i := 3) rfl 3 (.string f) rfl
         have e3 := hN.out.free (i := 3) rfl 3
         have S1 := hideIt (hN.out.store (i := 3) (j := 3) rfl (.string f') rfl)
         clear hN
         go_wp2
         refine bodyPost_end (results_none Tryd.results56 _ _ _) rfl ⟨⟨_, rfl⟩, tm', f', cv2, k2, v2, c2, hf'.out, ?_⟩
         exact ((S1.out.sub (List.sublist_cons_self _ _)).sub (List.sublist_cons_self _ _)).sub (List.sublist_cons_self _ _)
end Go.Proofs.YtajobgmnmbnhiaaDoor.Sap
