/- WHAT IS PROVED HERE: saplingkeep's Standing answers true over any program that keeps an invariant of the world, while the pages are watched, in which the pages are a tree whose leaves are the map. Conditions: named at the theorem; the script has at most 1048576 turns. -/
import Derived.Test.YtajobgmnmbnhiaaDoorPt49
import Derived.Test.YtajobgmnmbnhiaaDoorPt54
namespace Go.Proofs.YtajobgmnmbnhiaaDoor.Sap
open Go.RowKit
structure StdEq (K V : List Int) (T : List Int × List Int) : Prop where
  len : K.length = T.1.length
  two : T.1.length = T.2.length
  vl : V.length = K.length
  val : ∀ (i : Nat) (k : Int), K[i]? = some k → ∀ fd u, ValR T.1 T.2 k fd u → fd = true ∧ V[i]? = some u
def StdOk (x : Wd) : Prop := ∃ (t : Tre) (p0 : Nat) (ps : List Nat), t.Ok ∧ (∀ p, t.inn p → Says x.T x.U p (t.nd p)) ∧ RowF t 0 p0 ps ∧ t.low p0 = 0 ∧ ps.length ≤ 64 ∧ ∀ o', o'.Perm (tkL x.ds) → Srt o' → StdEq (rowK t ps) (rowV t ps) (tabO (ahead o' x.now))
set_option maxRecDepth 100000 in
set_option maxHeartbeats 6400000 in
theorem standing_gen (sv : Value) (ts : List Tn) (Inv0 : Nat → Wd → Prop) (rk0 : Nat → Wd → Nat) (Inv : Nat → Wd → Prop) (rk : Nat → Wd → Nat) (w : World) (htab : Tab w) (hT : TRd w sv ts) (hok : ∀ t ∈ ts, t.ok) (hlen : ts.length ≤ 1048576) (G : Good Inv0 rk0)
    (hMc : ∀ W, Tab W → Mc (Inv W.heap.size) rk W.heap.size W W.heap.size) (hIni : ∀ gw tg tc ug uc vg vc bg bc, Inv gw { Wd.first gw tg tc ug uc vg vc bg bc with wt := true })
    (hOv : ∀ gw x, Inv gw x → x.ov = .slice none 0 0) (hOver : ∀ gw x, Inv gw x → (∀ c, c < 64 → x.bs[c]? = some (-1)) → x.now ≤ 90000000 → ∀ d ∈ x.ds, d.over)
    (hStd : ∀ gw x, Inv gw x → (∀ c, c < 64 → x.bs[c]? = some (-1)) → x.now ≤ 90000000 → StdOk x) :
    Calls Tryd.prog 7 #[sv] w fun e w' => e = .returned (.bool true) ∧ Below w.heap.size w w' := by
  have HT := hideIt hT
  have HOK := hideIt hok
  have HL := hideIt hlen
  have HMCA := hideIt hMc
  have HINI := hideIt hIni
  have HOV := hideIt hOv
  have HOVR := hideIt hOver
  have HSTD := hideIt hStd
  obtain ⟨ao, cap, rfl, -⟩ := hT
  obtain ⟨n, hn⟩ : ∃ n, ts.length = n := ⟨_, rfl⟩
  have HNN := hideIt hn
  rw [hn] at HL HT ⊢
  obtain ⟨Pv, Pb, hpv, hp0⟩ := G.pv w htab
  have CP := hideIt (proved_gen Pv Pb w hpv hp0)
  clear hok hlen G hpv hp0 hMc hIni hOv hOver hStd hn
  go_enter Tryd.func7, Tryd.ntmps7
  go_wp2_with fail
  refine CP.out.mono ?_
  rintro e w1 ⟨rfl, hb1⟩
  have HB1 := hideIt hb1
  have HMC := hideIt (HMCA.out w1 (htab.below hb1))
  have HT1 := hideIt (HT.out.below hb1)
  clear hb1 CP HT
  go_wp2_with fail
  refine (fresh_wd w1).mono ?_
  rintro e w2 ⟨rfl, tg, tc, ug, uc, vg, vc, bg, bc, hM⟩
  obtain ⟨x0, hx0⟩ : ∃ y : Wd, y = { Wd.first w1.heap.size tg tc ug uc vg vc bg bc with wt := true } := ⟨_, rfl⟩
  have S1 : Hid (M w1 w1.heap.size (w2.setCell ⟨w1.heap.size, 9, none⟩ (.bool true)) (x0.as ++ [])) := by
    subst hx0
    exact hM.store (i := 0) (j := 9) rfl (.bool true) rfl
  have HI0 : Hid (Inv w1.heap.size x0) := by unfold Hid; rw [hx0]; exact HINI.out w1.heap.size tg tc ug uc vg vc bg bc
  have HX0 : Hid (x0.now = 0 ∧ x0.ds = []) := by unfold Hid; rw [hx0]; exact ⟨rfl, rfl⟩
  have c9 := hM.cell (i := 0) rfl 9 (.bool false) rfl
  have f9 := hM.free (i := 0) rfl 9
  obtain ⟨gw, hgw⟩ : ∃ g, w1.heap.size = g := ⟨_, rfl⟩
  have HGW := hideIt hgw
  rw [show (Wd.first w1.heap.size tg tc ug uc vg vc bg bc).gw = w1.heap.size from rfl] at c9 f9
  rw [hgw] at S1 HI0 HMC c9 f9 ⊢
  clear hM hx0 hgw
  go_wp2
  go_loopw [5] (fun y wr => ∃ (j : Nat) (x : Wd), y = .int .i64 j ∧ j ≤ n ∧ Hid (x.now ≤ 40 * (j : Int)) ∧ Hid (x.ds.length ≤ j) ∧ Hid (Inv gw x) ∧ Hid (M w1 gw wr (x.as ++ []))) (fun i _ => n - (intOf i).toNat)
  case atStart => exact ⟨0, x0, rfl, by omega, by unfold Hid; rw [HX0.out.1]; decide, by unfold Hid; rw [HX0.out.2]; exact Nat.le_refl _, HI0.out, S1.out⟩
  case round =>
    clear S1 HI0 HX0 c9 f9
    obtain ⟨j, x, rfl, hj, hnw, hnd, hI, hM⟩ := hrel
    have hg : Hid (x.gw = gw) := HMC.out.pg x hI.out
    have g14 := hM.out.cell (i := 0) rfl 14 (.bool false) rfl
    rw [hg.out] at g14
    by_cases hlt : j < n
    · have hj1 : (j : Int) < (n : Int) := by omega
      have hj0 : (0 : Int) ≤ (j : Int) := by omega
      have hl6 := HL.out
      obtain ⟨ao2, cap2, e2, hT2⟩ := HT1.out
      obtain ⟨b, off, e3, hT3⟩ := hT2 (by rw [HNN.out]; omega)
      obtain ⟨t, ht⟩ : ∃ t, ts[j]? = some t := ⟨_, List.getElem?_eq_getElem (by rw [HNN.out]; exact hlt)⟩
      rw [HNN.out] at e2
      cases e2
      subst e3
      have hb2 : Below w1.heap.size w1 wr := by have := hM.out.bl; rw [← HGW.out] at this; exact this
      obtain ⟨c0, c1, c2, c3, c4⟩ := hT3 j t ht
      have c0 := cell_below hb2 _ _ c0
      have c1 := cell_below hb2 _ _ c1
      have c2 := cell_below hb2 _ _ c2
      have c3 := cell_below hb2 _ _ c3
      have c4 := cell_below hb2 _ _ c4
      have hok := HOK.out t (List.mem_of_getElem? ht)
      have CM := hideIt (HMC.out.turn x t.cl t.k t.key t.v t.mv wr [] hok.cl hok.k hok.key hok.v hok.mv hI.out (by have := hnw.out; have := HL.out; omega) (by have := hnd.out; have := HL.out; omega) hM.out)
      clear hM hI hb2 hT3 hT2 ht hok
      go_wp2_with fail
      refine CM.out.mono ?_
      rintro e w4 ⟨⟨u, rfl⟩, x', hI', hn', hd', hM'⟩
      have HI2 := hideIt hI'
      have HM2 := hideIt hM'
      have HN2 : Hid (x'.now ≤ 40 * ((j + 1 : Nat) : Int)) := by unfold Hid; have := hnw.out; omega
      have HD2 : Hid (x'.ds.length ≤ j + 1) := by unfold Hid; have := hnd.out; omega
      clear CM g14 hI' hM' hn' hd' hg c0 c1 c2 c3 c4
      go_wp2
      go_roundw
      case rel => exact ⟨j + 1, x', by go_num, by omega, HN2.out, HD2.out, HI2.out, HM2.out⟩
      case measure => simp [intOf]; omega
    · obtain rfl : j = n := by omega
      have CS := hideIt (HMC.out.settle x wr [] hI.out (by have := HL.out; have := hnw.out; omega) hM.out)
      clear hM hI
      go_wp2_with fail
      refine CS.out.mono ?_
      rintro e w3 ⟨⟨u, rfl⟩, x3, hI3, hid3, hn3, hd3, hM3⟩
      have hg3 : Hid (x3.gw = gw) := HMC.out.pg x3 hI3
      have hnow3 : x3.now ≤ 90000000 := by have := HL.out; have := hnw.out; omega
      obtain ⟨t, p0, ps, ht, hsay, hR, hl0, hl64, heq⟩ := HSTD.out _ x3 hI3 hid3 hnow3
      have HV3 := hideIt (HOVR.out _ x3 hI3 hid3 hnow3)
      have HOv := hideIt (HOV.out _ x3 hI3)
      have HN6 : Hid (x3.ds.length ≤ 1048576) := by unfold Hid; have := HL.out; have := hnd.out; omega
      have HEQ := hideIt heq
      have CR := hideIt (row_yes x3.gw _ _ _ _ p0 x3.T x3.U t ps w3 hM3.pages ht hsay hR hl0 hl64)
      rw [hg3.out] at CR
      have HKL := hideIt (rowK_len ht fun q hq => (hR.inn q hq).1)
      obtain ⟨K, hK⟩ : ∃ y, rowK t ps = y := ⟨_, rfl⟩
      obtain ⟨V, hV⟩ : ∃ y, rowV t ps = y := ⟨_, rfl⟩
      rw [hK, hV] at CR HEQ HKL
      have hk400 : K.length ≤ 384 := by have := HKL.out.1; omega
      have HM3 := hideIt hM3
      clear CS hI3 hid3 hM3 ht hsay hR heq hK hV hn3 hd3 hnow3 g14 hg
      go_wp2_with fail
      refine CR.out.mono ?_
      rintro e w4 ⟨gt, kv, vv, rfl, hM4⟩
      have hJ := (HM3.out.join hM4).perm (l' := x3.as ++ [As.blk gt #[kv, vv] 67, As.row 3 1 kv K.length (ints K), As.row 3 1 vv K.length (ints V)]) (by rw [List.append_nil]; exact List.perm_append_comm (l₁ := x3.as) (l₂ := [As.blk gt #[kv, vv] 67, As.row 3 1 kv K.length (ints K), As.row 3 1 vv K.length (ints V)]))
      have A4 : Hid (M w1 gw w4 (x3.as ++ (.row 111 4 x3.ov ([] : List Dn).length (dnc []) :: [As.blk gt #[kv, vv] 67, As.row 3 1 kv K.length (ints K), As.row 3 1 vv K.length (ints V)]))) := by
        unfold Hid
        rw [HOv.out]
        exact M.nil2 (l1 := x3.as) hJ
      have g14 := hJ.cell (i := 0) rfl 14 (.bool false) rfl
      have g10 := hJ.cell (i := 0) rfl 10 (.bool false) rfl
      have g5 := hJ.cell (i := 0) rfl 5 (.int .i64 x3.now) rfl
      rw [hg3.out] at g14 g10 g5
      have CA := hideIt (at_any x3 [] x3.now [As.blk gt #[kv, vv] 67, As.row 3 1 kv K.length (ints K), As.row 3 1 vv K.length (ints V)] w1 w4 gw HV3.out (by have := HN6.out; omega) (Or.inl ⟨HOv.out, rfl⟩) A4.out)
      rw [hg3.out] at CA
      obtain ⟨nw, hnw3⟩ : ∃ y, x3.now = y := ⟨_, rfl⟩
      rw [hnw3] at CA g5 HEQ
      clear CR hM4 hJ A4 HM3 hnw3
      go_wp2_with fail
      refine CA.out.mono ?_
      rintro e w5 ⟨gm, rfl, ov', o', hp, hs, km, vm, hM5⟩
      have HE := hideIt (HEQ.out o' hp hs)
      obtain ⟨T2, hT2⟩ : ∃ y, tabO (ahead o' nw) = y := ⟨_, rfl⟩
      rw [hT2] at HE hM5
      have HM6 := hideIt (hM5.sub (l' := [.blk gm #[km, vm] 67, .row 3 1 km T2.1.length (ints T2.1), .row 3 1 vm T2.1.length (ints T2.2), .blk gt #[kv, vv] 67, .row 3 1 kv K.length (ints K), .row 3 1 vv K.length (ints V)]) (List.Sublist.cons_cons _ (List.Sublist.cons_cons _ (List.Sublist.cons_cons _ ((List.sublist_cons_self _ _).trans (List.sublist_append_right _ _))))))
      obtain ⟨ka, kc, rfl⟩ := As.form0 (HM6.out.get (i := 4) rfl)
      obtain ⟨ma, mc, rfl⟩ := As.form0 (HM6.out.get (i := 1) rfl)
      have hlb : ((K.length : Int) != (T2.1.length : Int)) = false := by rw [HE.out.len]; simp
      have hlb2 : (K.length != T2.1.length) = false := by rw [HE.out.len]; simp
      have q0 := HM6.out.cell (i := 3) rfl 0 (.slice ka K.length kc) rfl
      have q1 := HM6.out.cell (i := 0) rfl 0 (.slice ma T2.1.length mc) rfl
      have hgtl : gt < w5.heap.size := lt_of_cell q0
      have hgml : gm < w5.heap.size := lt_of_cell q1
      clear CA hM5 hp hs hT2 g14 g10 g5 HEQ
      go_wp2
      go_quiet (fail)
      have HM7 := hideIt (HM6.out.drewN nq)
      obtain ⟨w6, hw6⟩ : ∃ W, w5.drewN nq = W := ⟨_, rfl⟩
      rw [hw6] at HM7 ⊢
      clear hw6 HM6 q0 q1 hgtl hgml
      go_wp2
      go_loopw [9] (fun y wr => ∃ i : Nat, y = .int .i64 i ∧ i ≤ K.length ∧ Hid (M w1 gw wr [.blk gm #[.slice ma T2.1.length mc, vm] 67, .row 3 1 (.slice ma T2.1.length mc) T2.1.length (ints T2.1), .row 3 1 vm T2.1.length (ints T2.2), .blk gt #[.slice ka K.length kc, vv] 67, .row 3 1 (.slice ka K.length kc) K.length (ints K), .row 3 1 vv K.length (ints V)])) (fun y _ => K.length - (intOf y).toNat)
      case atStart => exact ⟨0, rfl, by omega, HM7.out⟩
      case round =>
        clear HM7
        obtain ⟨i, rfl, hi, hM8⟩ := hrel
        have hi0 : (0 : Int) ≤ (i : Int) := by omega
        have q0 := hM8.out.cell (i := 3) rfl 0 (.slice ka K.length kc) rfl
        have hgtl : gt < wr.heap.size := lt_of_cell q0
        by_cases hlt2 : i < K.length
        · have hi1 : (i : Int) < (K.length : Int) := by omega
          obtain ⟨k, hk⟩ : ∃ k, K[i]? = some k := ⟨_, List.getElem?_eq_getElem hlt2⟩
          obtain ⟨kg, kc', hka⟩ := As.form (hM8.out.get (i := 4) rfl) (by omega)
          cases hka
          have yk := hM8.out.rowCell (i := 4) rfl i (.int .i64 k) (ints_get hk)
          have hkgl : kg < wr.heap.size := lt_of_cell yk
          have rK : Rd wr (.slice ma T2.1.length mc) T2.1 := owns_rd (hM8.out.get (i := 1) rfl).own
          have rV : Rd wr vm T2.2 := by have := owns_rd (h := by rw [← HE.out.two]; exact (hM8.out.get (i := 2) rfl).own); exact this
          have CV := hideIt (value_any gm _ vm T2.1 T2.2 k wr (hM8.out.cell (i := 0) rfl 0 _ rfl) (hM8.out.cell (i := 0) rfl 1 _ rfl) rK rV (by have := HE.out.len; omega) HE.out.two)
          have HVK : Hid (∀ fd u, ValR T2.1 T2.2 k fd u → fd = true ∧ V[i]? = some u) := HE.out.val i k hk
          clear rK rV hk
          go_wp2_with fail
          refine CV.out.mono ?_
          rintro e w7 ⟨fd, u, rfl, hV, hb7⟩
          obtain ⟨hfd, hvi⟩ := HVK.out fd u hV
          subst hfd
          have HM9 := hideIt (hM8.out.below hb7)
          have hvl : 0 < V.length := by have := (List.getElem?_eq_some_iff.1 hvi).1; omega
          obtain ⟨vg2, vc2, hvv⟩ := As.form (HM9.out.get (i := 5) rfl) (by omega)
          subst hvv
          have q1 := HM9.out.cell (i := 3) rfl 1 (.slice (some ⟨vg2, 0, none⟩) K.length vc2) rfl
          have yv := HM9.out.rowCell (i := 5) rfl i (.int .i64 u) (ints_get hvi)
          have hgt2 : gt < w7.heap.size := lt_of_cell q1
          have hvg2 : vg2 < w7.heap.size := lt_of_cell yv
          have huu : (u != u) = false := by simp
          clear CV hV hb7 hvi hM8 q0 yk hkgl hgtl HVK
          go_wp2
          go_roundw
          case rel => exact ⟨i + 1, by go_num, by omega, HM9.out⟩
          case measure => simp [intOf]; omega
        · obtain rfl : i = K.length := by omega
          have HB9 := hideIt (step HB1.out (by have := hM8.out.bl; rw [← HGW.out] at this; exact this))
          clear hM8
          go_wp2
          go_ret
          exact ⟨rfl, HB9.out⟩
theorem standsOk : StandsOk := fun gw tg tc ug uc T U t W ht _ hU hs hu hP => stands_yes gw tg tc ug uc T U t W ht hU hs hu hP
theorem Inv.std {wt : Bool} {gw : Nat} {x : Wd} {t : Tre} {S : Nat → St} {o : List Dn} (h : Inv wt gw x t S o) (hid : ∀ c, c < 64 → x.bs[c]? = some (-1)) : StdOk x := by
  obtain ⟨p0, ps, hl0, hL⟩ := leaf_first h.tok
  have R := hL.row
  rw [hl0] at R
  refine ⟨t, p0, ps, h.tok, h.say, R, hL.low, hL.len, fun o' hp hs => ?_⟩
  rw [h.uniq hid hp hs, ahead_all o x.now h.ot]
  obtain ⟨r1, r2, r3⟩ := leaf_row h.tok h.lf h.okeys R fun q hq hl => hL.all q hq (by rw [hl, hl0])
  obtain ⟨a1, a2, a3⟩ := tabO_look o h.ok
  have hnz : (((tabO o).1.zip (tabO o).2).map Prod.fst).Nodup := by rw [fst_zip a2]; exact a1
  have hkn : (rowK t ps).Nodup := r2.imp fun h e => by omega
  refine ⟨perm_len hkn a1 fun q => ?_, a2, r1.symm, fun i k hk fd u hv => ?_⟩
  · constructor
    · intro hq
      rw [← fst_zip r1] at hq
      obtain ⟨y, hy, rfl⟩ := List.mem_map.1 hq
      have := (r3 y.1 y.2).1 hy
      rw [← a3] at this
      exact (List.of_mem_zip (mem_look this)).1
    · intro hq
      rw [← fst_zip a2] at hq
      obtain ⟨y, hy, rfl⟩ := List.mem_map.1 hq
      have := look_mem hnz hy
      rw [a3] at this
      exact (List.of_mem_zip ((r3 y.1 y.2).2 this)).1
  · have hil := (List.getElem?_eq_some_iff.1 hk).1
    have hiv : i < (rowV t ps).length := by omega
    have hm : (k, (rowV t ps)[i]) ∈ (rowK t ps).zip (rowV t ps) := List.mem_iff_getElem?.2 ⟨i, by rw [List.getElem?_zip_eq_some]; exact ⟨hk, List.getElem?_eq_getElem hiv⟩⟩
    have h1 := (r3 _ _).1 hm
    have h2 := valR_look a1 a2 hv
    rw [a3, h1] at h2
    exact ⟨h2.1, by rw [List.getElem?_eq_getElem hiv, h2.2]; rfl⟩
theorem inv_watch (gw tg tc ug uc vg vc bg bc : Nat) : InvG true gw { Wd.first gw tg tc ug uc vg vc bg bc with wt := true } := by
  have h := inv_first gw tg tc ug uc vg vc bg bc
  have F := FulX.first gw tg tc ug uc vg vc bg bc (fun _ => bgS 1 1 0)
  refine ⟨⟨Tre.one, fun _ => bgS 1 1 0, [], ⟨h.pg, h.kp, rfl, h.ov, h.tl, h.ul, h.vl, h.tok, h.lf, h.say, h.us, h.vb, h.now, h.puts, h.bsl, h.bs, h.inj, h.ds, h.apart, h.own, h.os, h.op, h.ot, h.ok⟩, Xtr.first _ _, ⟨F.pot, F.use, F.sp2, F.er, F.puts⟩⟩, ?_⟩
  show (0 : Nat) ≤ _; omega
theorem standing_any (sv : Value) (ts : List Tn) (w : World) (htab : Tab w) (hT : TRd w sv ts) (hok : ∀ t ∈ ts, t.ok) (hlen : ts.length ≤ 1048576) :
    Calls Tryd.prog 7 #[sv] w fun e w' => e = .returned (.bool true) ∧ Below w.heap.size w w' := by
  obtain ⟨rk0, G⟩ := good_ex
  obtain ⟨rk, hrk⟩ := mc_ex
  exact standing_gen sv ts (InvG false) rk0 (InvG true) rk w htab hT hok hlen G (fun W ht => hrk true (fun _ => standsOk) W ht) inv_watch (fun gw x ⟨⟨_, _, _, h, _⟩, _⟩ => h.ov) (fun gw x ⟨⟨_, _, _, h, _⟩, _⟩ hid hn => h.over hid hn) fun gw x ⟨⟨_, _, _, h, _⟩, _⟩ hid _ => h.std hid
end Go.Proofs.YtajobgmnmbnhiaaDoor.Sap
