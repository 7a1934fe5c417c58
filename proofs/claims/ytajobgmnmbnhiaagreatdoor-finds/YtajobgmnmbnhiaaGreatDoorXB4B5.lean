/- WHAT IS PROVED HERE: saplingkeep's move: one access of an operation that reads a page, where Tell goes on. Conditions: the frame is one of a state that an operation may be in; its page is there. -/
import Derived.Test.YtajobgmnmbnhiaaGreatDoorXB3S3
import Derived.Test.YtajobgmnmbnhiaaGreatDoorXT8L1
namespace Go.Proofs.YtajobgmnmbnhiaaGreatDoor.Sap
open Go.RowKit

set_option maxRecDepth 100000 in
set_option maxHeartbeats 6400000 in
theorem move_on (gd kg kc nt gw tg tc ug uc vg vc dg dc bg bc nd i pg : Nat) (cv ov : Value) (now puts : Int) (k key v : Int) (f t : ByteArray) (kns ds bs vers : List Value) (ts : List Int) (T : List ByteArray) (U : List Bool) (ver : Int) (tm : Value) (s : St) (s' : St) (fr : List As) (w0 w : World) (B : Nat) (htab : Tab w0) (hB : B = w0.heap.size)
    (hf : f.data.toList = frT s) (hs : StOk s ∧ s.sw = ⟨#[]⟩) (hpg : s.pg = (pg : Int)) (hp : pg < 64) (hU : U[pg]? = some true) (hT : T[pg]? = some t) (hV : vers[pg]? = some (.int .i64 ver)) (hD : ds[i]? = some (.pointer (some ⟨gd, 0, none⟩))) (_hnd : nd ≤ 1000) (hdl : ds.length = nd) (hnt : nt ≤ 100000) (hnw : 0 ≤ now ∧ now ≤ 1000000)
    (hTell : ∀ W, Tab W → Calls Tryz.prog 47 #[.string f, .agg #[.int .i64 ver, .int .i64 0, .string t, .bool false]] W fun e w' => TellR (.on s') W w' e)
    (h : M w0 B w (.blk gd (DC k key v f tm (.slice (some ⟨kg, 0, none⟩) 64 kc) false false 0 false 0 0 (.slice none 0 0) (.slice none 0 0) (.slice none 0 0)) 48 :: .row 3 1 (.slice (some ⟨kg, 0, none⟩) 64 kc) 64 kns :: .row 3 1 tm nt (ints ts) :: .blk gw (WC (.slice (some ⟨tg, 0, none⟩) 64 tc) (.slice (some ⟨ug, 0, none⟩) 64 uc) (.slice (some ⟨vg, 0, none⟩) 64 vc) (.slice (some ⟨dg, 0, none⟩) nd dc) (.slice (some ⟨bg, 0, none⟩) 64 bc) now puts false false false false false cv ov false) 34 :: .row 3 1 (.slice (some ⟨bg, 0, none⟩) 64 bc) 64 (.int .i64 (i : Int) :: bs) :: .row 40 1 (.slice (some ⟨dg, 0, none⟩) nd dc) nd ds :: .row 9 1 (.slice (some ⟨tg, 0, none⟩) 64 tc) 64 (strs T) :: .row 4 1 (.slice (some ⟨ug, 0, none⟩) 64 uc) 64 (bools U) :: .row 3 1 (.slice (some ⟨vg, 0, none⟩) 64 vc) 64 vers :: fr)) :
    Calls Tryz.prog 28 #[.pointer (some ⟨gw, 0, none⟩), .int .i64 0] w fun e w' => (∃ u, e = .returned u) ∧ ∃ tm' kns',
      ∃ f', f'.data.toList = frT s' ∧ M w0 B w' (.blk gd (DC k key v f' tm' (.slice (some ⟨kg, 0, none⟩) 64 kc) false false 0 false 0 0 (.slice none 0 0) (.slice none 0 0) (.slice none 0 0)) 48 :: .row 3 1 (.slice (some ⟨kg, 0, none⟩) 64 kc) 64 kns' :: .row 3 1 tm' (nt + 1) (ints (ts ++ [now])) :: .blk gw (WC (.slice (some ⟨tg, 0, none⟩) 64 tc) (.slice (some ⟨ug, 0, none⟩) 64 uc) (.slice (some ⟨vg, 0, none⟩) 64 vc) (.slice (some ⟨dg, 0, none⟩) nd dc) (.slice (some ⟨bg, 0, none⟩) 64 bc) (now + 1) puts false false false false false cv ov false) 34 :: .row 3 1 (.slice (some ⟨bg, 0, none⟩) 64 bc) 64 (.int .i64 (i : Int) :: bs) :: .row 40 1 (.slice (some ⟨dg, 0, none⟩) nd dc) nd ds :: .row 9 1 (.slice (some ⟨tg, 0, none⟩) 64 tc) 64 (strs T) :: .row 4 1 (.slice (some ⟨ug, 0, none⟩) 64 uc) 64 (bools U) :: .row 3 1 (.slice (some ⟨vg, 0, none⟩) 64 vc) 64 vers :: fr) := by
  obtain ⟨i0, hi0, hz0, hz1, hz2⟩ := info_parts infoInt
  obtain ⟨ta, tcp, rfl⟩ := As.form0 (h.get (i := 2) rfl)
  obtain ⟨hn0, hn1⟩ := hnw
  have hi1 : i < nd := by rw [← hdl]; exact (List.getElem?_eq_some_iff.1 hD).1
  have hii : (i : Int) < (nd : Int) := by omega
  have hi2 : (0 : Int) ≤ (i : Int) := by omega
  have q3 := h.cell (i := 3) rfl 3 (.slice (some ⟨dg, 0, none⟩) nd dc) rfl
  have q4 := h.cell (i := 3) rfl 4 (.slice (some ⟨bg, 0, none⟩) 64 bc) rfl
  have b0 := h.rowCell (i := 4) rfl 0 (.int .i64 i) rfl
  have d0 := h.rowCell (i := 5) rfl i _ hD
  have d3 := h.cell (i := 0) rfl 3 (.string f) rfl
  have HM := hideIt h
  have HT : Hid (∀ W l, M w0 B W l → Tab W) := fun W l hm => htab.below (hB ▸ hm.bl)
  have CN := hideIt (fun W => next_read s f W hf hs.1 hs.2)
  rw [hpg] at CN
  have HU : Hid ((bools U)[pg]? = some (.bool true)) := by unfold Hid bools; rw [List.getElem?_map, hU]; rfl
  have HTX : Hid ((strs T)[pg]? = some (.string t)) := by unfold Hid strs; rw [List.getElem?_map, hT]; rfl
  have HV := hideIt hV
  have HTL := hideIt hTell
  clear h htab hB hf hs hpg hU hT hV hD hdl hTell
  go_enter Tryz.func28, Tryz.ntmps28
  go_wp2
  go_quiet (fail)
  go_wp2_with fail
  refine (CN.out _).mono ?_
  rintro e w1 ⟨rfl, hb⟩
  have A1 := hideIt ((HM.out.drewN _).below hb)
  clear hb HM CN q3 q4 b0 d0 d3
  have A2 := hideIt (A1.out.alloc #[.int .i64 1, .int .i64 pg, .int .i64 0, .string ⟨#[]⟩] 94)
  obtain ⟨ga, hga⟩ : ∃ g, w1.heap.size = g := ⟨_, rfl⟩
  rw [hga] at A2
  go_wp2_with fail

  refine (legal_read gw ug uc pg _ _ (A2.out.cell (i := 4) rfl 1 _ rfl) (A2.out.rowCell (i := 8) rfl pg _ HU.out) hp).mono ?_
  rintro e w2 ⟨rfl, hb⟩
  have A3 := hideIt (A2.out.below hb)
  clear hb A2 A1 hga
  have a0 := A3.out.cell (i := 0) rfl 0 (.int .i64 1) rfl
  have a1 := A3.out.cell (i := 0) rfl 1 (.int .i64 pg) rfl
  have a2 := A3.out.cell (i := 0) rfl 2 (.int .i64 0) rfl
  have a3 := A3.out.cell (i := 0) rfl 3 (.string ⟨#[]⟩) rfl
  go_wp2_with fail
  refine (act_read gw ug uc tg tc vg vc pg t ver _ (A3.out.cell (i := 4) rfl 1 _ rfl) (A3.out.rowCell (i := 8) rfl pg _ HU.out) hp (A3.out.cell (i := 4) rfl 0 _ rfl) (A3.out.rowCell (i := 7) rfl pg _ HTX.out) (A3.out.cell (i := 4) rfl 2 _ rfl) (A3.out.rowCell (i := 9) rfl pg _ HV.out)).mono ?_
  rintro e w3 ⟨rfl, hb⟩
  have A4 := hideIt (A3.out.below hb)
  clear hb A3 a0 a1 a2 a3
  have a0 := A4.out.cell (i := 0) rfl 0 (.int .i64 1) rfl
  have a1 := A4.out.cell (i := 0) rfl 1 (.int .i64 pg) rfl
  have a2 := A4.out.cell (i := 0) rfl 2 (.int .i64 0) rfl
  have a3 := A4.out.cell (i := 0) rfl 3 (.string ⟨#[]⟩) rfl
  have hlg := A4.out.lt (i := 0) rfl
  have A5 := hideIt (A4.out.alloc #[.int .i64 ver, .int .i64 0, .string t, .bool false] 99)
  go_wp2_with fail
  obtain ⟨gr, hgr⟩ : ∃ g, w3.heap.size = g := ⟨_, rfl⟩
  rw [hgr] at A5 ⊢
  refine (learns_read gd kg kc pg t ver w0 _ B 2 3 _ _ kns A5.out rfl rfl rfl hp).mono ?_
  rintro e w4 ⟨⟨u, rfl⟩, hM4⟩
  have A6 := hideIt hM4
  clear hM4 A5 A4 a0 a1 a2 a3 hgr hlg

  have g9 := A6.out.cell (i := 5) rfl 9 (.bool false) rfl
  have g7 := A6.out.cell (i := 5) rfl 7 (.bool false) rfl
  have g5 := A6.out.cell (i := 5) rfl 5 (.int .i64 now) rfl
  have d6 := A6.out.cell (i := 2) rfl 6 (.bool false) rfl
  have d4 := A6.out.cell (i := 2) rfl 4 (.slice ta nt tcp) rfl
  have e7 := A6.out.free (i := 5) rfl 7
  have hgg := A6.out.bne (i := 2) (j := 5) rfl rfl (by omega)
  have hgg' : gw ≠ gd := fun e => hgg e.symm
  have A7 := hideIt (A6.out.store (i := 5) (j := 7) rfl (.bool false) rfl)
  have hlw := A6.out.lt (i := 5) rfl
  have hld := A6.out.lt (i := 2) rfl
  obtain ⟨kns', hkn⟩ : ∃ x, kns.set pg (.int .i64 ver) = x := ⟨_, rfl⟩
  rw [hkn] at A6 A7
  clear hkn
  go_upto_region 13 with fail
  go_cut [] (fun wy => ∃ tm', Hid (M w0 B wy (.blk gr #[.int .i64 ver, .int .i64 0, .string t, .bool false] 99 :: .blk ga #[.int .i64 1, .int .i64 pg, .int .i64 0, .string ⟨#[]⟩] 94 :: .blk gd (DC k key v f tm' (.slice (some ⟨kg, 0, none⟩) 64 kc) false false 0 false 0 0 (.slice none 0 0) (.slice none 0 0) (.slice none 0 0)) 48 :: .row 3 1 (.slice (some ⟨kg, 0, none⟩) 64 kc) 64 kns' :: .row 3 1 tm' (nt + 1) (ints (ts ++ [now])) :: .blk gw (WC (.slice (some ⟨tg, 0, none⟩) 64 tc) (.slice (some ⟨ug, 0, none⟩) 64 uc) (.slice (some ⟨vg, 0, none⟩) 64 vc) (.slice (some ⟨dg, 0, none⟩) nd dc) (.slice (some ⟨bg, 0, none⟩) 64 bc) now puts false false false false false cv ov false) 34 :: .row 3 1 (.slice (some ⟨bg, 0, none⟩) 64 bc) 64 (.int .i64 (i : Int) :: bs) :: .row 40 1 (.slice (some ⟨dg, 0, none⟩) nd dc) nd ds :: .row 9 1 (.slice (some ⟨tg, 0, none⟩) 64 tc) 64 (strs T) :: .row 4 1 (.slice (some ⟨ug, 0, none⟩) 64 uc) 64 (bools U) :: .row 3 1 (.slice (some ⟨vg, 0, none⟩) 64 vc) 64 vers :: fr)))
  case first =>
    go_region_law (refine step_append_lies _ rfl _ _ 22 rfl B 3 i0 (.int .i64 0) 1 8 Tryz.underlying22 hi0 hz0 hz1 hz2 rfl (by decide) _ nt (ints ts) rfl (World.ownsRow.alloc (A7.out.get (i := 4) rfl) _) ⟨_, 0, none⟩ 1 1 [.int .i64 now] rfl rfl (by have := news_one (w4.setCell ⟨gw, 7, none⟩ (.bool false)) (.int .i64 now) 3; simpa using this) (by simp [Value.oneCell']) (by omega) (by unfold maxLen; omega) (by omega) (by have := A7.out.sz; simp at this ⊢; omega) _ rfl ?_; intro g1 cap1 w5 hown hgrow hat hlt1; rw [← ints_snoc] at hown; have hm := (A7.out.allocd _).drew.lies (i := 4) rfl hown hgrow hat; clear g9 g7 g5 d6 d4 e7 hown hgrow hat; have d4 := hm.cell (i := 2) rfl 4 (.slice ta nt tcp) rfl; have f4 := hm.free (i := 2) rfl 4; have H1 := hideIt (hm.store (i := 2) (j := 4) rfl (.slice (some ⟨g1, 0, none⟩) (nt + 1) cap1) rfl); clear hm)
    all_goals
      go_wp2
      go_meet
      case rel => exact ⟨_, H1.out⟩
  case rest =>
    obtain ⟨tm', hM8⟩ := hcut
    clear A6 A7 g9 g7 g5 d6 d4 e7 hlw hld
    have g5 := hM8.out.cell (i := 5) rfl 5 (.int .i64 now) rfl
    have e5 := hM8.out.free (i := 5) rfl 5
    have d3 := hM8.out.cell (i := 2) rfl 3 (.string f) rfl
    have r0 := hM8.out.cell (i := 0) rfl 0 (.int .i64 ver) rfl
    have r1 := hM8.out.cell (i := 0) rfl 1 (.int .i64 0) rfl
    have r2 := hM8.out.cell (i := 0) rfl 2 (.string t) rfl
    have r3 := hM8.out.cell (i := 0) rfl 3 (.bool false) rfl
    have hgr1 := hM8.out.bne (i := 0) (j := 5) rfl rfl (by omega)
    have hgr2 : gw ≠ gr := fun e => hgr1 e.symm
    have A9 := hideIt (hM8.out.store (i := 5) (j := 5) rfl (.int .i64 (now + 1)) rfl)
    have A10 := A9.out.alloc #[.int .i64 0, .bool false, .int .i64 0, .int .i64 0, .slice none 0 0, .slice none 0 0, .slice none 0 0] 46
    rw [show (wc.setCell ⟨gw, 5, none⟩ (.int .i64 (now + 1))).heap.size = wc.heap.size by simp [World.setCell]] at A10
    replace A10 := hideIt A10
    have hgrl := hM8.out.lt (i := 0) rfl
    have hgdl := hM8.out.lt (i := 2) rfl
    have hnw1 : gd ≠ wc.heap.size := by omega
    have hnw2 : gr ≠ wc.heap.size := by omega
    have hnw3 : wc.heap.size ≠ gd := by omega
    have hnw4 : wc.heap.size ≠ gr := by omega
    go_upto_region 15 with fail
    go_cut [9, 10, 11, 12] (fun a b c d wy => ∃ gx : Nat, b = .pointer (some ⟨gx, 0, none⟩) ∧ d = .int .i64 0 ∧ (∃ f' : ByteArray, a = .string f' ∧ c = .bool false ∧ Hid (f'.data.toList = frT s') ∧ Hid (M w0 B wy (.blk gx ans0 46 :: .blk gr #[.int .i64 ver, .int .i64 0, .string t, .bool false] 99 :: .blk ga #[.int .i64 1, .int .i64 pg, .int .i64 0, .string ⟨#[]⟩] 94 :: .blk gd (DC k key v f tm' (.slice (some ⟨kg, 0, none⟩) 64 kc) false false 0 false 0 0 (.slice none 0 0) (.slice none 0 0) (.slice none 0 0)) 48 :: .row 3 1 (.slice (some ⟨kg, 0, none⟩) 64 kc) 64 kns' :: .row 3 1 tm' (nt + 1) (ints (ts ++ [now])) :: .blk gw (WC (.slice (some ⟨tg, 0, none⟩) 64 tc) (.slice (some ⟨ug, 0, none⟩) 64 uc) (.slice (some ⟨vg, 0, none⟩) 64 vc) (.slice (some ⟨dg, 0, none⟩) nd dc) (.slice (some ⟨bg, 0, none⟩) 64 bc) (now + 1) puts false false false false false cv ov false) 34 :: .row 3 1 (.slice (some ⟨bg, 0, none⟩) 64 bc) 64 (.int .i64 (i : Int) :: bs) :: .row 40 1 (.slice (some ⟨dg, 0, none⟩) nd dc) nd ds :: .row 9 1 (.slice (some ⟨tg, 0, none⟩) 64 tc) 64 (strs T) :: .row 4 1 (.slice (some ⟨ug, 0, none⟩) 64 uc) 64 (bools U) :: .row 3 1 (.slice (some ⟨vg, 0, none⟩) 64 vc) 64 vers :: fr))))
    case first =>
      go_region_held3 (fun W => W.cell? ⟨gd, 3, none⟩ = some (.string f) ∧ W.cell? ⟨gr, 0, none⟩ = some (.int .i64 ver) ∧ W.cell? ⟨gr, 1, none⟩ = some (.int .i64 0) ∧ W.cell? ⟨gr, 2, none⟩ = some (.string t) ∧ W.cell? ⟨gr, 3, none⟩ = some (.bool false)) (go_keep) (first
        | (go_at_call 47; refine (HTL.out _ (HT.out _ _ A9.out.drew)).mono ?_; rintro e w9 ⟨c9, rfl, hc9, hb9⟩; have hm9 := A9.out.drew.below hb9; have z3 := hm9.cell (i := 2) rfl 3 (.string f) rfl; have zr0 := hm9.cell (i := 0) rfl 0 (.int .i64 ver) rfl; have zr1 := hm9.cell (i := 0) rfl 1 (.int .i64 0) rfl; have zr2 := hm9.cell (i := 0) rfl 2 (.string t) rfl; have zr3 := hm9.cell (i := 0) rfl 3 (.bool false) rfl; have zl1 := hm9.lt (i := 2) rfl; have zl2 := hm9.lt (i := 0) rfl; have HA : Hid True := trivial; have H9 := hideIt (hm9.alloc ans0 46); have HC9 := hideIt hc9; clear hb9 hc9 hm9)
        | (go_at_call 47; refine (HTL.out _ (HT.out _ _ A10.out.drew)).mono ?_; rintro e w9 ⟨c9, rfl, hc9, hb9⟩; have hm9 := A10.out.drew.below hb9; have z3 := hm9.cell (i := 3) rfl 3 (.string f) rfl; have zr0 := hm9.cell (i := 1) rfl 0 (.int .i64 ver) rfl; have zr1 := hm9.cell (i := 1) rfl 1 (.int .i64 0) rfl; have zr2 := hm9.cell (i := 1) rfl 2 (.string t) rfl; have zr3 := hm9.cell (i := 1) rfl 3 (.bool false) rfl; have zl1 := hm9.lt (i := 3) rfl; have zl2 := hm9.lt (i := 1) rfl; have HB : Hid True := trivial; have x0 := hm9.cell (i := 0) rfl 0 (.int .i64 0) rfl; have y0 := hm9.free (i := 0) rfl 0; have x1 := hm9.cell (i := 0) rfl 1 (.bool false) rfl; have y1 := hm9.free (i := 0) rfl 1; have x2 := hm9.cell (i := 0) rfl 2 (.int .i64 0) rfl; have y2 := hm9.free (i := 0) rfl 2; have x3 := hm9.cell (i := 0) rfl 3 (.int .i64 0) rfl; have y3 := hm9.free (i := 0) rfl 3; have x4 := hm9.cell (i := 0) rfl 4 (.slice none 0 0) rfl; have y4 := hm9.free (i := 0) rfl 4; have x5 := hm9.cell (i := 0) rfl 5 (.slice none 0 0) rfl; have y5 := hm9.free (i := 0) rfl 5; have x6 := hm9.cell (i := 0) rfl 6 (.slice none 0 0) rfl; have y6 := hm9.free (i := 0) rfl 6; have H9 := hideIt (hm9.store7 (i := 0) rfl (.int .i64 0) (.bool false) (.int .i64 0) (.int .i64 0) (.slice none 0 0) (.slice none 0 0) (.slice none 0 0)); have HC9 := hideIt hc9; clear hm9 hb9 hc9))
      all_goals
        go_wp2
        go_meet
        case rel => first | (have := HA; exact ⟨w9.heap.size, rfl, rfl, c9, rfl, rfl, HC9.out, H9.out⟩) | (have := HB; exact ⟨wc.heap.size, rfl, rfl, c9, rfl, rfl, HC9.out, H9.out⟩)
    case rest =>
      clear A9 A10 hgrl hgdl hnw1 hnw2 hnw3 hnw4 g5 e5 d3 r0 r1 r2 r3 hgr1 hgr2 hM8
      obtain ⟨gx, rfl, rfl, f', rfl, rfl, hf', hN⟩ := hcut
      have g11 := hN.out.cell (i := 6) rfl 11 (.bool false) rfl
      have d3 := hN.out.cell (i := 3) rfl 3 (.string f) rfl
      have e3 := hN.out.free (i := 3) rfl 3
      have S1 := hideIt (hN.out.store (i := 3) (j := 3) rfl (.string f') rfl)
      clear hN
      go_wp2
      refine bodyPost_end (results_none Tryz.results28 _ _ _) rfl ⟨⟨_, rfl⟩, tm', kns', f', hf'.out, ?_⟩
      exact ((S1.out.sub (List.sublist_cons_self _ _)).sub (List.sublist_cons_self _ _)).sub (List.sublist_cons_self _ _)
end Go.Proofs.YtajobgmnmbnhiaaGreatDoor.Sap

/- WHAT IS PROVED HERE: saplingkeep's move: one access of an operation that reads a page, where Tell says that it has ended. Conditions: the frame is one of a state that an operation may be in; its page is there. -/
namespace Go.Proofs.YtajobgmnmbnhiaaGreatDoor.Sap
open Go.RowKit

set_option maxRecDepth 100000 in
set_option maxHeartbeats 6400000 in
theorem move_fin (gd kg kc nt gw tg tc ug uc vg vc dg dc bg bc nd i pg : Nat) (cv ov : Value) (now puts : Int) (k key v : Int) (f t : ByteArray) (kns ds bs vers : List Value) (ts : List Int) (T : List ByteArray) (U : List Bool) (ver : Int) (tm : Value) (s : St) (fd : Bool) (va pt : Int) (ks vs : List Int) (cs : List (Int × Int)) (fr : List As) (w0 w : World) (B : Nat) (htab : Tab w0) (hB : B = w0.heap.size)
    (hf : f.data.toList = frT s) (hs : StOk s ∧ s.sw = ⟨#[]⟩) (hpg : s.pg = (pg : Int)) (hp : pg < 64) (hU : U[pg]? = some true) (hT : T[pg]? = some t) (hV : vers[pg]? = some (.int .i64 ver)) (hD : ds[i]? = some (.pointer (some ⟨gd, 0, none⟩))) (_hnd : nd ≤ 1000) (hdl : ds.length = nd) (hnt : nt ≤ 100000) (hnw : 0 ≤ now ∧ now ≤ 1000000)
    (hTell : ∀ W, Tab W → Calls Tryz.prog 47 #[.string f, .agg #[.int .i64 ver, .int .i64 0, .string t, .bool false]] W fun e w' => TellR (.fin fd va pt ks vs cs) W w' e)
    (h : M w0 B w (.blk gd (DC k key v f tm (.slice (some ⟨kg, 0, none⟩) 64 kc) false false 0 false 0 0 (.slice none 0 0) (.slice none 0 0) (.slice none 0 0)) 48 :: .row 3 1 (.slice (some ⟨kg, 0, none⟩) 64 kc) 64 kns :: .row 3 1 tm nt (ints ts) :: .blk gw (WC (.slice (some ⟨tg, 0, none⟩) 64 tc) (.slice (some ⟨ug, 0, none⟩) 64 uc) (.slice (some ⟨vg, 0, none⟩) 64 vc) (.slice (some ⟨dg, 0, none⟩) nd dc) (.slice (some ⟨bg, 0, none⟩) 64 bc) now puts false false false false false cv ov false) 34 :: .row 3 1 (.slice (some ⟨bg, 0, none⟩) 64 bc) 64 (.int .i64 (i : Int) :: bs) :: .row 40 1 (.slice (some ⟨dg, 0, none⟩) nd dc) nd ds :: .row 9 1 (.slice (some ⟨tg, 0, none⟩) 64 tc) 64 (strs T) :: .row 4 1 (.slice (some ⟨ug, 0, none⟩) 64 uc) 64 (bools U) :: .row 3 1 (.slice (some ⟨vg, 0, none⟩) 64 vc) 64 vers :: fr)) :
    Calls Tryz.prog 28 #[.pointer (some ⟨gw, 0, none⟩), .int .i64 0] w fun e w' => (∃ u, e = .returned u) ∧ ∃ tm' kns',
      ∃ kv vv cv', M w0 B w' (.row 3 1 kv ks.length (ints ks) :: .row 3 1 vv vs.length (ints vs) :: .row 76 2 cv' cs.length (cutc cs) :: .blk gd (DC k key v ⟨#[]⟩ tm' (.slice (some ⟨kg, 0, none⟩) 64 kc) false true 0 fd va pt kv vv cv') 48 :: .row 3 1 (.slice (some ⟨kg, 0, none⟩) 64 kc) 64 kns' :: .row 3 1 tm' (nt + 1) (ints (ts ++ [now])) :: .blk gw (WC (.slice (some ⟨tg, 0, none⟩) 64 tc) (.slice (some ⟨ug, 0, none⟩) 64 uc) (.slice (some ⟨vg, 0, none⟩) 64 vc) (.slice (some ⟨dg, 0, none⟩) nd dc) (.slice (some ⟨bg, 0, none⟩) 64 bc) (now + 1) puts false false false false false cv ov false) 34 :: .row 3 1 (.slice (some ⟨bg, 0, none⟩) 64 bc) 64 (.int .i64 (-1) :: bs) :: .row 40 1 (.slice (some ⟨dg, 0, none⟩) nd dc) nd ds :: .row 9 1 (.slice (some ⟨tg, 0, none⟩) 64 tc) 64 (strs T) :: .row 4 1 (.slice (some ⟨ug, 0, none⟩) 64 uc) 64 (bools U) :: .row 3 1 (.slice (some ⟨vg, 0, none⟩) 64 vc) 64 vers :: fr) := by
  obtain ⟨i0, hi0, hz0, hz1, hz2⟩ := info_parts infoInt
  obtain ⟨ta, tcp, rfl⟩ := As.form0 (h.get (i := 2) rfl)
  obtain ⟨hn0, hn1⟩ := hnw
  have hi1 : i < nd := by rw [← hdl]; exact (List.getElem?_eq_some_iff.1 hD).1
  have hii : (i : Int) < (nd : Int) := by omega
  have hi2 : (0 : Int) ≤ (i : Int) := by omega
  have q3 := h.cell (i := 3) rfl 3 (.slice (some ⟨dg, 0, none⟩) nd dc) rfl
  have q4 := h.cell (i := 3) rfl 4 (.slice (some ⟨bg, 0, none⟩) 64 bc) rfl
  have b0 := h.rowCell (i := 4) rfl 0 (.int .i64 i) rfl
  have d0 := h.rowCell (i := 5) rfl i _ hD
  have d3 := h.cell (i := 0) rfl 3 (.string f) rfl
  have HM := hideIt h
  have HT : Hid (∀ W l, M w0 B W l → Tab W) := fun W l hm => htab.below (hB ▸ hm.bl)
  have CN := hideIt (fun W => next_read s f W hf hs.1 hs.2)
  rw [hpg] at CN
  have HU : Hid ((bools U)[pg]? = some (.bool true)) := by unfold Hid bools; rw [List.getElem?_map, hU]; rfl
  have HTX : Hid ((strs T)[pg]? = some (.string t)) := by unfold Hid strs; rw [List.getElem?_map, hT]; rfl
  have HV := hideIt hV
  have HTL := hideIt hTell
  clear h htab hB hf hs hpg hU hT hV hD hdl hTell
  go_enter Tryz.func28, Tryz.ntmps28
  go_wp2
  go_quiet (fail)
  go_wp2_with fail
  refine (CN.out _).mono ?_
  rintro e w1 ⟨rfl, hb⟩
  have A1 := hideIt ((HM.out.drewN _).below hb)
  clear hb HM CN q3 q4 b0 d0 d3
  have A2 := hideIt (A1.out.alloc #[.int .i64 1, .int .i64 pg, .int .i64 0, .string ⟨#[]⟩] 94)
  obtain ⟨ga, hga⟩ : ∃ g, w1.heap.size = g := ⟨_, rfl⟩
  rw [hga] at A2
  go_wp2_with fail

  refine (legal_read gw ug uc pg _ _ (A2.out.cell (i := 4) rfl 1 _ rfl) (A2.out.rowCell (i := 8) rfl pg _ HU.out) hp).mono ?_
  rintro e w2 ⟨rfl, hb⟩
  have A3 := hideIt (A2.out.below hb)
  clear hb A2 A1 hga
  have a0 := A3.out.cell (i := 0) rfl 0 (.int .i64 1) rfl
  have a1 := A3.out.cell (i := 0) rfl 1 (.int .i64 pg) rfl
  have a2 := A3.out.cell (i := 0) rfl 2 (.int .i64 0) rfl
  have a3 := A3.out.cell (i := 0) rfl 3 (.string ⟨#[]⟩) rfl
  go_wp2_with fail
  refine (act_read gw ug uc tg tc vg vc pg t ver _ (A3.out.cell (i := 4) rfl 1 _ rfl) (A3.out.rowCell (i := 8) rfl pg _ HU.out) hp (A3.out.cell (i := 4) rfl 0 _ rfl) (A3.out.rowCell (i := 7) rfl pg _ HTX.out) (A3.out.cell (i := 4) rfl 2 _ rfl) (A3.out.rowCell (i := 9) rfl pg _ HV.out)).mono ?_
  rintro e w3 ⟨rfl, hb⟩
  have A4 := hideIt (A3.out.below hb)
  clear hb A3 a0 a1 a2 a3
  have a0 := A4.out.cell (i := 0) rfl 0 (.int .i64 1) rfl
  have a1 := A4.out.cell (i := 0) rfl 1 (.int .i64 pg) rfl
  have a2 := A4.out.cell (i := 0) rfl 2 (.int .i64 0) rfl
  have a3 := A4.out.cell (i := 0) rfl 3 (.string ⟨#[]⟩) rfl
  have hlg := A4.out.lt (i := 0) rfl
  have A5 := hideIt (A4.out.alloc #[.int .i64 ver, .int .i64 0, .string t, .bool false] 99)
  go_wp2_with fail
  obtain ⟨gr, hgr⟩ : ∃ g, w3.heap.size = g := ⟨_, rfl⟩
  rw [hgr] at A5 ⊢
  refine (learns_read gd kg kc pg t ver w0 _ B 2 3 _ _ kns A5.out rfl rfl rfl hp).mono ?_
  rintro e w4 ⟨⟨u, rfl⟩, hM4⟩
  have A6 := hideIt hM4
  clear hM4 A5 A4 a0 a1 a2 a3 hgr hlg

  have g9 := A6.out.cell (i := 5) rfl 9 (.bool false) rfl
  have g7 := A6.out.cell (i := 5) rfl 7 (.bool false) rfl
  have g5 := A6.out.cell (i := 5) rfl 5 (.int .i64 now) rfl
  have d6 := A6.out.cell (i := 2) rfl 6 (.bool false) rfl
  have d4 := A6.out.cell (i := 2) rfl 4 (.slice ta nt tcp) rfl
  have e7 := A6.out.free (i := 5) rfl 7
  have hgg := A6.out.bne (i := 2) (j := 5) rfl rfl (by omega)
  have hgg' : gw ≠ gd := fun e => hgg e.symm
  have A7 := hideIt (A6.out.store (i := 5) (j := 7) rfl (.bool false) rfl)
  have hlw := A6.out.lt (i := 5) rfl
  have hld := A6.out.lt (i := 2) rfl
  obtain ⟨kns', hkn⟩ : ∃ x, kns.set pg (.int .i64 ver) = x := ⟨_, rfl⟩
  rw [hkn] at A6 A7
  clear hkn
  go_upto_region 13 with fail
  go_cut [] (fun wy => ∃ tm', Hid (M w0 B wy (.blk gr #[.int .i64 ver, .int .i64 0, .string t, .bool false] 99 :: .blk ga #[.int .i64 1, .int .i64 pg, .int .i64 0, .string ⟨#[]⟩] 94 :: .blk gd (DC k key v f tm' (.slice (some ⟨kg, 0, none⟩) 64 kc) false false 0 false 0 0 (.slice none 0 0) (.slice none 0 0) (.slice none 0 0)) 48 :: .row 3 1 (.slice (some ⟨kg, 0, none⟩) 64 kc) 64 kns' :: .row 3 1 tm' (nt + 1) (ints (ts ++ [now])) :: .blk gw (WC (.slice (some ⟨tg, 0, none⟩) 64 tc) (.slice (some ⟨ug, 0, none⟩) 64 uc) (.slice (some ⟨vg, 0, none⟩) 64 vc) (.slice (some ⟨dg, 0, none⟩) nd dc) (.slice (some ⟨bg, 0, none⟩) 64 bc) now puts false false false false false cv ov false) 34 :: .row 3 1 (.slice (some ⟨bg, 0, none⟩) 64 bc) 64 (.int .i64 (i : Int) :: bs) :: .row 40 1 (.slice (some ⟨dg, 0, none⟩) nd dc) nd ds :: .row 9 1 (.slice (some ⟨tg, 0, none⟩) 64 tc) 64 (strs T) :: .row 4 1 (.slice (some ⟨ug, 0, none⟩) 64 uc) 64 (bools U) :: .row 3 1 (.slice (some ⟨vg, 0, none⟩) 64 vc) 64 vers :: fr)))
  case first =>
    go_region_law (refine step_append_lies _ rfl _ _ 22 rfl B 3 i0 (.int .i64 0) 1 8 Tryz.underlying22 hi0 hz0 hz1 hz2 rfl (by decide) _ nt (ints ts) rfl (World.ownsRow.alloc (A7.out.get (i := 4) rfl) _) ⟨_, 0, none⟩ 1 1 [.int .i64 now] rfl rfl (by have := news_one (w4.setCell ⟨gw, 7, none⟩ (.bool false)) (.int .i64 now) 3; simpa using this) (by simp [Value.oneCell']) (by omega) (by unfold maxLen; omega) (by omega) (by have := A7.out.sz; simp at this ⊢; omega) _ rfl ?_; intro g1 cap1 w5 hown hgrow hat hlt1; rw [← ints_snoc] at hown; have hm := (A7.out.allocd _).drew.lies (i := 4) rfl hown hgrow hat; clear g9 g7 g5 d6 d4 e7 hown hgrow hat; have d4 := hm.cell (i := 2) rfl 4 (.slice ta nt tcp) rfl; have f4 := hm.free (i := 2) rfl 4; have H1 := hideIt (hm.store (i := 2) (j := 4) rfl (.slice (some ⟨g1, 0, none⟩) (nt + 1) cap1) rfl); clear hm)
    all_goals
      go_wp2
      go_meet
      case rel => exact ⟨_, H1.out⟩
  case rest =>
    obtain ⟨tm', hM8⟩ := hcut
    clear A6 A7 g9 g7 g5 d6 d4 e7 hlw hld
    have g5 := hM8.out.cell (i := 5) rfl 5 (.int .i64 now) rfl
    have e5 := hM8.out.free (i := 5) rfl 5
    have d3 := hM8.out.cell (i := 2) rfl 3 (.string f) rfl
    have r0 := hM8.out.cell (i := 0) rfl 0 (.int .i64 ver) rfl
    have r1 := hM8.out.cell (i := 0) rfl 1 (.int .i64 0) rfl
    have r2 := hM8.out.cell (i := 0) rfl 2 (.string t) rfl
    have r3 := hM8.out.cell (i := 0) rfl 3 (.bool false) rfl
    have hgr1 := hM8.out.bne (i := 0) (j := 5) rfl rfl (by omega)
    have hgr2 : gw ≠ gr := fun e => hgr1 e.symm
    have A9 := hideIt (hM8.out.store (i := 5) (j := 5) rfl (.int .i64 (now + 1)) rfl)
    have A10 := A9.out.alloc #[.int .i64 0, .bool false, .int .i64 0, .int .i64 0, .slice none 0 0, .slice none 0 0, .slice none 0 0] 46
    rw [show (wc.setCell ⟨gw, 5, none⟩ (.int .i64 (now + 1))).heap.size = wc.heap.size by simp [World.setCell]] at A10
    replace A10 := hideIt A10
    have hgrl := hM8.out.lt (i := 0) rfl
    have hgdl := hM8.out.lt (i := 2) rfl
    have hnw1 : gd ≠ wc.heap.size := by omega
    have hnw2 : gr ≠ wc.heap.size := by omega
    have hnw3 : wc.heap.size ≠ gd := by omega
    have hnw4 : wc.heap.size ≠ gr := by omega
    go_upto_region 15 with fail
    go_cut [9, 10, 11, 12] (fun a b c d wy => ∃ gx : Nat, b = .pointer (some ⟨gx, 0, none⟩) ∧ d = .int .i64 0 ∧ (∃ kv vv cv', a = .string ⟨#[]⟩ ∧ c = .bool true ∧ Hid (M w0 B wy (.blk gx #[.int .i64 0, .bool fd, .int .i64 va, .int .i64 pt, kv, vv, cv'] 46 :: (.row 3 1 kv ks.length (ints ks) :: .row 3 1 vv vs.length (ints vs) :: .row 76 2 cv' cs.length (cutc cs) :: .blk gr #[.int .i64 ver, .int .i64 0, .string t, .bool false] 99 :: .blk ga #[.int .i64 1, .int .i64 pg, .int .i64 0, .string ⟨#[]⟩] 94 :: .blk gd (DC k key v f tm' (.slice (some ⟨kg, 0, none⟩) 64 kc) false false 0 false 0 0 (.slice none 0 0) (.slice none 0 0) (.slice none 0 0)) 48 :: .row 3 1 (.slice (some ⟨kg, 0, none⟩) 64 kc) 64 kns' :: .row 3 1 tm' (nt + 1) (ints (ts ++ [now])) :: .blk gw (WC (.slice (some ⟨tg, 0, none⟩) 64 tc) (.slice (some ⟨ug, 0, none⟩) 64 uc) (.slice (some ⟨vg, 0, none⟩) 64 vc) (.slice (some ⟨dg, 0, none⟩) nd dc) (.slice (some ⟨bg, 0, none⟩) 64 bc) (now + 1) puts false false false false false cv ov false) 34 :: .row 3 1 (.slice (some ⟨bg, 0, none⟩) 64 bc) 64 (.int .i64 (i : Int) :: bs) :: .row 40 1 (.slice (some ⟨dg, 0, none⟩) nd dc) nd ds :: .row 9 1 (.slice (some ⟨tg, 0, none⟩) 64 tc) 64 (strs T) :: .row 4 1 (.slice (some ⟨ug, 0, none⟩) 64 uc) 64 (bools U) :: .row 3 1 (.slice (some ⟨vg, 0, none⟩) 64 vc) 64 vers :: fr)))))
    case first =>
      go_region_held3 (fun W => W.cell? ⟨gd, 3, none⟩ = some (.string f) ∧ W.cell? ⟨gr, 0, none⟩ = some (.int .i64 ver) ∧ W.cell? ⟨gr, 1, none⟩ = some (.int .i64 0) ∧ W.cell? ⟨gr, 2, none⟩ = some (.string t) ∧ W.cell? ⟨gr, 3, none⟩ = some (.bool false)) (go_keep) (first
        | (go_at_call 47; refine (HTL.out _ (HT.out _ _ A9.out.drew)).mono ?_; rintro e w9 ⟨kv9, vv9, cv9, rfl, hn9⟩; obtain ⟨ka9, kc9, rfl⟩ := As.form0 (hn9.get (i := 0) rfl); obtain ⟨va9, vc9, rfl⟩ := As.form0 (hn9.get (i := 1) rfl); obtain ⟨ca9, cc9, rfl⟩ := As.form0 (hn9.get (i := 2) rfl); have hm9 := A9.out.drew.join hn9; have z3 := hm9.cell (i := 5) rfl 3 (.string f) rfl; have zr0 := hm9.cell (i := 3) rfl 0 (.int .i64 ver) rfl; have zr1 := hm9.cell (i := 3) rfl 1 (.int .i64 0) rfl; have zr2 := hm9.cell (i := 3) rfl 2 (.string t) rfl; have zr3 := hm9.cell (i := 3) rfl 3 (.bool false) rfl; have zl1 := hm9.lt (i := 5) rfl; have zl2 := hm9.lt (i := 3) rfl; have HA : Hid True := trivial; have H9 := hideIt (hm9.alloc #[.int .i64 0, .bool fd, .int .i64 va, .int .i64 pt, .slice ka9 ks.length kc9, .slice va9 vs.length vc9, .slice ca9 cs.length cc9] 46); clear hn9 hm9)
        | (go_at_call 47; refine (HTL.out _ (HT.out _ _ A10.out.drew)).mono ?_; rintro e w9 ⟨kv9, vv9, cv9, rfl, hn9⟩; obtain ⟨ka9, kc9, rfl⟩ := As.form0 (hn9.get (i := 0) rfl); obtain ⟨va9, vc9, rfl⟩ := As.form0 (hn9.get (i := 1) rfl); obtain ⟨ca9, cc9, rfl⟩ := As.form0 (hn9.get (i := 2) rfl); have hm9 := A10.out.drew.join hn9; have z3 := hm9.cell (i := 6) rfl 3 (.string f) rfl; have zr0 := hm9.cell (i := 4) rfl 0 (.int .i64 ver) rfl; have zr1 := hm9.cell (i := 4) rfl 1 (.int .i64 0) rfl; have zr2 := hm9.cell (i := 4) rfl 2 (.string t) rfl; have zr3 := hm9.cell (i := 4) rfl 3 (.bool false) rfl; have zl1 := hm9.lt (i := 6) rfl; have zl2 := hm9.lt (i := 4) rfl; have HB : Hid True := trivial; have x0 := hm9.cell (i := 3) rfl 0 (.int .i64 0) rfl; have y0 := hm9.free (i := 3) rfl 0; have x1 := hm9.cell (i := 3) rfl 1 (.bool false) rfl; have y1 := hm9.free (i := 3) rfl 1; have x2 := hm9.cell (i := 3) rfl 2 (.int .i64 0) rfl; have y2 := hm9.free (i := 3) rfl 2; have x3 := hm9.cell (i := 3) rfl 3 (.int .i64 0) rfl; have y3 := hm9.free (i := 3) rfl 3; have x4 := hm9.cell (i := 3) rfl 4 (.slice none 0 0) rfl; have y4 := hm9.free (i := 3) rfl 4; have x5 := hm9.cell (i := 3) rfl 5 (.slice none 0 0) rfl; have y5 := hm9.free (i := 3) rfl 5; have x6 := hm9.cell (i := 3) rfl 6 (.slice none 0 0) rfl; have y6 := hm9.free (i := 3) rfl 6; have H9 := hideIt ((hm9.store7 (i := 3) rfl (.int .i64 0) (.bool fd) (.int .i64 va) (.int .i64 pt) (.slice ka9 ks.length kc9) (.slice va9 vs.length vc9) (.slice ca9 cs.length cc9)).perm (List.perm_middle (l₁ := [_, _, _])).symm); clear hm9 hn9))
      all_goals
        go_wp2
        go_meet
        case rel => first | (have := HA; exact ⟨w9.heap.size, rfl, rfl, _, _, _, rfl, rfl, H9.out⟩) | (have := HB; exact ⟨wc.heap.size, rfl, rfl, _, _, _, rfl, rfl, H9.out⟩)
    case rest =>
      clear A9 A10 hgrl hgdl hnw1 hnw2 hnw3 hnw4 g5 e5 d3 r0 r1 r2 r3 hgr1 hgr2 hM8
      obtain ⟨gx, rfl, rfl, kv, vv, cv', rfl, rfl, hN⟩ := hcut
      obtain ⟨ka, kc2, rfl⟩ := As.form0 (hN.out.get (i := 1) rfl)
      obtain ⟨va2, vc2, rfl⟩ := As.form0 (hN.out.get (i := 2) rfl)
      obtain ⟨ca2, cc2, rfl⟩ := As.form0 (hN.out.get (i := 3) rfl)
      have g11 := hN.out.cell (i := 9) rfl 11 (.bool false) rfl
      have g4 := hN.out.cell (i := 9) rfl 4 (.slice (some ⟨bg, 0, none⟩) 64 bc) rfl
      have b0 := hN.out.rowCell (i := 10) rfl 0 (.int .i64 i) rfl
      have bf := hN.out.rowFree (i := 10) rfl 0
      have d3 := hN.out.cell (i := 6) rfl 3 (.string f) rfl
      have e3 := hN.out.free (i := 6) rfl 3
      have d7 := hN.out.cell (i := 6) rfl 7 (.bool false) rfl
      have e7 := hN.out.free (i := 6) rfl 7
      have d8 := hN.out.cell (i := 6) rfl 8 (.int .i64 0) rfl
      have e8 := hN.out.free (i := 6) rfl 8
      have d9 := hN.out.cell (i := 6) rfl 9 (.bool false) rfl
      have e9 := hN.out.free (i := 6) rfl 9
      have d10 := hN.out.cell (i := 6) rfl 10 (.int .i64 0) rfl
      have e10 := hN.out.free (i := 6) rfl 10
      have d11 := hN.out.cell (i := 6) rfl 11 (.int .i64 0) rfl
      have e11 := hN.out.free (i := 6) rfl 11
      have d12 := hN.out.cell (i := 6) rfl 12 (.slice none 0 0) rfl
      have e12 := hN.out.free (i := 6) rfl 12
      have d13 := hN.out.cell (i := 6) rfl 13 (.slice none 0 0) rfl
      have e13 := hN.out.free (i := 6) rfl 13
      have d14 := hN.out.cell (i := 6) rfl 14 (.slice none 0 0) rfl
      have e14 := hN.out.free (i := 6) rfl 14
      have x0 := hN.out.cell (i := 0) rfl 0 (.int .i64 0) rfl
      have x1 := hN.out.cell (i := 0) rfl 1 (.bool fd) rfl
      have x2 := hN.out.cell (i := 0) rfl 2 (.int .i64 va) rfl
      have x3 := hN.out.cell (i := 0) rfl 3 (.int .i64 pt) rfl
      have x4 := hN.out.cell (i := 0) rfl 4 (.slice ka ks.length kc2) rfl
      have x5 := hN.out.cell (i := 0) rfl 5 (.slice va2 vs.length vc2) rfl
      have x6 := hN.out.cell (i := 0) rfl 6 (.slice ca2 cs.length cc2) rfl
      have hne1 := hN.out.bne (i := 0) (j := 6) rfl rfl (by omega)
      have hne2 := hN.out.bne (i := 6) (j := 9) rfl rfl (by omega)
      have hne3 : gd ≠ gx := fun e => hne1 e.symm
      have hne4 : gw ≠ gd := fun e => hne2 e.symm
      have hne5 := hN.out.ne (i := 6) (j := 10) rfl rfl
      have hne6 := hN.out.ne (i := 9) (j := 10) rfl rfl
      have hne7 : bg ≠ gd := fun e => hne5 e.symm
      have hne8 : bg ≠ gw := fun e => hne6 e.symm
      have S1 := hN.out.store (i := 6) (j := 3) rfl (.string ⟨#[]⟩) (c' := DC k key v ⟨#[]⟩ tm' (.slice (some ⟨kg, 0, none⟩) 64 kc) false false 0 false 0 0 (.slice none 0 0) (.slice none 0 0) (.slice none 0 0)) rfl
      have S2 := S1.store (i := 6) (j := 7) rfl (.bool true) (c' := DC k key v ⟨#[]⟩ tm' (.slice (some ⟨kg, 0, none⟩) 64 kc) false true 0 false 0 0 (.slice none 0 0) (.slice none 0 0) (.slice none 0 0)) rfl
      have Sa0 := S2.store (i := 6) (j := 8) rfl (.int .i64 0) (c' := DC k key v ⟨#[]⟩ tm' (.slice (some ⟨kg, 0, none⟩) 64 kc) false true 0 false 0 0 (.slice none 0 0) (.slice none 0 0) (.slice none 0 0)) rfl
      have Sa1 := Sa0.store (i := 6) (j := 9) rfl (.bool fd) (c' := DC k key v ⟨#[]⟩ tm' (.slice (some ⟨kg, 0, none⟩) 64 kc) false true 0 fd 0 0 (.slice none 0 0) (.slice none 0 0) (.slice none 0 0)) rfl
      have Sa2 := Sa1.store (i := 6) (j := 10) rfl (.int .i64 va) (c' := DC k key v ⟨#[]⟩ tm' (.slice (some ⟨kg, 0, none⟩) 64 kc) false true 0 fd va 0 (.slice none 0 0) (.slice none 0 0) (.slice none 0 0)) rfl
      have Sa3 := Sa2.store (i := 6) (j := 11) rfl (.int .i64 pt) (c' := DC k key v ⟨#[]⟩ tm' (.slice (some ⟨kg, 0, none⟩) 64 kc) false true 0 fd va pt (.slice none 0 0) (.slice none 0 0) (.slice none 0 0)) rfl
      have Sa4 := Sa3.store (i := 6) (j := 12) rfl (.slice ka ks.length kc2) (c' := DC k key v ⟨#[]⟩ tm' (.slice (some ⟨kg, 0, none⟩) 64 kc) false true 0 fd va pt (.slice ka ks.length kc2) (.slice none 0 0) (.slice none 0 0)) rfl
      have Sa5 := Sa4.store (i := 6) (j := 13) rfl (.slice va2 vs.length vc2) (c' := DC k key v ⟨#[]⟩ tm' (.slice (some ⟨kg, 0, none⟩) 64 kc) false true 0 fd va pt (.slice ka ks.length kc2) (.slice va2 vs.length vc2) (.slice none 0 0)) rfl
      have S3 := Sa5.store (i := 6) (j := 14) rfl (.slice ca2 cs.length cc2) (c' := DC k key v ⟨#[]⟩ tm' (.slice (some ⟨kg, 0, none⟩) 64 kc) false true 0 fd va pt (.slice ka ks.length kc2) (.slice va2 vs.length vc2) (.slice ca2 cs.length cc2)) rfl
      have S4 := hideIt (S3.storeRow (i := 10) (j := 0) rfl (.int .i64 (-1)))
      clear hN S1 S2 S3 Sa0 Sa1 Sa2 Sa3 Sa4 Sa5
      go_wp2
      refine bodyPost_end (results_none Tryz.results28 _ _ _) rfl ⟨⟨_, rfl⟩, tm', kns', .slice ka ks.length kc2, .slice va2 vs.length vc2, .slice ca2 cs.length cc2, ?_⟩
      have S5 := S4.out.sub (List.sublist_cons_self _ _)
      exact S5.sub (List.Sublist.cons_cons _ (List.Sublist.cons_cons _ (List.Sublist.cons_cons _ (List.Sublist.trans (List.sublist_cons_self _ _) (List.sublist_cons_self _ _)))))
end Go.Proofs.YtajobgmnmbnhiaaGreatDoor.Sap
