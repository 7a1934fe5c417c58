/- WHAT IS PROVED HERE: saplingkeep's move where each call is kept (keeps): one access of an operation that ends: the call lies behind the others. Conditions: what Next, legal, act, learns and Tell answer there is given. -/
import Derived.Test.YtajobgmnmbnhiaaDoorPt57
namespace Go.Proofs.YtajobgmnmbnhiaaDoor.Sap
open Go.RowKit
set_option maxRecDepth 100000 in
set_option maxHeartbeats 6400000 in
theorem move_end_k (nc : Nat) (CL : List Value) (hnc : nc ≤ 100000000000) (gd kg kc nt gw tg tc ug uc vg vc dg dc bg bc nd i c : Nat) (cv ov : Value) (now puts : Int) (k key v ak ap av rv rp : Int) (f at' rt : ByteArray) (rd drf drf' rf wt : Bool) (kns kns' bs V V' : List Int) (ds : List Value) (ts : List Int) (T T' : List ByteArray) (U U' : List Bool) (tm : Value) (er : Int) (fd : Bool) (va pt : Int) (ks vs : List Int) (cs : List (Int × Int)) (hkl : ks.length ≤ 1000000) (hvl : vs.length ≤ 1000000) (hcl : cs.length ≤ 1000000) (fr : List As) (w0 w : World) (B : Nat) (htab : Tab w0) (hB : B = w0.heap.size)
    (hc : c < 64) (hb : bs[c]? = some (i : Int)) (hD : ds[i]? = some (.pointer (some ⟨gd, 0, none⟩))) (_hnd : nd ≤ 100000000) (hdl : ds.length = nd) (hnt : nt ≤ 100000000) (hnw : 0 ≤ now ∧ now ≤ 100000000000)
    (hNext : ∀ W, Tab W → Calls Tryd.prog 26 #[.string f] W fun e w' => e = .returned (.tuple #[.agg #[.int .i64 ak, .int .i64 ap, .int .i64 av, .string at'], .int .i64 0]) ∧ Below W.heap.size W w')
    (hLegal : ∀ W ga, M w0 B W (.blk ga #[.int .i64 ak, .int .i64 ap, .int .i64 av, .string at'] 45 :: LM gd kg kc gw tg tc ug uc vg vc dg dc bg bc nd k key v f tm nt drf kns ts now puts rf wt true cv ov bs ds T U V (.row 78 18 cv nc CL :: fr)) → Calls Tryd.prog 81 #[.pointer (some ⟨gw, 0, none⟩), .pointer (some ⟨gd, 0, none⟩), .agg #[.int .i64 ak, .int .i64 ap, .int .i64 av, .string at']] W fun e w' => e = .returned (.bool true) ∧ Below W.heap.size W w')
    (hAct : ∀ W ga, M w0 B W (.blk ga #[.int .i64 ak, .int .i64 ap, .int .i64 av, .string at'] 45 :: LM gd kg kc gw tg tc ug uc vg vc dg dc bg bc nd k key v f tm nt drf kns ts now puts rf wt true cv ov bs ds T U V (.row 78 18 cv nc CL :: fr)) → Calls Tryd.prog 82 #[.pointer (some ⟨gw, 0, none⟩), .agg #[.int .i64 ak, .int .i64 ap, .int .i64 av, .string at']] W fun e w' => e = .returned (.agg #[.int .i64 rv, .int .i64 rp, .string rt, .bool rd]) ∧ M w0 B w' (.blk ga #[.int .i64 ak, .int .i64 ap, .int .i64 av, .string at'] 45 :: LM gd kg kc gw tg tc ug uc vg vc dg dc bg bc nd k key v f tm nt drf kns ts now puts rf wt true cv ov bs ds T' U' V' (.row 78 18 cv nc CL :: fr)))
    (hLearns : ∀ W ga gr, M w0 B W (.blk gr #[.int .i64 rv, .int .i64 rp, .string rt, .bool rd] 73 :: .blk ga #[.int .i64 ak, .int .i64 ap, .int .i64 av, .string at'] 45 :: LM gd kg kc gw tg tc ug uc vg vc dg dc bg bc nd k key v f tm nt drf kns ts now puts rf wt true cv ov bs ds T' U' V' (.row 78 18 cv nc CL :: fr)) → Calls Tryd.prog 83 #[.pointer (some ⟨gd, 0, none⟩), .agg #[.int .i64 ak, .int .i64 ap, .int .i64 av, .string at'], .agg #[.int .i64 rv, .int .i64 rp, .string rt, .bool rd]] W fun e w' => (∃ u, e = .returned u) ∧ M w0 B w' (.blk gr #[.int .i64 rv, .int .i64 rp, .string rt, .bool rd] 73 :: .blk ga #[.int .i64 ak, .int .i64 ap, .int .i64 av, .string at'] 45 :: LM gd kg kc gw tg tc ug uc vg vc dg dc bg bc nd k key v f tm nt drf' kns' ts now puts rf wt true cv ov bs ds T' U' V' (.row 78 18 cv nc CL :: fr)))
    (hStands : wt = true → ak ≠ 1 → ∀ W ga gr, M w0 B W (.blk gr #[.int .i64 rv, .int .i64 rp, .string rt, .bool rd] 73 :: .blk ga #[.int .i64 ak, .int .i64 ap, .int .i64 av, .string at'] 45 :: LM gd kg kc gw tg tc ug uc vg vc dg dc bg bc nd k key v f tm nt drf' kns' ts now puts rf wt true cv ov bs ds T' U' V' (.row 78 18 cv nc CL :: fr)) → Calls Tryd.prog 84 #[.pointer (some ⟨gw, 0, none⟩)] W fun e w' => e = .returned (.bool true) ∧ Below W.heap.size W w')
    (hTell : ∀ W, Tab W → Calls Tryd.prog 61 #[.string f, .agg #[.int .i64 rv, .int .i64 rp, .string rt, .bool rd]] W fun e w' => FinR er fd va pt ks vs cs W w' e)
    (h : M w0 B w (LM gd kg kc gw tg tc ug uc vg vc dg dc bg bc nd k key v f tm nt drf kns ts now puts rf wt true cv ov bs ds T U V (.row 78 18 cv nc CL :: fr))) :
    Calls Tryd.prog 56 #[.pointer (some ⟨gw, 0, none⟩), .int .i64 c] w fun e w' => (∃ u, e = .returned u) ∧ ∃ tm' kv vv cv' cv2 k2 v2 c2, M w0 B w' (LE gd kg kc gw tg tc ug uc vg vc dg dc bg bc nd k key v tm' (nt + 1) drf' er fd va pt kv vv cv' ks vs cs kns' (ts ++ [now]) (now + 1) puts (rf || drf') wt true cv2 ov (bs.set c (-1)) ds T' U' V' (.row 78 18 cv2 (nc + 1) (CL ++ [.string f, .int .i64 ak, .int .i64 ap, .int .i64 av, .string at', .int .i64 rv, .int .i64 rp, .string rt, .bool rd, .string ⟨#[]⟩, .bool true, .int .i64 er, .bool fd, .int .i64 va, .int .i64 pt, k2, v2, c2]) :: .row 142 2 c2 cs.length (cutc cs) :: .row 3 1 v2 vs.length (ints vs) :: .row 3 1 k2 ks.length (ints ks) :: fr)) := by
  obtain ⟨i0, hi0, hz0, hz1, hz2⟩ := info_parts infoInt
  obtain ⟨ta, tcp, rfl⟩ := As.form0 (h.get (i := 2) rfl)
  obtain ⟨hn0, hn1⟩ := hnw
  have hi1 : i < nd := by rw [← hdl]; exact (List.getElem?_eq_some_iff.1 hD).1
  have hii : (i : Int) < (nd : Int) := by omega
  have hi2 : (0 : Int) ≤ (i : Int) := by omega
  have hc0 : (0 : Int) ≤ (c : Int) := by omega
  have hc1 : (c : Int) < 64 := by omega
  have q3 := h.cell (i := 3) rfl 3 (.slice (some ⟨dg, 0, none⟩) nd dc) rfl
  have q4 := h.cell (i := 3) rfl 4 (.slice (some ⟨bg, 0, none⟩) 64 bc) rfl
  have b0 := h.rowCell (i := 4) rfl c (.int .i64 i) (by simp [ints, hb])
  have d0 := h.rowCell (i := 5) rfl i _ hD
  have d3 := h.cell (i := 0) rfl 3 (.string f) rfl
  have HBC : Hid ((ints bs)[c]? = some (.int .i64 i)) := by unfold Hid; simp [ints, hb]
  have HM := hideIt h
  have HT : Hid (∀ W l, M w0 B W l → Tab W) := fun W l hm => htab.below (hB ▸ hm.bl)
  have CN := hideIt hNext
  have CL := hideIt hLegal
  have CA := hideIt hAct
  have CE := hideIt hLearns
  have CST := hideIt hStands
  have HTL := hideIt hTell
  clear h htab hB hD hdl hTell hNext hLegal hAct hLearns hStands hb
  go_enter Tryd.func56, Tryd.ntmps56
  go_wp2
  go_quiet (fail)
  go_wp2_with fail
  refine (CN.out _ (HT.out _ _ (HM.out.drewN _))).mono ?_
  rintro e w1 ⟨rfl, hb⟩
  have A1 := hideIt ((HM.out.drewN _).below hb)
  clear hb HM CN q3 q4 b0 d0 d3
  have A2 := hideIt (A1.out.alloc #[.int .i64 ak, .int .i64 ap, .int .i64 av, .string at'] 45)
  obtain ⟨ga, hga⟩ : ∃ g, w1.heap.size = g := ⟨_, rfl⟩
  rw [hga] at A2
  go_wp2_with fail
  refine (CL.out _ ga A2.out).mono ?_
  rintro e w2 ⟨rfl, hb⟩
  have A3 := hideIt (A2.out.below hb)
  clear hb A2 A1 hga CL
  have a0 := A3.out.cell (i := 0) rfl 0 (.int .i64 ak) rfl
  have a1 := A3.out.cell (i := 0) rfl 1 (.int .i64 ap) rfl
  have a2 := A3.out.cell (i := 0) rfl 2 (.int .i64 av) rfl
  have a3 := A3.out.cell (i := 0) rfl 3 (.string at') rfl
  go_wp2_with fail
  refine (CA.out _ ga A3.out).mono ?_
  rintro e w3 ⟨rfl, hM3⟩
  have A4 := hideIt hM3
  clear hM3 A3 a0 a1 a2 a3 CA
  have a0 := A4.out.cell (i := 0) rfl 0 (.int .i64 ak) rfl
  have a1 := A4.out.cell (i := 0) rfl 1 (.int .i64 ap) rfl
  have a2 := A4.out.cell (i := 0) rfl 2 (.int .i64 av) rfl
  have a3 := A4.out.cell (i := 0) rfl 3 (.string at') rfl
  have hlg := A4.out.lt (i := 0) rfl
  have A5 := hideIt (A4.out.alloc #[.int .i64 rv, .int .i64 rp, .string rt, .bool rd] 73)
  go_wp2_with fail
  obtain ⟨gr, hgr⟩ : ∃ g, w3.heap.size = g := ⟨_, rfl⟩
  rw [hgr] at A5 ⊢
  refine (CE.out _ ga gr A5.out).mono ?_
  rintro e w4 ⟨⟨u, rfl⟩, hM4⟩
  have A6 := hideIt hM4
  clear hM4 A5 A4 a0 a1 a2 a3 hgr hlg CE
  have g9 := A6.out.cell (i := 5) rfl 9 (.bool wt) rfl
  have g10 := A6.out.cell (i := 5) rfl 10 (.bool false) rfl
  have ak0 := A6.out.cell (i := 1) rfl 0 (.int .i64 ak) rfl
  go_upto_region 9 with fail
  go_cut [63] (fun u wy => u = .bool (wt && (ak != 1)) ∧ wy = w4)
  case first =>
    cases wt
    all_goals
      go_wp2
      go_meet
      case rel => exact ⟨by simp, rfl⟩
  case rest =>
  obtain ⟨rfl, rfl⟩ := hcut
  obtain ⟨bb, hbb⟩ : ∃ b, (wt && (ak != 1)) = b := ⟨_, rfl⟩
  have HBB := hideIt hbb
  rw [hbb]
  clear hbb
  go_upto_if 63 with fail
  go_cut [] (fun wy => Hid (M w0 B wy (.blk gr #[.int .i64 rv, .int .i64 rp, .string rt, .bool rd] 73 :: .blk ga #[.int .i64 ak, .int .i64 ap, .int .i64 av, .string at'] 45 :: LM gd kg kc gw tg tc ug uc vg vc dg dc bg bc nd k key v f (.slice ta nt tcp) nt drf' kns' ts now puts rf wt true cv ov bs ds T' U' V' (.row 78 18 cv nc CL :: fr))))
  case first =>
    cases bb
    · go_wp2
      go_meet
      case rel => exact A6.out
    · have hb1 : wt = true ∧ ak ≠ 1 := by have := HBB.out; simp at this; exact this
      have CS2 := hideIt (CST.out hb1.1 hb1.2 _ ga gr A6.out)
      clear hb1
      go_wp2_with fail
      refine CS2.out.mono ?_
      rintro e w5 ⟨rfl, hb⟩
      have B6 := hideIt (A6.out.below hb)
      clear hb CS2 g9 g10 ak0
      have g10 := B6.out.cell (i := 5) rfl 10 (.bool false) rfl
      have f10 := B6.out.free (i := 5) rfl 10
      have S10 := hideIt (B6.out.store (i := 5) (j := 10) rfl (.bool false) rfl)
      go_wp2
      go_meet
      case rel => exact S10.out
  case rest =>
   have B6 := hideIt hcut.out
   clear hcut A6 g9 g10 ak0 CST
   have A6 := hideIt B6.out
   clear B6
   have g7 := A6.out.cell (i := 5) rfl 7 (.bool rf) rfl
   have g5 := A6.out.cell (i := 5) rfl 5 (.int .i64 now) rfl
   have d6 := A6.out.cell (i := 2) rfl 6 (.bool drf') rfl
   have d4 := A6.out.cell (i := 2) rfl 4 (.slice ta nt tcp) rfl
   have e7 := A6.out.free (i := 5) rfl 7
   have hgg := A6.out.bne (i := 2) (j := 5) rfl rfl (by omega)
   have hgg' : gw ≠ gd := fun e => hgg e.symm
   have A7 := hideIt (A6.out.store (i := 5) (j := 7) rfl (.bool (rf || drf')) rfl)
   have hlw := A6.out.lt (i := 5) rfl
   have hld := A6.out.lt (i := 2) rfl
   go_upto_region 12 with fail
   go_cut [] (fun wy => Hid (M w0 B wy (.blk gr #[.int .i64 rv, .int .i64 rp, .string rt, .bool rd] 73 :: .blk ga #[.int .i64 ak, .int .i64 ap, .int .i64 av, .string at'] 45 :: LM gd kg kc gw tg tc ug uc vg vc dg dc bg bc nd k key v f (.slice ta nt tcp) nt drf' kns' ts now puts (rf || drf') wt true cv ov bs ds T' U' V' (.row 78 18 cv nc CL :: fr))))
   case first =>
     cases rf
     all_goals
       go_wp2
       go_meet
       case rel => exact A7.out
   case rest =>
    have A8 := hideIt hcut.out
    clear hcut A6 A7 g7 g5 d6 d4 e7 hlw hld
    have g5 := A8.out.cell (i := 5) rfl 5 (.int .i64 now) rfl
    have d4 := A8.out.cell (i := 2) rfl 4 (.slice ta nt tcp) rfl
    have hlw := A8.out.lt (i := 5) rfl
    have hld := A8.out.lt (i := 2) rfl
    go_upto_region 13 with fail
    go_cut [] (fun wy => ∃ tm', Hid (M w0 B wy (.blk gr #[.int .i64 rv, .int .i64 rp, .string rt, .bool rd] 73 :: .blk ga #[.int .i64 ak, .int .i64 ap, .int .i64 av, .string at'] 45 :: LM gd kg kc gw tg tc ug uc vg vc dg dc bg bc nd k key v f tm' (nt + 1) drf' kns' (ts ++ [now]) now puts (rf || drf') wt true cv ov bs ds T' U' V' (.row 78 18 cv nc CL :: fr))))
    case first =>
     go_region_law (refine step_append_lies _ rfl _ _ 22 rfl B 3 i0 (.int .i64 0) 1 8 Tryd.underlying22 hi0 hz0 hz1 hz2 rfl (by decide) _ nt (ints ts) rfl (World.ownsRow.alloc (A8.out.get (i := 4) rfl).own _) ⟨_, 0, none⟩ 1 1 [.int .i64 now] rfl rfl (by have := news_one wc (.int .i64 now) 3; simpa using this) (by simp [Value.oneCell']) (by omega) (by unfold maxLen; omega) (by omega) (by have := A8.out.sz; simp at this ⊢; omega) _ rfl ?_; intro g1 cap1 w5 hown hgrow hat hlt1; rw [← ints_snoc] at hown; have hm := (A8.out.allocd _).drew.lies (i := 4) rfl hown hgrow hat; clear g5 d4 hown hgrow hat; have d4 := hm.cell (i := 2) rfl 4 (.slice ta nt tcp) rfl; have f4 := hm.free (i := 2) rfl 4; have H1 := hideIt (hm.store (i := 2) (j := 4) rfl (.slice (some ⟨g1, 0, none⟩) (nt + 1) cap1) rfl); clear hm)
     all_goals
       go_wp2
       go_meet
       case rel => exact ⟨_, H1.out⟩
    case rest =>
     obtain ⟨tm', hM8⟩ := hcut
     clear A8 g5 d4 hlw hld
     have g5 := hM8.out.cell (i := 5) rfl 5 (.int .i64 now) rfl
     have e5 := hM8.out.free (i := 5) rfl 5
     have d3 := hM8.out.cell (i := 2) rfl 3 (.string f) rfl
     have r0 := hM8.out.cell (i := 0) rfl 0 (.int .i64 rv) rfl
     have r1 := hM8.out.cell (i := 0) rfl 1 (.int .i64 rp) rfl
     have r2 := hM8.out.cell (i := 0) rfl 2 (.string rt) rfl
     have r3 := hM8.out.cell (i := 0) rfl 3 (.bool rd) rfl
     have hgr1 := hM8.out.bne (i := 0) (j := 5) rfl rfl (by omega)
     have hgr2 : gw ≠ gr := fun e => hgr1 e.symm
     have A9 := hideIt (hM8.out.store (i := 5) (j := 5) rfl (.int .i64 (now + 1)) rfl)
     have A10 := A9.out.alloc #[.int .i64 0, .bool false, .int .i64 0, .int .i64 0, .slice none 0 0, .slice none 0 0, .slice none 0 0] 76
     rw [show (wc.setCell ⟨gw, 5, none⟩ (.int .i64 (now + 1))).heap.size = wc.heap.size by simp [World.setCell]] at A10
     replace A10 := hideIt A10
     have hgrl := hM8.out.lt (i := 0) rfl
     have hgdl := hM8.out.lt (i := 2) rfl
     have hnw1 : gd ≠ wc.heap.size := by omega
     have hnw2 : gr ≠ wc.heap.size := by omega
     have hnw3 : wc.heap.size ≠ gd := by omega
     have hnw4 : wc.heap.size ≠ gr := by omega
     go_upto_region 15 with fail
     go_cut [9, 10, 11, 12] (fun a b c d wy => ∃ gx : Nat, b = .pointer (some ⟨gx, 0, none⟩) ∧ d = .int .i64 0 ∧ (∃ kv vv cv', a = .string ⟨#[]⟩ ∧ c = .bool true ∧ Hid (M w0 B wy (.blk gx #[.int .i64 er, .bool fd, .int .i64 va, .int .i64 pt, kv, vv, cv'] 76 :: (.row 3 1 kv ks.length (ints ks) :: .row 3 1 vv vs.length (ints vs) :: .row 142 2 cv' cs.length (cutc cs) :: .blk gr #[.int .i64 rv, .int .i64 rp, .string rt, .bool rd] 73 :: .blk ga #[.int .i64 ak, .int .i64 ap, .int .i64 av, .string at'] 45 :: LM gd kg kc gw tg tc ug uc vg vc dg dc bg bc nd k key v f tm' (nt + 1) drf' kns' (ts ++ [now]) (now + 1) puts (rf || drf') wt true cv ov bs ds T' U' V' (.row 78 18 cv nc CL :: fr))))))
     case first =>
       go_region_held3 (fun W => W.cell? ⟨gd, 3, none⟩ = some (.string f) ∧ W.cell? ⟨gr, 0, none⟩ = some (.int .i64 rv) ∧ W.cell? ⟨gr, 1, none⟩ = some (.int .i64 rp) ∧ W.cell? ⟨gr, 2, none⟩ = some (.string rt) ∧ W.cell? ⟨gr, 3, none⟩ = some (.bool rd)) (go_keep) (first
         | (go_at_call 61; refine (HTL.out _ (HT.out _ _ A9.out.drew)).mono ?_; rintro e w9 ⟨kv9, vv9, cv9, rfl, hn9⟩; obtain ⟨ka9, kc9, rfl⟩ := As.form0 (hn9.get (i := 0) rfl); obtain ⟨va9, vc9, rfl⟩ := As.form0 (hn9.get (i := 1) rfl); obtain ⟨ca9, cc9, rfl⟩ := As.form0 (hn9.get (i := 2) rfl); have hm9 := A9.out.drew.join hn9; have z3 := hm9.cell (i := 5) rfl 3 (.string f) rfl; have zr0 := hm9.cell (i := 3) rfl 0 (.int .i64 rv) rfl; have zr1 := hm9.cell (i := 3) rfl 1 (.int .i64 rp) rfl; have zr2 := hm9.cell (i := 3) rfl 2 (.string rt) rfl; have zr3 := hm9.cell (i := 3) rfl 3 (.bool rd) rfl; have zl1 := hm9.lt (i := 5) rfl; have zl2 := hm9.lt (i := 3) rfl; have HA : Hid True := trivial; have H9 := hideIt (hm9.alloc #[.int .i64 er, .bool fd, .int .i64 va, .int .i64 pt, .slice ka9 ks.length kc9, .slice va9 vs.length vc9, .slice ca9 cs.length cc9] 76); clear hn9 hm9)
         | (go_at_call 61; refine (HTL.out _ (HT.out _ _ A10.out.drew)).mono ?_; rintro e w9 ⟨kv9, vv9, cv9, rfl, hn9⟩; obtain ⟨ka9, kc9, rfl⟩ := As.form0 (hn9.get (i := 0) rfl); obtain ⟨va9, vc9, rfl⟩ := As.form0 (hn9.get (i := 1) rfl); obtain ⟨ca9, cc9, rfl⟩ := As.form0 (hn9.get (i := 2) rfl); have hm9 := A10.out.drew.join hn9; have z3 := hm9.cell (i := 6) rfl 3 (.string f) rfl; have zr0 := hm9.cell (i := 4) rfl 0 (.int .i64 rv) rfl; have zr1 := hm9.cell (i := 4) rfl 1 (.int .i64 rp) rfl; have zr2 := hm9.cell (i := 4) rfl 2 (.string rt) rfl; have zr3 := hm9.cell (i := 4) rfl 3 (.bool rd) rfl; have zl1 := hm9.lt (i := 6) rfl; have zl2 := hm9.lt (i := 4) rfl; have HB : Hid True := trivial; have x0 := hm9.cell (i := 3) rfl 0 (.int .i64 0) rfl; have y0 := hm9.free (i := 3) rfl 0; have x1 := hm9.cell (i := 3) rfl 1 (.bool false) rfl; have y1 := hm9.free (i := 3) rfl 1; have x2 := hm9.cell (i := 3) rfl 2 (.int .i64 0) rfl; have y2 := hm9.free (i := 3) rfl 2; have x3 := hm9.cell (i := 3) rfl 3 (.int .i64 0) rfl; have y3 := hm9.free (i := 3) rfl 3; have x4 := hm9.cell (i := 3) rfl 4 (.slice none 0 0) rfl; have y4 := hm9.free (i := 3) rfl 4; have x5 := hm9.cell (i := 3) rfl 5 (.slice none 0 0) rfl; have y5 := hm9.free (i := 3) rfl 5; have x6 := hm9.cell (i := 3) rfl 6 (.slice none 0 0) rfl; have y6 := hm9.free (i := 3) rfl 6; have H9 := hideIt ((hm9.store7 (i := 3) rfl (.int .i64 er) (.bool fd) (.int .i64 va) (.int .i64 pt) (.slice ka9 ks.length kc9) (.slice va9 vs.length vc9) (.slice ca9 cs.length cc9)).perm (List.perm_middle (l₁ := [_, _, _])).symm); clear hm9 hn9))
       all_goals
         go_wp2
         go_meet
         case rel => first | (have := HA; exact ⟨w9.heap.size, rfl, rfl, _, _, _, rfl, rfl, H9.out⟩) | (have := HB; exact ⟨wc.heap.size, rfl, rfl, _, _, _, rfl, rfl, H9.out⟩)
     case rest =>
       clear A9 A10 hgrl hgdl hnw1 hnw2 hnw3 hnw4 g5 e5 d3 r0 r1 r2 r3 hgr1 hgr2 hM8
       obtain ⟨gx, rfl, rfl, kv, vv, cv', rfl, rfl, hN⟩ := hcut
       obtain ⟨ka, kc2, rfl⟩ := As.form0 (hN.out.get (i := 1) rfl)
       obtain ⟨va2, vc2, rfl⟩ := As.form0 (hN.out.get (i := 2) rfl)
       obtain ⟨ca2, cc2, rfl⟩ := As.form0 (hN.out.get (i := 3) rfl)
       have g11 := hN.out.cell (i := 9) rfl 11 (.bool true) rfl
       go_upto_region 19 with fail
       go_cut [] (fun wy => ∃ cv2 k2 v2 c2, Hid (M w0 B wy (.blk gx #[.int .i64 er, .bool fd, .int .i64 va, .int .i64 pt, .slice ka ks.length kc2, .slice va2 vs.length vc2, .slice ca2 cs.length cc2] 76 :: .row 3 1 (.slice ka ks.length kc2) ks.length (ints ks) :: .row 3 1 (.slice va2 vs.length vc2) vs.length (ints vs) :: .row 142 2 (.slice ca2 cs.length cc2) cs.length (cutc cs) :: .blk gr #[.int .i64 rv, .int .i64 rp, .string rt, .bool rd] 73 :: .blk ga #[.int .i64 ak, .int .i64 ap, .int .i64 av, .string at'] 45 :: LM gd kg kc gw tg tc ug uc vg vc dg dc bg bc nd k key v f tm' (nt + 1) drf' kns' (ts ++ [now]) (now + 1) puts (rf || drf') wt true cv2 ov bs ds T' U' V' (.row 78 18 cv2 (nc + 1) (CL ++ [.string f, .int .i64 ak, .int .i64 ap, .int .i64 av, .string at', .int .i64 rv, .int .i64 rp, .string rt, .bool rd, .string ⟨#[]⟩, .bool true, .int .i64 er, .bool fd, .int .i64 va, .int .i64 pt, k2, v2, c2]) :: .row 142 2 c2 cs.length (cutc cs) :: .row 3 1 v2 vs.length (ints vs) :: .row 3 1 k2 ks.length (ints ks) :: fr))))
       case first =>
         obtain ⟨j0, hj0, hy0, hy1, hy2⟩ := info_parts infoCall
         obtain ⟨ca, cc, rfl⟩ := As.form0 (hN.out.get (i := 15) rfl)
         have HND := hideIt (hN.out.drew.perm (List.perm_middle (l₁ := [_, _, _])))
         obtain ⟨wd, hwd⟩ : ∃ W, wc.drew = W := ⟨_, rfl⟩
         rw [hwd] at HND
         have CP := hideIt (copied_any er va pt fd (.slice ka ks.length kc2) (.slice va2 vs.length vc2) (.slice ca2 cs.length cc2) ks.length vs.length cs.length ks vs cs _ w0 wd B rfl rfl rfl hkl hvl hcl HND.out)
         have g12 := HND.out.cell (i := 9) rfl 12 (.slice ca nc cc) rfl
         refine wp_region_noPanic ?_
         refine wp_region_held_drew (S := (KpS gd ga gr gx f ak ap av at' rv rp rt rd er fd va pt (.slice ka ks.length kc2) (.slice va2 vs.length vc2) (.slice ca2 cs.length cc2))) (by kernel_rfl) ?_ (fun hHeld => ?_)
         · rw [hwd]
           exact (kpS_of HND.out 3 rfl rfl rfl rfl rfl)
         rw [hwd] at hHeld ⊢
         clear hwd
         refine wpAnyH_take (i := 0) (oi := ({ dst := some 130, op := Go.Op.move (Go.Operand.tmp 0), type := 50, pos := "world.go:208", after := #[], guard := none } : Oper)) (v := ?_) rfl (by kernel_rfl) (by kernel_rfl) (by kernel_rfl) (fun _ _ _ h => h) (Or.inl ⟨by rfl, ?_⟩) (by assumption) ?_
         rotate_left 1
         · (intro w hSw; unfold KpS at hSw; first | (go_simp; done) | (go_simp; with_reducible rfl))
         try simp only [Act.put, List.setIfInBounds_toArray, List.set_cons_zero, List.set_cons_succ]
         refine wpAnyH_take (i := 1) (oi := ({ dst := some 131, op := Go.Op.move (Go.Operand.tmp 0), type := 50, pos := "world.go:208", after := #[], guard := none } : Oper)) (v := ?_) rfl (by kernel_rfl) (by kernel_rfl) (by kernel_rfl) (fun _ _ _ h => h) (Or.inl ⟨by rfl, ?_⟩) (by assumption) ?_
         rotate_left 1
         · (intro w hSw; unfold KpS at hSw; first | (go_simp; done) | (go_simp; with_reducible rfl))
         try simp only [Act.put, List.setIfInBounds_toArray, List.set_cons_zero, List.set_cons_succ]
         refine wpAnyH_take (i := 2) (oi := ({ dst := some 132, op := Go.Op.nilCheck (Go.Operand.tmp 131), type := 0, pos := "world.go:208", after := #[{ on := 1, ground := Go.Ground.data }], guard := none } : Oper)) (v := ?_) rfl (by kernel_rfl) (by kernel_rfl) (by kernel_rfl) (fun _ _ _ h => h) (Or.inl ⟨by rfl, ?_⟩) (by assumption) ?_
         rotate_left 1
         · (intro w hSw; unfold KpS at hSw; first | (go_simp; done) | (go_simp; with_reducible rfl))
         try simp only [Act.put, List.setIfInBounds_toArray, List.set_cons_zero, List.set_cons_succ]
         refine wpAnyH_take (i := 3) (oi := ({ dst := some 133, op := Go.Op.fieldAddr 58 (Go.Operand.tmp 132) 12, type := 0, pos := "world.go:208", after := #[{ on := 2, ground := Go.Ground.data }], guard := none } : Oper)) (v := ?_) rfl (by kernel_rfl) (by kernel_rfl) (by kernel_rfl) (fun _ _ _ h => h) (Or.inl ⟨by rfl, ?_⟩) (by assumption) ?_
         rotate_left 1
         · (intro w hSw; unfold KpS at hSw; first | (go_simp; done) | (go_simp; with_reducible rfl))
         try simp only [Act.put, List.setIfInBounds_toArray, List.set_cons_zero, List.set_cons_succ]
         refine wpAnyH_take (i := 5) (oi := ({ dst := some 135, op := Go.Op.move (Go.Operand.tmp 4), type := 81, pos := "world.go:208", after := #[], guard := none } : Oper)) (v := ?_) rfl (by kernel_rfl) (by kernel_rfl) (by kernel_rfl) (fun _ _ _ h => h) (Or.inl ⟨by rfl, ?_⟩) (by assumption) ?_
         rotate_left 1
         · (intro w hSw; unfold KpS at hSw; first | (go_simp; done) | (go_simp; with_reducible rfl))
         try simp only [Act.put, List.setIfInBounds_toArray, List.set_cons_zero, List.set_cons_succ]
         refine wpAnyH_take (i := 6) (oi := ({ dst := some 136, op := Go.Op.nilCheck (Go.Operand.tmp 135), type := 0, pos := "world.go:208", after := #[{ on := 5, ground := Go.Ground.data }], guard := none } : Oper)) (v := ?_) rfl (by kernel_rfl) (by kernel_rfl) (by kernel_rfl) (fun _ _ _ h => h) (Or.inl ⟨by rfl, ?_⟩) (by assumption) ?_
         rotate_left 1
         · (intro w hSw; unfold KpS at hSw; first | (go_simp; done) | (go_simp; with_reducible rfl))
         try simp only [Act.put, List.setIfInBounds_toArray, List.set_cons_zero, List.set_cons_succ]
         refine wpAnyH_take (i := 7) (oi := ({ dst := some 137, op := Go.Op.fieldAddr 84 (Go.Operand.tmp 136) 1, type := 0, pos := "world.go:208", after := #[{ on := 6, ground := Go.Ground.data }], guard := none } : Oper)) (v := ?_) rfl (by kernel_rfl) (by kernel_rfl) (by kernel_rfl) (fun _ _ _ h => h) (Or.inl ⟨by rfl, ?_⟩) (by assumption) ?_
         rotate_left 1
         · (intro w hSw; unfold KpS at hSw; first | (go_simp; done) | (go_simp; with_reducible rfl))
         try simp only [Act.put, List.setIfInBounds_toArray, List.set_cons_zero, List.set_cons_succ]
         refine wpAnyH_take (i := 8) (oi := ({ dst := some 138, op := Go.Op.load 9 (Go.Operand.tmp 137), type := 9, pos := "world.go:208", after := #[{ on := 7, ground := Go.Ground.data }], guard := none } : Oper)) (v := ?_) rfl (by kernel_rfl) (by kernel_rfl) (by kernel_rfl) (fun _ _ _ h => h) (Or.inl ⟨by rfl, ?_⟩) (by assumption) ?_
         rotate_left 1
         · (intro w hSw; unfold KpS at hSw; first | (go_simp; done) | (go_simp; with_reducible rfl))
         try simp only [Act.put, List.setIfInBounds_toArray, List.set_cons_zero, List.set_cons_succ]
         refine wpAnyH_take (i := 9) (oi := ({ dst := some 139, op := Go.Op.load 45 (Go.Operand.tmp 5), type := 45, pos := "world.go:208", after := #[], guard := none } : Oper)) (v := ?_) rfl (by kernel_rfl) (by kernel_rfl) (by kernel_rfl) (fun _ _ _ h => h) (Or.inl ⟨by rfl, ?_⟩) (by assumption) ?_
         rotate_left 1
         · (intro w hSw; unfold KpS at hSw; first | (go_simp; done) | (go_simp; with_reducible rfl))
         try simp only [Act.put, List.setIfInBounds_toArray, List.set_cons_zero, List.set_cons_succ]
         refine wpAnyH_take (i := 10) (oi := ({ dst := some 140, op := Go.Op.load 73 (Go.Operand.tmp 8), type := 73, pos := "world.go:208", after := #[], guard := none } : Oper)) (v := ?_) rfl (by kernel_rfl) (by kernel_rfl) (by kernel_rfl) (fun _ _ _ h => h) (Or.inl ⟨by rfl, ?_⟩) (by assumption) ?_
         rotate_left 1
         · (intro w hSw; unfold KpS at hSw; first | (go_simp; done) | (go_simp; with_reducible rfl))
         try simp only [Act.put, List.setIfInBounds_toArray, List.set_cons_zero, List.set_cons_succ]
         refine wpAnyH_take (i := 11) (oi := ({ dst := some 141, op := Go.Op.move (Go.Operand.tmp 9), type := 9, pos := "world.go:208", after := #[], guard := none } : Oper)) (v := ?_) rfl (by kernel_rfl) (by kernel_rfl) (by kernel_rfl) (fun _ _ _ h => h) (Or.inl ⟨by rfl, ?_⟩) (by assumption) ?_
         rotate_left 1
         · (intro w hSw; unfold KpS at hSw; first | (go_simp; done) | (go_simp; with_reducible rfl))
         try simp only [Act.put, List.setIfInBounds_toArray, List.set_cons_zero, List.set_cons_succ]
         refine wpAnyH_take (i := 12) (oi := ({ dst := some 142, op := Go.Op.move (Go.Operand.tmp 11), type := 4, pos := "world.go:208", after := #[], guard := none } : Oper)) (v := ?_) rfl (by kernel_rfl) (by kernel_rfl) (by kernel_rfl) (fun _ _ _ h => h) (Or.inl ⟨by rfl, ?_⟩) (by assumption) ?_
         rotate_left 1
         · (intro w hSw; unfold KpS at hSw; first | (go_simp; done) | (go_simp; with_reducible rfl))
         try simp only [Act.put, List.setIfInBounds_toArray, List.set_cons_zero, List.set_cons_succ]
         refine wpAnyH_take (i := 13) (oi := ({ dst := some 143, op := Go.Op.load 76 (Go.Operand.tmp 10), type := 76, pos := "world.go:208", after := #[], guard := none } : Oper)) (v := ?_) rfl (by kernel_rfl) (by kernel_rfl) (by kernel_rfl) (fun _ _ _ h => h) (Or.inl ⟨by rfl, ?_⟩) (by assumption) ?_
         rotate_left 1
         · (intro w hSw; unfold KpS at hSw; first | (go_simp; done) | (go_simp; with_reducible rfl))
         try simp only [Act.put, List.setIfInBounds_toArray, List.set_cons_zero, List.set_cons_succ]
         refine wpAnyH_ready (rs := [4, 14]) (by kernel_rfl) (by simp) ?_
         refine AllReadyH.cons (o := ({ dst := some 134, op := Go.Op.load 55 (Go.Operand.tmp 133), type := 55, pos := "world.go:208", after := #[{ on := 3, ground := Go.Ground.data }], guard := none } : Oper)) rfl (fun K hK => ?_) ?_
         go_simp
         refine hK.out _ _ hHeld (fun hHeld2 => ?_)
         clear hK K
         try simp only [Act.put, List.setIfInBounds_toArray, List.set_cons_zero, List.set_cons_succ]
         clear hHeld
         have hHeld := hHeld2
         clear hHeld2
         refine wpAnyH_ready (rs := [14]) (by kernel_rfl) (by simp) ?_
         refine AllReadyH.cons (o := ({ dst := some 144, op := Go.Op.call { callee := Go.Callee.value (Go.Operand.func 85), args := #[Go.Operand.tmp 143], argTypes := #[76] }, type := 76, pos := "world.go:208", after := #[{ on := 13, ground := Go.Ground.data }], guard := none } : Oper)) rfl (fun K hK => ?_) AllReadyH.nil
         go_simp
         refine CP.out.mono ?_
         rintro e w9 ⟨k2, v2, c2, rfl, hm9⟩
         obtain ⟨c2a, c2c, rfl⟩ := As.form0 (hm9.get (i := 0) rfl)
         obtain ⟨v2a, v2c, rfl⟩ := As.form0 (hm9.get (i := 1) rfl)
         obtain ⟨k2a, k2c, rfl⟩ := As.form0 (hm9.get (i := 2) rfl)
         have z12 := hm9.cell (i := 12) rfl 12 (.slice ca nc cc) rfl
         have zlt := hm9.lt (i := 12) rfl
         have H9 := hideIt hm9
         have HB9 := hideIt (hm9.alloc #[.string f, .int .i64 ak, .int .i64 ap, .int .i64 av, .string at', .int .i64 rv, .int .i64 rp, .string rt, .bool rd, .string ⟨#[]⟩, .bool true, .int .i64 er, .bool fd, .int .i64 va, .int .i64 pt, .slice k2a ks.length k2c, .slice v2a vs.length v2c, .slice c2a cs.length c2c] 78)
         clear hm9
         go_wp2_with fail
         refine hK.out _ _ (kpS_of H9.out 6 rfl rfl rfl rfl rfl) (fun hHeld3 => ?_)
         clear hK K
         try simp only [Act.put, List.setIfInBounds_toArray, List.set_cons_zero, List.set_cons_succ]
         clear hHeld
         refine wpAnyH_take (i := 15) (oi := ({ dst := some 145, op := Go.Op.build 78 #[(0, Go.Operand.tmp 138), (1, Go.Operand.tmp 139), (2, Go.Operand.tmp 140), (3, Go.Operand.tmp 141), (4, Go.Operand.tmp 142), (5, Go.Operand.tmp 144)], type := 78, pos := "world.go:208", after := #[{ on := 8, ground := Go.Ground.data }, { on := 9, ground := Go.Ground.data }, { on := 10, ground := Go.Ground.data }, { on := 11, ground := Go.Ground.data }, { on := 12, ground := Go.Ground.data }, { on := 14, ground := Go.Ground.data }], guard := none } : Oper)) (v := ?_) rfl (by kernel_rfl) (by kernel_rfl) (by kernel_rfl) (fun _ _ _ h => h) (Or.inl ⟨by rfl, ?_⟩) (by assumption) ?_
         rotate_left 1
         · (intro w hSw; unfold KpS at hSw; first | (go_simp; done) | (go_simp; with_reducible rfl))
         try simp only [Act.put, List.setIfInBounds_toArray, List.set_cons_zero, List.set_cons_succ]
         refine wpAnyH_ready (rs := [16]) (by kernel_rfl) (by simp) ?_
         refine AllReadyH.cons (o := ({ dst := some 146, op := Go.Op.buildSlice 55 1 #[(0, Go.Operand.tmp 145)], type := 55, pos := "world.go:208", after := #[{ on := 15, ground := Go.Ground.data }], guard := none } : Oper)) rfl (fun K hK => ?_) AllReadyH.nil
         go_simp
         refine hK.out _ _ (kpS_of HB9.out 7 rfl rfl rfl rfl rfl) (fun hHeld4 => ?_)
         clear hK K
         try simp only [Act.put, List.setIfInBounds_toArray, List.set_cons_zero, List.set_cons_succ]
         clear hHeld3
         rotate_left 1
         refine AllReadyH.cons (o := ({ dst := some 144, op := Go.Op.call { callee := Go.Callee.value (Go.Operand.func 85), args := #[Go.Operand.tmp 143], argTypes := #[76] }, type := 76, pos := "world.go:208", after := #[{ on := 13, ground := Go.Ground.data }], guard := none } : Oper)) rfl (fun K hK => ?_) AllReadyH.nil
         go_simp
         refine CP.out.mono ?_
         rintro e w9 ⟨k2, v2, c2, rfl, hm9⟩
         obtain ⟨c2a, c2c, rfl⟩ := As.form0 (hm9.get (i := 0) rfl)
         obtain ⟨v2a, v2c, rfl⟩ := As.form0 (hm9.get (i := 1) rfl)
         obtain ⟨k2a, k2c, rfl⟩ := As.form0 (hm9.get (i := 2) rfl)
         have z12 := hm9.cell (i := 12) rfl 12 (.slice ca nc cc) rfl
         have zlt := hm9.lt (i := 12) rfl
         have H9 := hideIt hm9
         have HB9 := hideIt (hm9.alloc #[.string f, .int .i64 ak, .int .i64 ap, .int .i64 av, .string at', .int .i64 rv, .int .i64 rp, .string rt, .bool rd, .string ⟨#[]⟩, .bool true, .int .i64 er, .bool fd, .int .i64 va, .int .i64 pt, .slice k2a ks.length k2c, .slice v2a vs.length v2c, .slice c2a cs.length c2c] 78)
         clear hm9
         go_wp2_with fail
         refine hK.out _ _ (kpS_of H9.out 6 rfl rfl rfl rfl rfl) (fun hHeld3 => ?_)
         clear hK K
         try simp only [Act.put, List.setIfInBounds_toArray, List.set_cons_zero, List.set_cons_succ]
         clear hHeld
         refine wpAnyH_take (i := 15) (oi := ({ dst := some 145, op := Go.Op.build 78 #[(0, Go.Operand.tmp 138), (1, Go.Operand.tmp 139), (2, Go.Operand.tmp 140), (3, Go.Operand.tmp 141), (4, Go.Operand.tmp 142), (5, Go.Operand.tmp 144)], type := 78, pos := "world.go:208", after := #[{ on := 8, ground := Go.Ground.data }, { on := 9, ground := Go.Ground.data }, { on := 10, ground := Go.Ground.data }, { on := 11, ground := Go.Ground.data }, { on := 12, ground := Go.Ground.data }, { on := 14, ground := Go.Ground.data }], guard := none } : Oper)) (v := ?_) rfl (by kernel_rfl) (by kernel_rfl) (by kernel_rfl) (fun _ _ _ h => h) (Or.inl ⟨by rfl, ?_⟩) (by assumption) ?_
         rotate_left 1
         · (intro w hSw; unfold KpS at hSw; first | (go_simp; done) | (go_simp; with_reducible rfl))
         try simp only [Act.put, List.setIfInBounds_toArray, List.set_cons_zero, List.set_cons_succ]
         refine wpAnyH_ready (rs := [4, 16]) (by kernel_rfl) (by simp) ?_
         refine AllReadyH.cons (o := ({ dst := some 134, op := Go.Op.load 55 (Go.Operand.tmp 133), type := 55, pos := "world.go:208", after := #[{ on := 3, ground := Go.Ground.data }], guard := none } : Oper)) rfl (fun K hK => ?_) ?_
         go_simp
         refine hK.out _ _ hHeld3 (fun hHeld2 => ?_)
         clear hK K
         try simp only [Act.put, List.setIfInBounds_toArray, List.set_cons_zero, List.set_cons_succ]
         clear hHeld3
         have hHeld3 := hHeld2
         clear hHeld2
         refine wpAnyH_ready (rs := [16]) (by kernel_rfl) (by simp) ?_
         refine AllReadyH.cons (o := ({ dst := some 146, op := Go.Op.buildSlice 55 1 #[(0, Go.Operand.tmp 145)], type := 55, pos := "world.go:208", after := #[{ on := 15, ground := Go.Ground.data }], guard := none } : Oper)) rfl (fun K hK => ?_) AllReadyH.nil
         go_simp
         refine hK.out _ _ (kpS_of HB9.out 7 rfl rfl rfl rfl rfl) (fun hHeld4 => ?_)
         clear hK K
         try simp only [Act.put, List.setIfInBounds_toArray, List.set_cons_zero, List.set_cons_succ]
         clear hHeld3
         rotate_left 1
         refine AllReadyH.cons (o := ({ dst := some 146, op := Go.Op.buildSlice 55 1 #[(0, Go.Operand.tmp 145)], type := 55, pos := "world.go:208", after := #[{ on := 15, ground := Go.Ground.data }], guard := none } : Oper)) rfl (fun K hK => ?_) AllReadyH.nil
         go_simp
         refine hK.out _ _ (kpS_of HB9.out 7 rfl rfl rfl rfl rfl) (fun hHeld4 => ?_)
         clear hK K
         try simp only [Act.put, List.setIfInBounds_toArray, List.set_cons_zero, List.set_cons_succ]
         clear hHeld3
         have g12b := HB9.out.cell (i := 13) rfl 12 (.slice ca nc cc) rfl
         refine wpAnyH_ready (rs := [4]) (by kernel_rfl) (by simp) ?_
         refine AllReadyH.cons (o := ({ dst := some 134, op := Go.Op.load 55 (Go.Operand.tmp 133), type := 55, pos := "world.go:208", after := #[{ on := 3, ground := Go.Ground.data }], guard := none } : Oper)) rfl (fun K hK => ?_) AllReadyH.nil
         go_simp
         refine hK.out _ _ hHeld4 (fun hHeld2 => ?_)
         clear hK K
         try simp only [Act.put, List.setIfInBounds_toArray, List.set_cons_zero, List.set_cons_succ]
         clear hHeld4
         have hHeld4 := hHeld2
         clear hHeld2
         all_goals
           refine wpAnyH_ready (rs := [17]) (by kernel_rfl) (by simp) ?_
           refine AllReadyH.cons (o := ({ dst := some 147, op := Go.Op.call { callee := Go.Callee.builtin Go.Builtin.append, args := #[Go.Operand.tmp 134, Go.Operand.tmp 146], argTypes := #[55, 55] }, type := 55, pos := "world.go:208", after := #[{ on := 4, ground := Go.Ground.data }, { on := 16, ground := Go.Ground.data }, { on := 14, ground := Go.Ground.chain }], guard := none } : Oper)) rfl (fun K hK => ?_) AllReadyH.nil
           refine step_append_lies _ rfl _ _ 55 rfl B 78 j0 (.agg #[.string ⟨#[]⟩, .int .i64 0, .int .i64 0, .int .i64 0, .string ⟨#[]⟩, .int .i64 0, .int .i64 0, .string ⟨#[]⟩, .bool false, .string ⟨#[]⟩, .bool false, .int .i64 0, .bool false, .int .i64 0, .int .i64 0, .slice none 0 0, .slice none 0 0, .slice none 0 0]) 18 224 Tryd.underlying55 hj0 hy0 hy1 hy2 rfl (by decide) (.slice ca nc cc) nc CL rfl (HB9.out.get (i := 19) rfl) ⟨_, 0, none⟩ 1 1 [.string f, .int .i64 ak, .int .i64 ap, .int .i64 av, .string at', .int .i64 rv, .int .i64 rp, .string rt, .bool rd, .string ⟨#[]⟩, .bool true, .int .i64 er, .bool fd, .int .i64 va, .int .i64 pt, .slice k2a ks.length k2c, .slice v2a vs.length v2c, .slice c2a cs.length c2c] rfl rfl (World.news_of_block (cs := #[.string f, .int .i64 ak, .int .i64 ap, .int .i64 av, .string at', .int .i64 rv, .int .i64 rp, .string rt, .bool rd, .string ⟨#[]⟩, .bool true, .int .i64 er, .bool fd, .int .i64 va, .int .i64 pt, .slice k2a ks.length k2c, .slice v2a vs.length v2c, .slice c2a cs.length c2c]) (HB9.out.block (i := 0) rfl)) (by simp [Value.oneCell']) (by omega) (by unfold maxLen; omega) (by omega) HB9.out.sz _ rfl ?_
           intro g1 cap1 w10 hown hgrow hat hlt1
           have hm := HB9.out.lies (i := 19) rfl hown hgrow hat
           clear hown hgrow hat
           have uw := hm.cell (i := 13) rfl 12 (.slice ca nc cc) rfl
           have uf := hm.free (i := 13) rfl 12
           have HM10 := hideIt hm
           have H1 := hideIt (hm.store (i := 13) (j := 12) rfl (.slice (some ⟨g1, 0, none⟩) (nc + 1) cap1) rfl)
           clear hm
           refine hK.out _ _ (kpS_of HM10.out 7 rfl rfl rfl rfl rfl) (fun hHeld5 => ?_)
           clear hK K
           try simp only [Act.put, List.setIfInBounds_toArray, List.set_cons_zero, List.set_cons_succ]
           clear hHeld4
           refine wpAnyH_take (i := 18) (oi := ({ dst := some 148, op := Go.Op.nilCheck (Go.Operand.tmp 130), type := 0, pos := "world.go:208", after := #[{ on := 0, ground := Go.Ground.data }, { on := 0, ground := Go.Ground.phase }, { on := 1, ground := Go.Ground.phase }, { on := 2, ground := Go.Ground.phase }, { on := 3, ground := Go.Ground.phase }, { on := 4, ground := Go.Ground.phase }, { on := 5, ground := Go.Ground.phase }, { on := 6, ground := Go.Ground.phase }, { on := 7, ground := Go.Ground.phase }, { on := 8, ground := Go.Ground.phase }, { on := 9, ground := Go.Ground.phase }, { on := 10, ground := Go.Ground.phase }, { on := 11, ground := Go.Ground.phase }, { on := 12, ground := Go.Ground.phase }, { on := 13, ground := Go.Ground.phase }, { on := 14, ground := Go.Ground.phase }, { on := 15, ground := Go.Ground.phase }, { on := 16, ground := Go.Ground.phase }, { on := 17, ground := Go.Ground.phase }], guard := none } : Oper)) (v := ?_) rfl (by kernel_rfl) (by kernel_rfl) (by kernel_rfl) (fun _ _ _ h => h) (Or.inl ⟨by rfl, ?_⟩) (by assumption) ?_
           rotate_left 1
           · (intro w hSw; unfold KpS at hSw; first | (go_simp; done) | (go_simp; with_reducible rfl))
           try simp only [Act.put, List.setIfInBounds_toArray, List.set_cons_zero, List.set_cons_succ]
           refine wpAnyH_take (i := 19) (oi := ({ dst := some 149, op := Go.Op.fieldAddr 58 (Go.Operand.tmp 148) 12, type := 0, pos := "world.go:208", after := #[{ on := 18, ground := Go.Ground.data }, { on := 0, ground := Go.Ground.phase }, { on := 1, ground := Go.Ground.phase }, { on := 2, ground := Go.Ground.phase }, { on := 3, ground := Go.Ground.phase }, { on := 4, ground := Go.Ground.phase }, { on := 5, ground := Go.Ground.phase }, { on := 6, ground := Go.Ground.phase }, { on := 7, ground := Go.Ground.phase }, { on := 8, ground := Go.Ground.phase }, { on := 9, ground := Go.Ground.phase }, { on := 10, ground := Go.Ground.phase }, { on := 11, ground := Go.Ground.phase }, { on := 12, ground := Go.Ground.phase }, { on := 13, ground := Go.Ground.phase }, { on := 14, ground := Go.Ground.phase }, { on := 15, ground := Go.Ground.phase }, { on := 16, ground := Go.Ground.phase }, { on := 17, ground := Go.Ground.phase }], guard := none } : Oper)) (v := ?_) rfl (by kernel_rfl) (by kernel_rfl) (by kernel_rfl) (fun _ _ _ h => h) (Or.inl ⟨by rfl, ?_⟩) (by assumption) ?_
           rotate_left 1
           · (intro w hSw; unfold KpS at hSw; first | (go_simp; done) | (go_simp; with_reducible rfl))
           try simp only [Act.put, List.setIfInBounds_toArray, List.set_cons_zero, List.set_cons_succ]
           refine wpAnyH_ready (rs := [20]) (by kernel_rfl) (by simp) ?_
           refine AllReadyH.cons (o := ({ dst := none, op := Go.Op.store 55 (Go.Operand.tmp 149) (Go.Operand.tmp 147), type := 0, pos := "world.go:208", after := #[{ on := 19, ground := Go.Ground.data }, { on := 17, ground := Go.Ground.data }, { on := 17, ground := Go.Ground.chain }, { on := 0, ground := Go.Ground.phase }, { on := 1, ground := Go.Ground.phase }, { on := 2, ground := Go.Ground.phase }, { on := 3, ground := Go.Ground.phase }, { on := 4, ground := Go.Ground.phase }, { on := 5, ground := Go.Ground.phase }, { on := 6, ground := Go.Ground.phase }, { on := 7, ground := Go.Ground.phase }, { on := 8, ground := Go.Ground.phase }, { on := 9, ground := Go.Ground.phase }, { on := 10, ground := Go.Ground.phase }, { on := 11, ground := Go.Ground.phase }, { on := 12, ground := Go.Ground.phase }, { on := 13, ground := Go.Ground.phase }, { on := 14, ground := Go.Ground.phase }, { on := 15, ground := Go.Ground.phase }, { on := 16, ground := Go.Ground.phase }, { on := 17, ground := Go.Ground.phase }], guard := none } : Oper)) rfl (fun K hK => ?_) AllReadyH.nil
           go_simp
           refine hK.out _ _ (kpS_of H1.out 7 rfl rfl rfl rfl rfl) (fun hHeld6 => ?_)
           clear hK K
           try simp only [Act.put, List.setIfInBounds_toArray, List.set_cons_zero, List.set_cons_succ]
           clear hHeld5
           refine wpAnyH_done (by kernel_rfl) ?_ _
           refine NoPanic.normal ?_
           go_wp2
           go_meet
           case rel => exact ⟨_, _, _, _, (M.kept (R := [_, _, _]) (K := [_, _, _]) (P := [_, _, _, _, _, _, _, _, _, _, _, _]) H1.out).perm (List.perm_middle (l₁ := [_, _, _])).symm⟩
       case rest =>
         clear hN g11
         obtain ⟨cv2, k2, v2, c2, hN⟩ := hcut
         have g4 := hN.out.cell (i := 9) rfl 4 (.slice (some ⟨bg, 0, none⟩) 64 bc) rfl
         have b0 := hN.out.rowCell (i := 10) rfl c (.int .i64 i) HBC.out
         have bf := hN.out.rowFree (i := 10) rfl c
         have d3 := hN.out.cell (i := 6) rfl 3 (.string f) rfl
         have e3 := hN.out.free (i := 6) rfl 3
         have d7 := hN.out.cell (i := 6) rfl 7 (.bool false) rfl
         have e7 := hN.out.free (i := 6) rfl 7
         have d8 := hN.out.cell (i := 6) rfl 8 (.int .i64 0) rfl
         have e8 := hN.out.free (i := 6) rfl 8
         have d9 := hN.out.cell (i := 6) rfl 9 (.bool false) rfl
         have e9 := hN.out.free (i := 6) rfl 9
         have d10 := hN.out.cell (i := 6) rfl 10 (.int .i64 0) rfl
         have e10 := hN.out.free (i := 6) rfl 10
         have d11 := hN.out.cell (i := 6) rfl 11 (.int .i64 0) rfl
         have e11 := hN.out.free (i := 6) rfl 11
         have d12 := hN.out.cell (i := 6) rfl 12 (.slice none 0 0) rfl
         have e12 := hN.out.free (i := 6) rfl 12
         have d13 := hN.out.cell (i := 6) rfl 13 (.slice none 0 0) rfl
         have e13 := hN.out.free (i := 6) rfl 13
         have d14 := hN.out.cell (i := 6) rfl 14 (.slice none 0 0) rfl
         have e14 := hN.out.free (i := 6) rfl 14
         have x0 := hN.out.cell (i := 0) rfl 0 (.int .i64 er) rfl
         have x1 := hN.out.cell (i := 0) rfl 1 (.bool fd) rfl
         have x2 := hN.out.cell (i := 0) rfl 2 (.int .i64 va) rfl
         have x3 := hN.out.cell (i := 0) rfl 3 (.int .i64 pt) rfl
         have x4 := hN.out.cell (i := 0) rfl 4 (.slice ka ks.length kc2) rfl
         have x5 := hN.out.cell (i := 0) rfl 5 (.slice va2 vs.length vc2) rfl
         have x6 := hN.out.cell (i := 0) rfl 6 (.slice ca2 cs.length cc2) rfl
         have hne1 := hN.out.bne (i := 0) (j := 6) rfl rfl (by omega)
         have hne2 := hN.out.bne (i := 6) (j := 9) rfl rfl (by omega)
         have hne3 : gd ≠ gx := fun e => hne1 e.symm
         have hne4 : gw ≠ gd := fun e => hne2 e.symm
         have hne5 := hN.out.ne (i := 6) (j := 10) rfl rfl
         have hne6 := hN.out.ne (i := 9) (j := 10) rfl rfl
         have hne7 : bg ≠ gd := fun e => hne5 e.symm
         have hne8 : bg ≠ gw := fun e => hne6 e.symm
         have S1 := hN.out.store (i := 6) (j := 3) rfl (.string ⟨#[]⟩) (c' := DC k key v ⟨#[]⟩ tm' (.slice (some ⟨kg, 0, none⟩) 64 kc) drf' false 0 false 0 0 (.slice none 0 0) (.slice none 0 0) (.slice none 0 0)) rfl
         have S2 := S1.store (i := 6) (j := 7) rfl (.bool true) (c' := DC k key v ⟨#[]⟩ tm' (.slice (some ⟨kg, 0, none⟩) 64 kc) drf' true 0 false 0 0 (.slice none 0 0) (.slice none 0 0) (.slice none 0 0)) rfl
         have Sa0 := S2.store (i := 6) (j := 8) rfl (.int .i64 er) (c' := DC k key v ⟨#[]⟩ tm' (.slice (some ⟨kg, 0, none⟩) 64 kc) drf' true er false 0 0 (.slice none 0 0) (.slice none 0 0) (.slice none 0 0)) rfl
         have Sa1 := Sa0.store (i := 6) (j := 9) rfl (.bool fd) (c' := DC k key v ⟨#[]⟩ tm' (.slice (some ⟨kg, 0, none⟩) 64 kc) drf' true er fd 0 0 (.slice none 0 0) (.slice none 0 0) (.slice none 0 0)) rfl
         have Sa2 := Sa1.store (i := 6) (j := 10) rfl (.int .i64 va) (c' := DC k key v ⟨#[]⟩ tm' (.slice (some ⟨kg, 0, none⟩) 64 kc) drf' true er fd va 0 (.slice none 0 0) (.slice none 0 0) (.slice none 0 0)) rfl
         have Sa3 := Sa2.store (i := 6) (j := 11) rfl (.int .i64 pt) (c' := DC k key v ⟨#[]⟩ tm' (.slice (some ⟨kg, 0, none⟩) 64 kc) drf' true er fd va pt (.slice none 0 0) (.slice none 0 0) (.slice none 0 0)) rfl
         have Sa4 := Sa3.store (i := 6) (j := 12) rfl (.slice ka ks.length kc2) (c' := DC k key v ⟨#[]⟩ tm' (.slice (some ⟨kg, 0, none⟩) 64 kc) drf' true er fd va pt (.slice ka ks.length kc2) (.slice none 0 0) (.slice none 0 0)) rfl
         have Sa5 := Sa4.store (i := 6) (j := 13) rfl (.slice va2 vs.length vc2) (c' := DC k key v ⟨#[]⟩ tm' (.slice (some ⟨kg, 0, none⟩) 64 kc) drf' true er fd va pt (.slice ka ks.length kc2) (.slice va2 vs.length vc2) (.slice none 0 0)) rfl
         have S3 := Sa5.store (i := 6) (j := 14) rfl (.slice ca2 cs.length cc2) (c' := DC k key v ⟨#[]⟩ tm' (.slice (some ⟨kg, 0, none⟩) 64 kc) drf' true er fd va pt (.slice ka ks.length kc2) (.slice va2 vs.length vc2) (.slice ca2 cs.length cc2)) rfl
         have S4 := hideIt (S3.storeRow (i := 10) (j := c) rfl (.int .i64 (-1)))
         clear hN S1 S2 S3 Sa0 Sa1 Sa2 Sa3 Sa4 Sa5
         go_wp2
         refine bodyPost_end (results_none Tryd.results56 _ _ _) rfl ⟨⟨_, rfl⟩, tm', .slice ka ks.length kc2, .slice va2 vs.length vc2, .slice ca2 cs.length cc2, cv2, k2, v2, c2, ?_⟩
         have S5 := S4.out.sub (List.sublist_cons_self _ _)
         have S6 := S5.sub (List.Sublist.cons_cons _ (List.Sublist.cons_cons _ (List.Sublist.cons_cons _ (List.Sublist.trans (List.sublist_cons_self _ _) (List.sublist_cons_self _ _)))))
         unfold LE
         rw [← ints_setx]
         exact S6
end Go.Proofs.YtajobgmnmbnhiaaDoor.Sap
