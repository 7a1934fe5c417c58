/- WHAT IS PROVED HERE: saplingkeep's move: one access of an operation, whatever it is, where Tell has ended and nothing is watched or kept. Conditions: what Next, legal, act, learns and Tell answer there is given. -/
import Derived.Test.YtajobgmnmbnhiaaGreatDoorPt24
import Derived.Test.YtajobgmnmbnhiaaGreatDoorPt31
namespace Go.Proofs.YtajobgmnmbnhiaaGreatDoor.Sap
open Go.RowKit
def LE (gd kg kc gw tg tc ug uc vg vc dg dc bg bc nd : Nat) (k key v : Int) (tm : Value) (nt : Nat) (drf : Bool) (er : Int) (fd : Bool) (va pt : Int) (kv vv cv' : Value) (ks vs : List Int) (cs : List (Int × Int)) (kns ts : List Int) (now puts : Int) (rf wt kp : Bool) (cv ov : Value) (bs : List Int) (ds : List Value) (T : List ByteArray) (U : List Bool) (V : List Int) (fr : List As) : List As :=
  .row 3 1 kv ks.length (ints ks) :: .row 3 1 vv vs.length (ints vs) :: .row 76 2 cv' cs.length (cutc cs) :: .blk gd (DC k key v ⟨#[]⟩ tm (.slice (some ⟨kg, 0, none⟩) 64 kc) drf true er fd va pt kv vv cv') 48 :: .row 3 1 (.slice (some ⟨kg, 0, none⟩) 64 kc) 64 (ints kns) :: .row 3 1 tm nt (ints ts) :: .blk gw (WC (.slice (some ⟨tg, 0, none⟩) 64 tc) (.slice (some ⟨ug, 0, none⟩) 64 uc) (.slice (some ⟨vg, 0, none⟩) 64 vc) (.slice (some ⟨dg, 0, none⟩) nd dc) (.slice (some ⟨bg, 0, none⟩) 64 bc) now puts rf false wt false kp cv ov false) 34 :: .row 3 1 (.slice (some ⟨bg, 0, none⟩) 64 bc) 64 (ints bs) :: .row 40 1 (.slice (some ⟨dg, 0, none⟩) nd dc) nd ds :: .row 9 1 (.slice (some ⟨tg, 0, none⟩) 64 tc) 64 (strs T) :: .row 4 1 (.slice (some ⟨ug, 0, none⟩) 64 uc) 64 (bools U) :: .row 3 1 (.slice (some ⟨vg, 0, none⟩) 64 vc) 64 (ints V) :: fr
theorem ints_setx (L : List Int) (i : Nat) (x : Int) : (ints L).set i (.int .i64 x) = ints (L.set i x) := by simp [ints, List.map_set]
set_option maxRecDepth 100000 in
set_option maxHeartbeats 6400000 in
theorem move_end (gd kg kc nt gw tg tc ug uc vg vc dg dc bg bc nd i c : Nat) (cv ov : Value) (now puts : Int) (k key v ak ap av rv rp : Int) (f at' rt : ByteArray) (rd drf drf' rf wt : Bool) (kns kns' bs V V' : List Int) (ds : List Value) (ts : List Int) (T T' : List ByteArray) (U U' : List Bool) (tm : Value) (er : Int) (fd : Bool) (va pt : Int) (ks vs : List Int) (cs : List (Int × Int)) (fr : List As) (w0 w : World) (B : Nat) (htab : Tab w0) (hB : B = w0.heap.size)
    (hc : c < 64) (hb : bs[c]? = some (i : Int)) (hD : ds[i]? = some (.pointer (some ⟨gd, 0, none⟩))) (_hnd : nd ≤ 100000000) (hdl : ds.length = nd) (hnt : nt ≤ 100000000) (hnw : 0 ≤ now ∧ now ≤ 100000000000)
    (hNext : ∀ W, Tab W → Calls Tryz.prog 42 #[.string f] W fun e w' => e = .returned (.tuple #[.agg #[.int .i64 ak, .int .i64 ap, .int .i64 av, .string at'], .int .i64 0]) ∧ Below W.heap.size W w')
    (hLegal : ∀ W ga, M w0 B W (.blk ga #[.int .i64 ak, .int .i64 ap, .int .i64 av, .string at'] 94 :: LM gd kg kc gw tg tc ug uc vg vc dg dc bg bc nd k key v f tm nt drf kns ts now puts rf wt false cv ov bs ds T U V fr) → Calls Tryz.prog 43 #[.pointer (some ⟨gw, 0, none⟩), .pointer (some ⟨gd, 0, none⟩), .agg #[.int .i64 ak, .int .i64 ap, .int .i64 av, .string at']] W fun e w' => e = .returned (.bool true) ∧ Below W.heap.size W w')
    (hAct : ∀ W ga, M w0 B W (.blk ga #[.int .i64 ak, .int .i64 ap, .int .i64 av, .string at'] 94 :: LM gd kg kc gw tg tc ug uc vg vc dg dc bg bc nd k key v f tm nt drf kns ts now puts rf wt false cv ov bs ds T U V fr) → Calls Tryz.prog 44 #[.pointer (some ⟨gw, 0, none⟩), .agg #[.int .i64 ak, .int .i64 ap, .int .i64 av, .string at']] W fun e w' => e = .returned (.agg #[.int .i64 rv, .int .i64 rp, .string rt, .bool rd]) ∧ M w0 B w' (.blk ga #[.int .i64 ak, .int .i64 ap, .int .i64 av, .string at'] 94 :: LM gd kg kc gw tg tc ug uc vg vc dg dc bg bc nd k key v f tm nt drf kns ts now puts rf wt false cv ov bs ds T' U' V' fr))
    (hLearns : ∀ W ga gr, M w0 B W (.blk gr #[.int .i64 rv, .int .i64 rp, .string rt, .bool rd] 99 :: .blk ga #[.int .i64 ak, .int .i64 ap, .int .i64 av, .string at'] 94 :: LM gd kg kc gw tg tc ug uc vg vc dg dc bg bc nd k key v f tm nt drf kns ts now puts rf wt false cv ov bs ds T' U' V' fr) → Calls Tryz.prog 45 #[.pointer (some ⟨gd, 0, none⟩), .agg #[.int .i64 ak, .int .i64 ap, .int .i64 av, .string at'], .agg #[.int .i64 rv, .int .i64 rp, .string rt, .bool rd]] W fun e w' => (∃ u, e = .returned u) ∧ M w0 B w' (.blk gr #[.int .i64 rv, .int .i64 rp, .string rt, .bool rd] 99 :: .blk ga #[.int .i64 ak, .int .i64 ap, .int .i64 av, .string at'] 94 :: LM gd kg kc gw tg tc ug uc vg vc dg dc bg bc nd k key v f tm nt drf' kns' ts now puts rf wt false cv ov bs ds T' U' V' fr))
    (hStands : wt = true → ak ≠ 1 → ∀ W ga gr, M w0 B W (.blk gr #[.int .i64 rv, .int .i64 rp, .string rt, .bool rd] 99 :: .blk ga #[.int .i64 ak, .int .i64 ap, .int .i64 av, .string at'] 94 :: LM gd kg kc gw tg tc ug uc vg vc dg dc bg bc nd k key v f tm nt drf' kns' ts now puts rf wt false cv ov bs ds T' U' V' fr) → Calls Tryz.prog 46 #[.pointer (some ⟨gw, 0, none⟩)] W fun e w' => e = .returned (.bool true) ∧ Below W.heap.size W w')
    (hTell : ∀ W, Tab W → Calls Tryz.prog 47 #[.string f, .agg #[.int .i64 rv, .int .i64 rp, .string rt, .bool rd]] W fun e w' => FinR er fd va pt ks vs cs W w' e)
    (h : M w0 B w (LM gd kg kc gw tg tc ug uc vg vc dg dc bg bc nd k key v f tm nt drf kns ts now puts rf wt false cv ov bs ds T U V fr)) :
    Calls Tryz.prog 28 #[.pointer (some ⟨gw, 0, none⟩), .int .i64 c] w fun e w' => (∃ u, e = .returned u) ∧ ∃ tm' kv vv cv', M w0 B w' (LE gd kg kc gw tg tc ug uc vg vc dg dc bg bc nd k key v tm' (nt + 1) drf' er fd va pt kv vv cv' ks vs cs kns' (ts ++ [now]) (now + 1) puts (rf || drf') wt false cv ov (bs.set c (-1)) ds T' U' V' fr) := by
  obtain ⟨i0, hi0, hz0, hz1, hz2⟩ := info_parts infoInt
  obtain ⟨ta, tcp, rfl⟩ := As.form0 (h.get (i := 2) rfl)
  obtain ⟨hn0, hn1⟩ := hnw
  have hi1 : i < nd := by rw [← hdl]; exact (List.getElem?_eq_some_iff.1 hD).1
  have hii : (i : Int) < (nd : Int) := by omega
  have hi2 : (0 : Int) ≤ (i : Int) := by omega
  have hc0 : (0 : Int) ≤ (c : Int) := by omega
  have hc1 : (c : Int) < 64 := by omega
  have q3 := h.cell (i := 3) rfl 3 (.slice (some ⟨dg, 0, none⟩) nd dc) rfl
  have q4 := h.cell (i := 3) rfl 4 (.slice (some ⟨bg, 0, none⟩) 64 bc) rfl
  have b0 := h.rowCell (i := 4) rfl c (.int .i64 i) (by simp [ints, hb])
  have d0 := h.rowCell (i := 5) rfl i _ hD
  have d3 := h.cell (i := 0) rfl 3 (.string f) rfl
  have HBC : Hid ((ints bs)[c]? = some (.int .i64 i)) := by unfold Hid; simp [ints, hb]
  have HM := hideIt h
  have HT : Hid (∀ W l, M w0 B W l → Tab W) := fun W l hm => htab.below (hB ▸ hm.bl)
  have CN := hideIt hNext
  have CL := hideIt hLegal
  have CA := hideIt hAct
  have CE := hideIt hLearns
  have CST := hideIt hStands
  have HTL := hideIt hTell
  clear h htab hB hD hdl hTell hNext hLegal hAct hLearns hStands hb
  go_enter Tryz.func28, Tryz.ntmps28
  go_wp2
  go_quiet (fail)
  go_wp2_with fail
  refine (CN.out _ (HT.out _ _ (HM.out.drewN _))).mono ?_
  rintro e w1 ⟨rfl, hb⟩
  have A1 := hideIt ((HM.out.drewN _).below hb)
  clear hb HM CN q3 q4 b0 d0 d3
  have A2 := hideIt (A1.out.alloc #[.int .i64 ak, .int .i64 ap, .int .i64 av, .string at'] 94)
  obtain ⟨ga, hga⟩ : ∃ g, w1.heap.size = g := ⟨_, rfl⟩
  rw [hga] at A2
  go_wp2_with fail
  refine (CL.out _ ga A2.out).mono ?_
  rintro e w2 ⟨rfl, hb⟩
  have A3 := hideIt (A2.out.below hb)
  clear hb A2 A1 hga CL
  have a0 := A3.out.cell (i := 0) rfl 0 (.int .i64 ak) rfl
  have a1 := A3.out.cell (i := 0) rfl 1 (.int .i64 ap) rfl
  have a2 := A3.out.cell (i := 0) rfl 2 (.int .i64 av) rfl
  have a3 := A3.out.cell (i := 0) rfl 3 (.string at') rfl
  go_wp2_with fail
  refine (CA.out _ ga A3.out).mono ?_
  rintro e w3 ⟨rfl, hM3⟩
  have A4 := hideIt hM3
  clear hM3 A3 a0 a1 a2 a3 CA
  have a0 := A4.out.cell (i := 0) rfl 0 (.int .i64 ak) rfl
  have a1 := A4.out.cell (i := 0) rfl 1 (.int .i64 ap) rfl
  have a2 := A4.out.cell (i := 0) rfl 2 (.int .i64 av) rfl
  have a3 := A4.out.cell (i := 0) rfl 3 (.string at') rfl
  have hlg := A4.out.lt (i := 0) rfl
  have A5 := hideIt (A4.out.alloc #[.int .i64 rv, .int .i64 rp, .string rt, .bool rd] 99)
  go_wp2_with fail
  obtain ⟨gr, hgr⟩ : ∃ g, w3.heap.size = g := ⟨_, rfl⟩
  rw [hgr] at A5 ⊢
  refine (CE.out _ ga gr A5.out).mono ?_
  rintro e w4 ⟨⟨u, rfl⟩, hM4⟩
  have A6 := hideIt hM4
  clear hM4 A5 A4 a0 a1 a2 a3 hgr hlg CE
  have g9 := A6.out.cell (i := 5) rfl 9 (.bool wt) rfl
  have g10 := A6.out.cell (i := 5) rfl 10 (.bool false) rfl
  have ak0 := A6.out.cell (i := 1) rfl 0 (.int .i64 ak) rfl
  go_upto_region 9 with fail
  go_cut [63] (fun u wy => u = .bool (wt && (ak != 1)) ∧ wy = w4)
  case first =>
    cases wt
    all_goals
      go_wp2
      go_meet
      case rel => exact ⟨by simp, rfl⟩
  case rest =>
  obtain ⟨rfl, rfl⟩ := hcut
  obtain ⟨bb, hbb⟩ : ∃ b, (wt && (ak != 1)) = b := ⟨_, rfl⟩
  have HBB := hideIt hbb
  rw [hbb]
  clear hbb
  go_upto_if 63 with fail
  go_cut [] (fun wy => Hid (M w0 B wy (.blk gr #[.int .i64 rv, .int .i64 rp, .string rt, .bool rd] 99 :: .blk ga #[.int .i64 ak, .int .i64 ap, .int .i64 av, .string at'] 94 :: LM gd kg kc gw tg tc ug uc vg vc dg dc bg bc nd k key v f (.slice ta nt tcp) nt drf' kns' ts now puts rf wt false cv ov bs ds T' U' V' fr)))
  case first =>
    cases bb
    · go_wp2
      go_meet
      case rel => exact A6.out
    · have hb1 : wt = true ∧ ak ≠ 1 := by have := HBB.out; simp at this; exact this
      have CS2 := hideIt (CST.out hb1.1 hb1.2 _ ga gr A6.out)
      clear hb1
      go_wp2_with fail
      refine CS2.out.mono ?_
      rintro e w5 ⟨rfl, hb⟩
      have B6 := hideIt (A6.out.below hb)
      clear hb CS2 g9 g10 ak0
      have g10 := B6.out.cell (i := 5) rfl 10 (.bool false) rfl
      have f10 := B6.out.free (i := 5) rfl 10
      have S10 := hideIt (B6.out.store (i := 5) (j := 10) rfl (.bool false) rfl)
      go_wp2
      go_meet
      case rel => exact S10.out
  case rest =>
   have B6 := hideIt hcut.out
   clear hcut A6 g9 g10 ak0 CST
   have A6 := hideIt B6.out
   clear B6
   have g7 := A6.out.cell (i := 5) rfl 7 (.bool rf) rfl
   have g5 := A6.out.cell (i := 5) rfl 5 (.int .i64 now) rfl
   have d6 := A6.out.cell (i := 2) rfl 6 (.bool drf') rfl
   have d4 := A6.out.cell (i := 2) rfl 4 (.slice ta nt tcp) rfl
   have e7 := A6.out.free (i := 5) rfl 7
   have hgg := A6.out.bne (i := 2) (j := 5) rfl rfl (by omega)
   have hgg' : gw ≠ gd := fun e => hgg e.symm
   have A7 := hideIt (A6.out.store (i := 5) (j := 7) rfl (.bool (rf || drf')) rfl)
   have hlw := A6.out.lt (i := 5) rfl
   have hld := A6.out.lt (i := 2) rfl
   go_upto_region 12 with fail
   go_cut [] (fun wy => Hid (M w0 B wy (.blk gr #[.int .i64 rv, .int .i64 rp, .string rt, .bool rd] 99 :: .blk ga #[.int .i64 ak, .int .i64 ap, .int .i64 av, .string at'] 94 :: LM gd kg kc gw tg tc ug uc vg vc dg dc bg bc nd k key v f (.slice ta nt tcp) nt drf' kns' ts now puts (rf || drf') wt false cv ov bs ds T' U' V' fr)))
   case first =>
     cases rf
     all_goals
       go_wp2
       go_meet
       case rel => exact A7.out
   case rest =>
    have A8 := hideIt hcut.out
    clear hcut A6 A7 g7 g5 d6 d4 e7 hlw hld
    have g5 := A8.out.cell (i := 5) rfl 5 (.int .i64 now) rfl
    have d4 := A8.out.cell (i := 2) rfl 4 (.slice ta nt tcp) rfl
    have hlw := A8.out.lt (i := 5) rfl
    have hld := A8.out.lt (i := 2) rfl
    go_upto_region 13 with fail
    go_cut [] (fun wy => ∃ tm', Hid (M w0 B wy (.blk gr #[.int .i64 rv, .int .i64 rp, .string rt, .bool rd] 99 :: .blk ga #[.int .i64 ak, .int .i64 ap, .int .i64 av, .string at'] 94 :: LM gd kg kc gw tg tc ug uc vg vc dg dc bg bc nd k key v f tm' (nt + 1) drf' kns' (ts ++ [now]) now puts (rf || drf') wt false cv ov bs ds T' U' V' fr)))
    case first =>
     go_region_law (refine step_append_lies _ rfl _ _ 22 rfl B 3 i0 (.int .i64 0) 1 8 Tryz.underlying22 hi0 hz0 hz1 hz2 rfl (by decide) _ nt (ints ts) rfl (World.ownsRow.alloc (A8.out.get (i := 4) rfl).own _) ⟨_, 0, none⟩ 1 1 [.int .i64 now] rfl rfl (by have := news_one wc (.int .i64 now) 3; simpa using this) (by simp [Value.oneCell']) (by omega) (by unfold maxLen; omega) (by omega) (by have := A8.out.sz; simp at this ⊢; omega) _ rfl ?_; intro g1 cap1 w5 hown hgrow hat hlt1; rw [← ints_snoc] at hown; have hm := (A8.out.allocd _).drew.lies (i := 4) rfl hown hgrow hat; clear g5 d4 hown hgrow hat; have d4 := hm.cell (i := 2) rfl 4 (.slice ta nt tcp) rfl; have f4 := hm.free (i := 2) rfl 4; have H1 := hideIt (hm.store (i := 2) (j := 4) rfl (.slice (some ⟨g1, 0, none⟩) (nt + 1) cap1) rfl); clear hm)
     all_goals
       go_wp2
       go_meet
       case rel => exact ⟨_, H1.out⟩
    case rest =>
     obtain ⟨tm', hM8⟩ := hcut
     clear A8 g5 d4 hlw hld
     have g5 := hM8.out.cell (i := 5) rfl 5 (.int .i64 now) rfl
     have e5 := hM8.out.free (i := 5) rfl 5
     have d3 := hM8.out.cell (i := 2) rfl 3 (.string f) rfl
     have r0 := hM8.out.cell (i := 0) rfl 0 (.int .i64 rv) rfl
     have r1 := hM8.out.cell (i := 0) rfl 1 (.int .i64 rp) rfl
     have r2 := hM8.out.cell (i := 0) rfl 2 (.string rt) rfl
     have r3 := hM8.out.cell (i := 0) rfl 3 (.bool rd) rfl
     have hgr1 := hM8.out.bne (i := 0) (j := 5) rfl rfl (by omega)
     have hgr2 : gw ≠ gr := fun e => hgr1 e.symm
     have A9 := hideIt (hM8.out.store (i := 5) (j := 5) rfl (.int .i64 (now + 1)) rfl)
     have A10 := A9.out.alloc #[.int .i64 0, .bool false, .int .i64 0, .int .i64 0, .slice none 0 0, .slice none 0 0, .slice none 0 0] 46
     rw [show (wc.setCell ⟨gw, 5, none⟩ (.int .i64 (now + 1))).heap.size = wc.heap.size by simp [World.setCell]] at A10
     replace A10 := hideIt A10
     have hgrl := hM8.out.lt (i := 0) rfl
     have hgdl := hM8.out.lt (i := 2) rfl
     have hnw1 : gd ≠ wc.heap.size := by omega
     have hnw2 : gr ≠ wc.heap.size := by omega
     have hnw3 : wc.heap.size ≠ gd := by omega
     have hnw4 : wc.heap.size ≠ gr := by omega
     go_upto_region 15 with fail
     go_cut [9, 10, 11, 12] (fun a b c d wy => ∃ gx : Nat, b = .pointer (some ⟨gx, 0, none⟩) ∧ d = .int .i64 0 ∧ (∃ kv vv cv', a = .string ⟨#[]⟩ ∧ c = .bool true ∧ Hid (M w0 B wy (.blk gx #[.int .i64 er, .bool fd, .int .i64 va, .int .i64 pt, kv, vv, cv'] 46 :: (.row 3 1 kv ks.length (ints ks) :: .row 3 1 vv vs.length (ints vs) :: .row 76 2 cv' cs.length (cutc cs) :: .blk gr #[.int .i64 rv, .int .i64 rp, .string rt, .bool rd] 99 :: .blk ga #[.int .i64 ak, .int .i64 ap, .int .i64 av, .string at'] 94 :: LM gd kg kc gw tg tc ug uc vg vc dg dc bg bc nd k key v f tm' (nt + 1) drf' kns' (ts ++ [now]) (now + 1) puts (rf || drf') wt false cv ov bs ds T' U' V' fr)))))
     case first =>
       go_region_held3 (fun W => W.cell? ⟨gd, 3, none⟩ = some (.string f) ∧ W.cell? ⟨gr, 0, none⟩ = some (.int .i64 rv) ∧ W.cell? ⟨gr, 1, none⟩ = some (.int .i64 rp) ∧ W.cell? ⟨gr, 2, none⟩ = some (.string rt) ∧ W.cell? ⟨gr, 3, none⟩ = some (.bool rd)) (go_keep) (first
         | (go_at_call 47; refine (HTL.out _ (HT.out _ _ A9.out.drew)).mono ?_; rintro e w9 ⟨kv9, vv9, cv9, rfl, hn9⟩; obtain ⟨ka9, kc9, rfl⟩ := As.form0 (hn9.get (i := 0) rfl); obtain ⟨va9, vc9, rfl⟩ := As.form0 (hn9.get (i := 1) rfl); obtain ⟨ca9, cc9, rfl⟩ := As.form0 (hn9.get (i := 2) rfl); have hm9 := A9.out.drew.join hn9; have z3 := hm9.cell (i := 5) rfl 3 (.string f) rfl; have zr0 := hm9.cell (i := 3) rfl 0 (.int .i64 rv) rfl; have zr1 := hm9.cell (i := 3) rfl 1 (.int .i64 rp) rfl; have zr2 := hm9.cell (i := 3) rfl 2 (.string rt) rfl; have zr3 := hm9.cell (i := 3) rfl 3 (.bool rd) rfl; have zl1 := hm9.lt (i := 5) rfl; have zl2 := hm9.lt (i := 3) rfl; have HA : Hid True := trivial; have H9 := hideIt (hm9.alloc #[.int .i64 er, .bool fd, .int .i64 va, .int .i64 pt, .slice ka9 ks.length kc9, .slice va9 vs.length vc9, .slice ca9 cs.length cc9] 46); clear hn9 hm9)
         | (go_at_call 47; refine (HTL.out _ (HT.out _ _ A10.out.drew)).mono ?_; rintro e w9 ⟨kv9, vv9, cv9, rfl, hn9⟩; obtain ⟨ka9, kc9, rfl⟩ := As.form0 (hn9.get (i := 0) rfl); obtain ⟨va9, vc9, rfl⟩ := As.form0 (hn9.get (i := 1) rfl); obtain ⟨ca9, cc9, rfl⟩ := As.form0 (hn9.get (i := 2) rfl); have hm9 := A10.out.drew.join hn9; have z3 := hm9.cell (i := 6) rfl 3 (.string f) rfl; have zr0 := hm9.cell (i := 4) rfl 0 (.int .i64 rv) rfl; have zr1 := hm9.cell (i := 4) rfl 1 (.int .i64 rp) rfl; have zr2 := hm9.cell (i := 4) rfl 2 (.string rt) rfl; have zr3 := hm9.cell (i := 4) rfl 3 (.bool rd) rfl; have zl1 := hm9.lt (i := 6) rfl; have zl2 := hm9.lt (i := 4) rfl; have HB : Hid True := trivial; have x0 := hm9.cell (i := 3) rfl 0 (.int .i64 0) rfl; have y0 := hm9.free (i := 3) rfl 0; have x1 := hm9.cell (i := 3) rfl 1 (.bool false) rfl; have y1 := hm9.free (i := 3) rfl 1; have x2 := hm9.cell (i := 3) rfl 2 (.int .i64 0) rfl; have y2 := hm9.free (i := 3) rfl 2; have x3 := hm9.cell (i := 3) rfl 3 (.int .i64 0) rfl; have y3 := hm9.free (i := 3) rfl 3; have x4 := hm9.cell (i := 3) rfl 4 (.slice none 0 0) rfl; have y4 := hm9.free (i := 3) rfl 4; have x5 := hm9.cell (i := 3) rfl 5 (.slice none 0 0) rfl; have y5 := hm9.free (i := 3) rfl 5; have x6 := hm9.cell (i := 3) rfl 6 (.slice none 0 0) rfl; have y6 := hm9.free (i := 3) rfl 6; have H9 := hideIt ((hm9.store7 (i := 3) rfl (.int .i64 er) (.bool fd) (.int .i64 va) (.int .i64 pt) (.slice ka9 ks.length kc9) (.slice va9 vs.length vc9) (.slice ca9 cs.length cc9)).perm (List.perm_middle (l₁ := [_, _, _])).symm); clear hm9 hn9))
       all_goals
         go_wp2
         go_meet
         case rel => first | (have := HA; exact ⟨w9.heap.size, rfl, rfl, _, _, _, rfl, rfl, H9.out⟩) | (have := HB; exact ⟨wc.heap.size, rfl, rfl, _, _, _, rfl, rfl, H9.out⟩)
     case rest =>
       clear A9 A10 hgrl hgdl hnw1 hnw2 hnw3 hnw4 g5 e5 d3 r0 r1 r2 r3 hgr1 hgr2 hM8
       obtain ⟨gx, rfl, rfl, kv, vv, cv', rfl, rfl, hN⟩ := hcut
       obtain ⟨ka, kc2, rfl⟩ := As.form0 (hN.out.get (i := 1) rfl)
       obtain ⟨va2, vc2, rfl⟩ := As.form0 (hN.out.get (i := 2) rfl)
       obtain ⟨ca2, cc2, rfl⟩ := As.form0 (hN.out.get (i := 3) rfl)
       have g11 := hN.out.cell (i := 9) rfl 11 (.bool false) rfl
       have g4 := hN.out.cell (i := 9) rfl 4 (.slice (some ⟨bg, 0, none⟩) 64 bc) rfl
       have b0 := hN.out.rowCell (i := 10) rfl c (.int .i64 i) HBC.out
       have bf := hN.out.rowFree (i := 10) rfl c
       have d3 := hN.out.cell (i := 6) rfl 3 (.string f) rfl
       have e3 := hN.out.free (i := 6) rfl 3
       have d7 := hN.out.cell (i := 6) rfl 7 (.bool false) rfl
       have e7 := hN.out.free (i := 6) rfl 7
       have d8 := hN.out.cell (i := 6) rfl 8 (.int .i64 0) rfl
       have e8 := hN.out.free (i := 6) rfl 8
       have d9 := hN.out.cell (i := 6) rfl 9 (.bool false) rfl
       have e9 := hN.out.free (i := 6) rfl 9
       have d10 := hN.out.cell (i := 6) rfl 10 (.int .i64 0) rfl
       have e10 := hN.out.free (i := 6) rfl 10
       have d11 := hN.out.cell (i := 6) rfl 11 (.int .i64 0) rfl
       have e11 := hN.out.free (i := 6) rfl 11
       have d12 := hN.out.cell (i := 6) rfl 12 (.slice none 0 0) rfl
       have e12 := hN.out.free (i := 6) rfl 12
       have d13 := hN.out.cell (i := 6) rfl 13 (.slice none 0 0) rfl
       have e13 := hN.out.free (i := 6) rfl 13
       have d14 := hN.out.cell (i := 6) rfl 14 (.slice none 0 0) rfl
       have e14 := hN.out.free (i := 6) rfl 14
       have x0 := hN.out.cell (i := 0) rfl 0 (.int .i64 er) rfl
       have x1 := hN.out.cell (i := 0) rfl 1 (.bool fd) rfl
       have x2 := hN.out.cell (i := 0) rfl 2 (.int .i64 va) rfl
       have x3 := hN.out.cell (i := 0) rfl 3 (.int .i64 pt) rfl
       have x4 := hN.out.cell (i := 0) rfl 4 (.slice ka ks.length kc2) rfl
       have x5 := hN.out.cell (i := 0) rfl 5 (.slice va2 vs.length vc2) rfl
       have x6 := hN.out.cell (i := 0) rfl 6 (.slice ca2 cs.length cc2) rfl
       have hne1 := hN.out.bne (i := 0) (j := 6) rfl rfl (by omega)
       have hne2 := hN.out.bne (i := 6) (j := 9) rfl rfl (by omega)
       have hne3 : gd ≠ gx := fun e => hne1 e.symm
       have hne4 : gw ≠ gd := fun e => hne2 e.symm
       have hne5 := hN.out.ne (i := 6) (j := 10) rfl rfl
       have hne6 := hN.out.ne (i := 9) (j := 10) rfl rfl
       have hne7 : bg ≠ gd := fun e => hne5 e.symm
       have hne8 : bg ≠ gw := fun e => hne6 e.symm
       have S1 := hN.out.store (i := 6) (j := 3) rfl (.string ⟨#[]⟩) (c' := DC k key v ⟨#[]⟩ tm' (.slice (some ⟨kg, 0, none⟩) 64 kc) drf' false 0 false 0 0 (.slice none 0 0) (.slice none 0 0) (.slice none 0 0)) rfl
       have S2 := S1.store (i := 6) (j := 7) rfl (.bool true) (c' := DC k key v ⟨#[]⟩ tm' (.slice (some ⟨kg, 0, none⟩) 64 kc) drf' true 0 false 0 0 (.slice none 0 0) (.slice none 0 0) (.slice none 0 0)) rfl
       have Sa0 := S2.store (i := 6) (j := 8) rfl (.int .i64 er) (c' := DC k key v ⟨#[]⟩ tm' (.slice (some ⟨kg, 0, none⟩) 64 kc) drf' true er false 0 0 (.slice none 0 0) (.slice none 0 0) (.slice none 0 0)) rfl
       have Sa1 := Sa0.store (i := 6) (j := 9) rfl (.bool fd) (c' := DC k key v ⟨#[]⟩ tm' (.slice (some ⟨kg, 0, none⟩) 64 kc) drf' true er fd 0 0 (.slice none 0 0) (.slice none 0 0) (.slice none 0 0)) rfl
       have Sa2 := Sa1.store (i := 6) (j := 10) rfl (.int .i64 va) (c' := DC k key v ⟨#[]⟩ tm' (.slice (some ⟨kg, 0, none⟩) 64 kc) drf' true er fd va 0 (.slice none 0 0) (.slice none 0 0) (.slice none 0 0)) rfl
       have Sa3 := Sa2.store (i := 6) (j := 11) rfl (.int .i64 pt) (c' := DC k key v ⟨#[]⟩ tm' (.slice (some ⟨kg, 0, none⟩) 64 kc) drf' true er fd va pt (.slice none 0 0) (.slice none 0 0) (.slice none 0 0)) rfl
       have Sa4 := Sa3.store (i := 6) (j := 12) rfl (.slice ka ks.length kc2) (c' := DC k key v ⟨#[]⟩ tm' (.slice (some ⟨kg, 0, none⟩) 64 kc) drf' true er fd va pt (.slice ka ks.length kc2) (.slice none 0 0) (.slice none 0 0)) rfl
       have Sa5 := Sa4.store (i := 6) (j := 13) rfl (.slice va2 vs.length vc2) (c' := DC k key v ⟨#[]⟩ tm' (.slice (some ⟨kg, 0, none⟩) 64 kc) drf' true er fd va pt (.slice ka ks.length kc2) (.slice va2 vs.length vc2) (.slice none 0 0)) rfl
       have S3 := Sa5.store (i := 6) (j := 14) rfl (.slice ca2 cs.length cc2) (c' := DC k key v ⟨#[]⟩ tm' (.slice (some ⟨kg, 0, none⟩) 64 kc) drf' true er fd va pt (.slice ka ks.length kc2) (.slice va2 vs.length vc2) (.slice ca2 cs.length cc2)) rfl
       have S4 := hideIt (S3.storeRow (i := 10) (j := c) rfl (.int .i64 (-1)))
       clear hN S1 S2 S3 Sa0 Sa1 Sa2 Sa3 Sa4 Sa5
       go_wp2
       refine bodyPost_end (results_none Tryz.results28 _ _ _) rfl ⟨⟨_, rfl⟩, tm', .slice ka ks.length kc2, .slice va2 vs.length vc2, .slice ca2 cs.length cc2, ?_⟩
       have S5 := S4.out.sub (List.sublist_cons_self _ _)
       have S6 := S5.sub (List.Sublist.cons_cons _ (List.Sublist.cons_cons _ (List.Sublist.cons_cons _ (List.Sublist.trans (List.sublist_cons_self _ _) (List.sublist_cons_self _ _)))))
       unfold LE
       rw [← ints_setx]
       exact S6
theorem ints_get {L : List Int} {i : Nat} {x : Int} (h : L[i]? = some x) : (ints L)[i]? = some (.int .i64 x) := by simp [ints, h]
theorem strs_get {L : List ByteArray} {i : Nat} {x : ByteArray} (h : L[i]? = some x) : (strs L)[i]? = some (.string x) := by simp [strs, h]
theorem bools_get {L : List Bool} {i : Nat} {x : Bool} (h : L[i]? = some x) : (bools L)[i]? = some (.bool x) := by simp [bools, h]
theorem strs_setx (L : List ByteArray) (i : Nat) (x : ByteArray) : (strs L).set i (.string x) = strs (L.set i x) := by simp [strs, List.map_set]
theorem bools_setx (L : List Bool) (i : Nat) (x : Bool) : (bools L).set i (.bool x) = bools (L.set i x) := by simp [bools, List.map_set]
structure AccR (kd ak ap av : Int) (at' : ByteArray) (T : List ByteArray) (U : List Bool) (V kns : List Int) (drf : Bool) (rv rp : Int) (rt : ByteArray) (rd : Bool) (T' : List ByteArray) (U' : List Bool) (V' kns' : List Int) (drf' : Bool) : Prop where
  is : (∃ p : Nat, ak = 1 ∧ ap = p ∧ p < 64 ∧ av = 0 ∧ at' = ⟨#[]⟩ ∧ U[p]? = some true ∧ T[p]? = some rt ∧ V[p]? = some rv ∧ rp = 0 ∧ rd = false ∧ T' = T ∧ U' = U ∧ V' = V ∧ kns' = kns.set p rv ∧ drf' = drf)
    ∨ (∃ p : Nat, ak = 2 ∧ ap = p ∧ p < 64 ∧ 0 ≤ av ∧ av ≤ 1000000000 ∧ (kd = 2 ∨ kd = 3) ∧ (∃ n, Unp at'.data.toList n) ∧ U[p]? = some true ∧ kns[p]? = some av ∧ rv = 0 ∧ rp = 0 ∧ rt = ⟨#[]⟩ ∧ U' = U ∧ drf' = drf ∧
        ((V[p]? = some av ∧ rd = true ∧ (∃ t0, T[p]? = some t0) ∧ T' = T.set p at' ∧ V' = V.set p (av + 1) ∧ kns' = kns.set p (av + 1)) ∨ (∃ cur, V[p]? = some cur ∧ cur ≠ av ∧ rd = false ∧ T' = T ∧ V' = V ∧ kns' = kns)))
    ∨ (ak = 3 ∧ ap = 0 ∧ av = 0 ∧ (kd = 2 ∨ kd = 3) ∧ (∃ n, Unp at'.data.toList n) ∧ (∃ b, U[0]? = some b) ∧ rv = 0 ∧ rt = ⟨#[]⟩ ∧ rd = false ∧
        ((∃ f : Nat, f < 64 ∧ U[f]? = some false ∧ (∀ k, k < f → U[k]? = some true) ∧ (∃ t0, T[f]? = some t0) ∧ (∃ v0, V[f]? = some v0) ∧ rp = f ∧ U' = U.set f true ∧ T' = T.set f at' ∧ V' = V.set f 0 ∧ kns' = kns.set f 0 ∧ drf' = drf) ∨ ((∀ k, k < 64 → U[k]? = some true) ∧ rp = -1 ∧ U' = U ∧ T' = T ∧ V' = V ∧ kns' = kns ∧ drf' = true)))
theorem size_of_unp {t : ByteArray} (h : ∃ n, Unp t.data.toList n) : t.size ≤ 47 := by
  obtain ⟨n, hn⟩ := h
  have := (len_packT n hn.1).2
  rw [hn.2, ba_size] at this
  exact this
theorem acc_legal {gd kg kc gw tg tc ug uc vg vc dg dc bg bc nd : Nat} {k key v : Int} {f : ByteArray} {tm : Value} {nt : Nat} {drf : Bool} {kns ts : List Int} {now puts : Int} {rf wt kp : Bool} {cv ov : Value} {bs : List Int} {ds : List Value} {T : List ByteArray} {U : List Bool} {V : List Int} {fr : List As} {w0 W : World} {B ga : Nat}
    {ak ap av rv rp : Int} {at' rt : ByteArray} {rd : Bool} {T' : List ByteArray} {U' : List Bool} {V' kns' : List Int} {drf' : Bool} (hA : AccR k ak ap av at' T U V kns drf rv rp rt rd T' U' V' kns' drf')
    (h : M w0 B W (.blk ga #[.int .i64 ak, .int .i64 ap, .int .i64 av, .string at'] 94 :: LM gd kg kc gw tg tc ug uc vg vc dg dc bg bc nd k key v f tm nt drf kns ts now puts rf wt kp cv ov bs ds T U V fr)) :
    Calls Tryz.prog 43 #[.pointer (some ⟨gw, 0, none⟩), .pointer (some ⟨gd, 0, none⟩), .agg #[.int .i64 ak, .int .i64 ap, .int .i64 av, .string at']] W fun e w' => e = .returned (.bool true) ∧ Below W.heap.size W w' := by
  have c1 := h.cell (i := 4) rfl 1 (.slice (some ⟨ug, 0, none⟩) 64 uc) rfl
  have k0 := h.cell (i := 1) rfl 0 (.int .i64 k) rfl
  have k5 := h.cell (i := 1) rfl 5 (.slice (some ⟨kg, 0, none⟩) 64 kc) rfl
  rcases hA.is with ⟨p, rfl, rfl, hp, rfl, rfl, hU, -⟩ | ⟨p, rfl, rfl, hp, h0, -, hk, ht, hU, hkn, -⟩ | ⟨rfl, rfl, rfl, hk, ht, ⟨b, hU⟩, -⟩
  · exact legal_read gw ug uc p _ _ c1 (h.rowCell (i := 8) rfl p _ (bools_get hU)) hp
  · exact legal_swap gw ug uc gd kg kc p k av at' W c1 (h.rowCell (i := 8) rfl p _ (bools_get hU)) hp k0 k5 (h.rowCell (i := 2) rfl p _ (ints_get hkn)) hk h0 ht
  · exact legal_fresh gw ug uc gd 0 b k 0 at' W c1 (h.rowCell (i := 8) rfl 0 _ (bools_get hU)) (by omega) k0 hk ht
set_option maxHeartbeats 1600000 in
theorem acc_act {gd kg kc gw tg tc ug uc vg vc dg dc bg bc nd : Nat} {k key v : Int} {f : ByteArray} {tm : Value} {nt : Nat} {drf : Bool} {kns ts : List Int} {now puts : Int} {rf wt kp : Bool} {cv ov : Value} {bs : List Int} {ds : List Value} {T : List ByteArray} {U : List Bool} {V : List Int} {fr : List As} {w0 W : World} {B ga : Nat}
    {ak ap av rv rp : Int} {at' rt : ByteArray} {rd : Bool} {T' : List ByteArray} {U' : List Bool} {V' kns' : List Int} {drf' : Bool} (hA : AccR k ak ap av at' T U V kns drf rv rp rt rd T' U' V' kns' drf')
    (h : M w0 B W (.blk ga #[.int .i64 ak, .int .i64 ap, .int .i64 av, .string at'] 94 :: LM gd kg kc gw tg tc ug uc vg vc dg dc bg bc nd k key v f tm nt drf kns ts now puts rf wt kp cv ov bs ds T U V fr)) :
    Calls Tryz.prog 44 #[.pointer (some ⟨gw, 0, none⟩), .agg #[.int .i64 ak, .int .i64 ap, .int .i64 av, .string at']] W fun e w' => e = .returned (.agg #[.int .i64 rv, .int .i64 rp, .string rt, .bool rd]) ∧ M w0 B w' (.blk ga #[.int .i64 ak, .int .i64 ap, .int .i64 av, .string at'] 94 :: LM gd kg kc gw tg tc ug uc vg vc dg dc bg bc nd k key v f tm nt drf kns ts now puts rf wt kp cv ov bs ds T' U' V' fr) := by
  have c0 := h.cell (i := 4) rfl 0 (.slice (some ⟨tg, 0, none⟩) 64 tc) rfl
  have c1 := h.cell (i := 4) rfl 1 (.slice (some ⟨ug, 0, none⟩) 64 uc) rfl
  have c2 := h.cell (i := 4) rfl 2 (.slice (some ⟨vg, 0, none⟩) 64 vc) rfl
  rcases hA.is with ⟨p, rfl, rfl, hp, rfl, rfl, hU, hT, hV, rfl, rfl, rfl, rfl, rfl, -⟩ | ⟨p, rfl, rfl, hp, h0, h1, hk, ht, hU, hkn, rfl, rfl, rfl, rfl, -, hx⟩ | ⟨rfl, rfl, rfl, hk, ht, ⟨b, hU⟩, rfl, rfl, rfl, hx⟩
  · refine (act_read gw ug uc tg tc vg vc p rt rv W c1 (h.rowCell (i := 8) rfl p _ (bools_get hU)) hp c0 (h.rowCell (i := 7) rfl p _ (strs_get hT)) c2 (h.rowCell (i := 9) rfl p _ (ints_get hV))).mono ?_
    rintro e w' ⟨rfl, hb⟩
    exact ⟨rfl, h.below hb⟩
  · rcases hx with ⟨hV, rfl, ⟨t0, hT⟩, rfl, rfl, -⟩ | ⟨cur, hV, hne, rfl, rfl, rfl, -⟩
    · refine (act_swap gw ug uc tg tc vg vc p at' t0 av w0 W B 4 7 8 9 _ _ (strs T) (bools U') (ints V) h rfl rfl rfl rfl rfl rfl rfl (by omega) hp (strs_get hT) (bools_get hU) (ints_get hV) h0 h1 (size_of_unp ht)).mono ?_
      rintro e w' ⟨rfl, hM⟩
      refine ⟨rfl, ?_⟩
      unfold LM
      rw [← strs_setx, ← ints_setx]
      exact hM
    · refine (act_swap_no gw ug uc vg vc p at' av cur W c1 c2 hp (h.rowCell (i := 8) rfl p _ (bools_get hU)) (h.rowCell (i := 9) rfl p _ (ints_get hV)) hne (size_of_unp ht)).mono ?_
      rintro e w' ⟨rfl, hb⟩
      exact ⟨rfl, h.below hb⟩
  · rcases hx with ⟨f', hf, hUf, hUl, ⟨t0, hT⟩, ⟨v0, hV⟩, rfl, rfl, rfl, rfl, -⟩ | ⟨hall, rfl, rfl, rfl, rfl, -⟩
    · refine (act_fresh gw ug uc tg tc vg vc f' 0 b at' t0 0 v0 w0 W B 4 7 8 9 _ _ (strs T) (bools U) (ints V) h rfl rfl rfl rfl rfl rfl rfl (by omega) (by omega) (by omega) hf (by omega) (bools_get hU) (strs_get hT) (bools_get hUf) (fun k hk => bools_get (hUl k hk)) (ints_get hV) (size_of_unp ht)).mono ?_
      rintro e w' ⟨rfl, hM⟩
      refine ⟨rfl, ?_⟩
      unfold LM
      rw [← strs_setx, ← ints_setx, ← bools_setx]
      exact hM
    · refine (act_fresh_no gw ug uc 0 at' 0 W c1 (by omega) (fun k hk => h.rowCell (i := 8) rfl k _ (bools_get (hall k hk))) (size_of_unp ht)).mono ?_
      rintro e w' ⟨rfl, hb⟩
      exact ⟨rfl, h.below hb⟩
set_option maxHeartbeats 1600000 in
theorem acc_learns {gd kg kc gw tg tc ug uc vg vc dg dc bg bc nd : Nat} {k key v : Int} {f : ByteArray} {tm : Value} {nt : Nat} {drf : Bool} {kns ts : List Int} {now puts : Int} {rf wt kp : Bool} {cv ov : Value} {bs : List Int} {ds : List Value} {T : List ByteArray} {U : List Bool} {V : List Int} {fr : List As} {w0 W : World} {B ga gr : Nat}
    {ak ap av rv rp : Int} {at' rt : ByteArray} {rd : Bool} {T' : List ByteArray} {U' : List Bool} {V' kns' : List Int} {drf' : Bool} (hA : AccR k ak ap av at' T U V kns drf rv rp rt rd T' U' V' kns' drf')
    (h : M w0 B W (.blk gr #[.int .i64 rv, .int .i64 rp, .string rt, .bool rd] 99 :: .blk ga #[.int .i64 ak, .int .i64 ap, .int .i64 av, .string at'] 94 :: LM gd kg kc gw tg tc ug uc vg vc dg dc bg bc nd k key v f tm nt drf kns ts now puts rf wt kp cv ov bs ds T' U' V' fr)) :
    Calls Tryz.prog 45 #[.pointer (some ⟨gd, 0, none⟩), .agg #[.int .i64 ak, .int .i64 ap, .int .i64 av, .string at'], .agg #[.int .i64 rv, .int .i64 rp, .string rt, .bool rd]] W fun e w' => (∃ u, e = .returned u) ∧ M w0 B w' (.blk gr #[.int .i64 rv, .int .i64 rp, .string rt, .bool rd] 99 :: .blk ga #[.int .i64 ak, .int .i64 ap, .int .i64 av, .string at'] 94 :: LM gd kg kc gw tg tc ug uc vg vc dg dc bg bc nd k key v f tm nt drf' kns' ts now puts rf wt kp cv ov bs ds T' U' V' fr) := by
  rcases hA.is with ⟨p, rfl, rfl, hp, rfl, rfl, hU, hT, hV, rfl, rfl, rfl, rfl, rfl, rfl, rfl⟩ | ⟨p, rfl, rfl, hp, h0, h1, hk, ht, hU, hkn, rfl, rfl, rfl, rfl, rfl, hx⟩ | ⟨rfl, rfl, rfl, hk, ht, ⟨b, hU⟩, rfl, rfl, rfl, hx⟩
  · refine (learns_read gd kg kc p rt rv w0 W B 2 3 _ _ (ints kns) h rfl rfl rfl hp).mono ?_
    rintro e w' ⟨he, hM⟩
    refine ⟨he, ?_⟩
    unfold LM
    rw [← ints_setx kns]
    exact hM
  · rcases hx with ⟨hV, rfl, ⟨t0, hT⟩, rfl, rfl, rfl⟩ | ⟨cur, hV, hne, rfl, rfl, rfl, rfl⟩
    · refine (learns_swap gd kg kc p at' av w0 W B 2 3 _ _ (ints kns) h rfl rfl rfl hp h0 h1).mono ?_
      rintro e w' ⟨he, hM⟩
      refine ⟨he, ?_⟩
      unfold LM
      rw [← ints_setx kns]
      exact hM
    · refine (learns_swap_no gd p at' av W).mono ?_
      rintro e w' ⟨he, hb⟩
      exact ⟨he, h.below hb⟩
  · rcases hx with ⟨f', hf, hUf, hUl, ⟨t0, hT⟩, ⟨v0, hV⟩, rfl, rfl, rfl, rfl, rfl, rfl⟩ | ⟨hall, rfl, rfl, rfl, rfl, rfl, rfl⟩
    · refine (learns_fresh gd kg kc f' 0 0 at' w0 W B 2 3 _ _ (ints kns) h rfl rfl rfl hf).mono ?_
      rintro e w' ⟨he, hM⟩
      refine ⟨he, ?_⟩
      unfold LM
      rw [← ints_setx kns]
      exact hM
    · refine (learns_fresh_no gd 0 0 at' w0 W B 2 _ _ _ (.bool drf) h rfl rfl rfl).mono ?_
      rintro e w' ⟨he, hM⟩
      exact ⟨he, hM⟩
def PgR (gw tg tc ug uc : Nat) (T : List ByteArray) (U : List Bool) (w : World) : Prop :=
  w.cell? ⟨gw, 0, none⟩ = some (.slice (some ⟨tg, 0, none⟩) 64 tc) ∧ w.cell? ⟨gw, 1, none⟩ = some (.slice (some ⟨ug, 0, none⟩) 64 uc) ∧ ∀ p, p < 64 → ∃ t b, T[p]? = some t ∧ U[p]? = some b ∧ w.cell? ⟨tg, p, none⟩ = some (.string t) ∧ w.cell? ⟨ug, p, none⟩ = some (.bool b)
theorem PgR.below {gw tg tc ug uc : Nat} {T : List ByteArray} {U : List Bool} {w w' : World} (h : PgR gw tg tc ug uc T U w) (hb : Below w.heap.size w w') : PgR gw tg tc ug uc T U w' := by
  obtain ⟨h1, h2, h3⟩ := h
  refine ⟨cell_below hb _ _ h1, cell_below hb _ _ h2, fun p hp => ?_⟩
  obtain ⟨t, b, a1, a2, a3, a4⟩ := h3 p hp
  exact ⟨t, b, a1, a2, cell_below hb _ _ a3, cell_below hb _ _ a4⟩
def Says (T : List ByteArray) (U : List Bool) (p : Nat) (n : Nd) : Prop := p < 64 ∧ U[p]? = some true ∧ ∃ t, T[p]? = some t ∧ Unp t.data.toList n
theorem Own.m {w w' : World} {kv vv : Value} {ks vs : List Int} (h : Own w' w.heap.size kv vv ks vs) (hb : Below w.heap.size w w') : M w w.heap.size w' [.row 3 1 kv ks.length (ints ks), .row 3 1 vv vs.length (ints vs)] := by
  refine ⟨fun a ha => ?_, ?_, hb, hb.size⟩
  · rcases List.mem_cons.1 ha with rfl | ha
    · exact h.1
    · rcases List.mem_singleton.1 ha with rfl
      exact h.2.1
  · exact List.pairwise_cons.2 ⟨fun b hb2 k h1 h2 => by rcases List.mem_singleton.1 hb2 with rfl; exact h.2.2 k h1 h2, List.pairwise_singleton _ _⟩
structure Dd where
  gd : Nat
  kg : Nat
  kc : Nat
  tm : Value
  kv : Value
  vv : Value
  cv : Value
  k : Int
  key : Int
  v : Int
  f : ByteArray
  ts : List Int
  kns : List Int
  rf : Bool
  en : Bool
  er : Int
  fd : Bool
  va : Int
  pt : Int
  ks : List Int
  vs : List Int
  cs : List (Int × Int)
def Dd.hd (d : Dd) : List As :=
  [.blk d.gd (DC d.k d.key d.v d.f d.tm (.slice (some ⟨d.kg, 0, none⟩) 64 d.kc) d.rf d.en d.er d.fd d.va d.pt d.kv d.vv d.cv) 48, .row 3 1 (.slice (some ⟨d.kg, 0, none⟩) 64 d.kc) 64 (ints d.kns), .row 3 1 d.tm d.ts.length (ints d.ts)]
def Dd.tl (d : Dd) : List As :=
  [.row 3 1 d.kv d.ks.length (ints d.ks), .row 3 1 d.vv d.vs.length (ints d.vs), .row 76 2 d.cv d.cs.length (cutc d.cs)]
def Dd.as (d : Dd) : List As := d.hd ++ d.tl
def Dd.live (d : Dd) : Prop := d.en = false ∧ d.er = 0 ∧ d.fd = false ∧ d.va = 0 ∧ d.pt = 0 ∧ d.kv = .slice none 0 0 ∧ d.vv = .slice none 0 0 ∧ d.cv = .slice none 0 0 ∧ d.ks = [] ∧ d.vs = [] ∧ d.cs = []
def Dd.ptr (d : Dd) : Value := .pointer (some ⟨d.gd, 0, none⟩)
structure Wd where
  gw : Nat
  tg : Nat
  tc : Nat
  ug : Nat
  uc : Nat
  vg : Nat
  vc : Nat
  bg : Nat
  bc : Nat
  dv : Value
  T : List ByteArray
  U : List Bool
  V : List Int
  bs : List Int
  now : Int
  puts : Int
  rf : Bool
  wt : Bool
  kp : Bool
  cv : Value
  ov : Value
  ds : List Dd
def Wd.hd (x : Wd) : List As :=
  [.blk x.gw (WC (.slice (some ⟨x.tg, 0, none⟩) 64 x.tc) (.slice (some ⟨x.ug, 0, none⟩) 64 x.uc) (.slice (some ⟨x.vg, 0, none⟩) 64 x.vc) x.dv (.slice (some ⟨x.bg, 0, none⟩) 64 x.bc) x.now x.puts x.rf false x.wt false x.kp x.cv x.ov false) 34,
   .row 3 1 (.slice (some ⟨x.bg, 0, none⟩) 64 x.bc) 64 (ints x.bs), .row 40 1 x.dv x.ds.length (x.ds.map Dd.ptr), .row 9 1 (.slice (some ⟨x.tg, 0, none⟩) 64 x.tc) 64 (strs x.T), .row 4 1 (.slice (some ⟨x.ug, 0, none⟩) 64 x.uc) 64 (bools x.U), .row 3 1 (.slice (some ⟨x.vg, 0, none⟩) 64 x.vc) 64 (ints x.V)]
def Wd.as (x : Wd) : List As := x.hd ++ x.ds.flatMap Dd.as
theorem perm_deed (W A D N C fr : List As) : (D ++ (W ++ (N ++ (A ++ (C ++ fr))))).Perm ((W ++ (A ++ ((D ++ N) ++ C))) ++ fr) := by
  have h1 : (W ++ (A ++ ((D ++ N) ++ C))) ++ fr = W ++ (A ++ ((D ++ N) ++ (C ++ fr))) := by simp
  rw [h1]
  refine (List.perm_append_comm_assoc D W _).trans (List.Perm.append_left W ?_)
  rw [← List.append_assoc D N]
  exact List.perm_append_comm_assoc (D ++ N) A _
theorem Wd.split (x : Wd) (i : Nat) (d : Dd) (hd : x.ds[i]? = some d) : x.ds.flatMap Dd.as = (x.ds.take i).flatMap Dd.as ++ ((d.hd ++ d.tl) ++ (x.ds.drop (i + 1)).flatMap Dd.as) := by
  have hl := (List.getElem?_eq_some_iff.1 hd).1
  have e : x.ds = x.ds.take i ++ d :: x.ds.drop (i + 1) := by
    rw [← (List.getElem?_eq_some_iff.1 hd).2, List.getElem_cons_drop, List.take_append_drop]
  refine (congrArg (List.flatMap Dd.as) e).trans ?_
  rw [List.flatMap_append, List.flatMap_cons]
  rfl
theorem set_split {α : Type} (l : List α) (i : Nat) (d' : α) (hi : i < l.length) : l.set i d' = l.take i ++ d' :: l.drop (i + 1) := by
  rw [List.set_eq_take_append_cons_drop, if_pos hi]
theorem map_set_ptr (l : List Dd) (i : Nat) (d d' : Dd) (hd : l[i]? = some d) (hp : d'.gd = d.gd) : (l.set i d').map Dd.ptr = l.map Dd.ptr := by
  rw [List.map_set]
  have hi := (List.getElem?_eq_some_iff.1 hd).1
  have e : d'.ptr = (l.map Dd.ptr)[i]'(by simpa using hi) := by
    rw [List.getElem_map, (List.getElem?_eq_some_iff.1 hd).2]
    unfold Dd.ptr; rw [hp]
  rw [e, List.set_getElem_self]
theorem LM.pg {w0 W : World} {B : Nat} {a b : As} {gd kg kc gw tg tc ug uc vg vc dg dc bg bc nd : Nat} {k key v : Int} {f : ByteArray} {tm : Value} {nt : Nat} {drf : Bool} {kns ts : List Int} {now puts : Int} {rf wt kp : Bool} {cv ov : Value} {bs : List Int} {ds : List Value} {T : List ByteArray} {U : List Bool} {V : List Int} {fr : List As} (h : M w0 B W (a :: b :: LM gd kg kc gw tg tc ug uc vg vc dg dc bg bc nd k key v f tm nt drf kns ts now puts rf wt kp cv ov bs ds T U V fr)) : PgR gw tg tc ug uc T U W := by
  refine ⟨h.cell (i := 5) rfl 0 _ rfl, h.cell (i := 5) rfl 1 _ rfl, fun p hp => ?_⟩
  have h1 := (h.get (i := 8) rfl).own.1
  have h2 := (h.get (i := 9) rfl).own.1
  simp [strs] at h1
  simp [bools] at h2
  have ht : T[p]? = some (T[p]'(by omega)) := List.getElem?_eq_getElem (by omega)
  have hu : U[p]? = some (U[p]'(by omega)) := List.getElem?_eq_getElem (by omega)
  exact ⟨_, _, ht, hu, h.rowCell (i := 8) rfl p _ (strs_get ht), h.rowCell (i := 9) rfl p _ (bools_get hu)⟩
set_option maxRecDepth 100000 in
set_option maxHeartbeats 1600000 in
theorem sys_go (x : Wd) (d : Dd) (c i : Nat) (ak ap av rv rp : Int) (at' rt : ByteArray) (rd drf' : Bool) (kns' V' : List Int) (T' : List ByteArray) (U' : List Bool) (P : ByteArray → Prop) (fr : List As) (w0 w : World) (B : Nat) (htab : Tab w0) (hB : B = w0.heap.size) (hc : c < 64) (hb : x.bs[c]? = some (i : Int)) (hd : x.ds[i]? = some d) (hlive : d.live) (hkp : x.kp = false)
    (hStands : x.wt = true → ak ≠ 1 → ∀ W, PgR x.gw x.tg x.tc x.ug x.uc T' U' W → Calls Tryz.prog 46 #[.pointer (some ⟨x.gw, 0, none⟩)] W fun e w' => e = .returned (.bool true) ∧ Below W.heap.size W w')
    (hnd : x.ds.length ≤ 100000000) (hnt : d.ts.length ≤ 100000000) (hnw : 0 ≤ x.now ∧ x.now ≤ 100000000000)
    (hNext : ∀ W, Tab W → Calls Tryz.prog 42 #[.string d.f] W fun e w' => e = .returned (.tuple #[.agg #[.int .i64 ak, .int .i64 ap, .int .i64 av, .string at'], .int .i64 0]) ∧ Below W.heap.size W w')
    (hA : AccR d.k ak ap av at' x.T x.U x.V d.kns d.rf rv rp rt rd T' U' V' kns' drf')
    (hTell : ∀ W, Tab W → Calls Tryz.prog 47 #[.string d.f, .agg #[.int .i64 rv, .int .i64 rp, .string rt, .bool rd]] W fun e w' => GoR P W w' e)
    (h : M w0 B w (x.as ++ fr)) :
    Calls Tryz.prog 28 #[.pointer (some ⟨x.gw, 0, none⟩), .int .i64 c] w fun e w' => (∃ u, e = .returned u) ∧ ∃ tm' f', P f' ∧ M w0 B w' (({ x with T := T', U := U', V := V', now := x.now + 1, rf := x.rf || drf', ds := x.ds.set i { d with tm := tm', f := f', ts := d.ts ++ [x.now], kns := kns', rf := drf' } } : Wd).as ++ fr) := by
  have hil := (List.getElem?_eq_some_iff.1 hd).1
  have e1 := x.split i d hd
  have hx : x.as = x.hd ++ ((x.ds.take i).flatMap Dd.as ++ ((d.hd ++ d.tl) ++ (x.ds.drop (i + 1)).flatMap Dd.as)) := by unfold Wd.as; rw [e1]
  rw [hx] at h
  have h1 := h.perm (perm_deed x.hd ((x.ds.take i).flatMap Dd.as) d.hd d.tl ((x.ds.drop (i + 1)).flatMap Dd.as) fr)
  obtain ⟨dg, dc, hdv⟩ := As.form (h1.get (i := 5) rfl) (show 0 < x.ds.length by omega)
  obtain ⟨en, er, fd, va, pt, hkv, hvv, hcv, hks, hvs, hcs⟩ := hlive
  have hdp : (x.ds.map Dd.ptr)[i]? = some (.pointer (some ⟨d.gd, 0, none⟩)) := by rw [List.getElem?_map, hd]; rfl
  have hLM : d.hd ++ (x.hd ++ (d.tl ++ ((x.ds.take i).flatMap Dd.as ++ ((x.ds.drop (i + 1)).flatMap Dd.as ++ fr)))) = LM d.gd d.kg d.kc x.gw x.tg x.tc x.ug x.uc x.vg x.vc dg dc x.bg x.bc x.ds.length d.k d.key d.v d.f d.tm d.ts.length d.rf d.kns d.ts x.now x.puts x.rf x.wt false x.cv x.ov x.bs (x.ds.map Dd.ptr) x.T x.U x.V (d.tl ++ ((x.ds.take i).flatMap Dd.as ++ ((x.ds.drop (i + 1)).flatMap Dd.as ++ fr))) := by
    unfold Dd.hd Wd.hd LM
    rw [hdv, en, er, fd, va, pt, hkv, hvv, hcv, hkp]
    rfl
  rw [hLM] at h1
  refine (move_go d.gd d.kg d.kc d.ts.length x.gw x.tg x.tc x.ug x.uc x.vg x.vc dg dc x.bg x.bc x.ds.length i c x.cv x.ov x.now x.puts d.k d.key d.v ak ap av rv rp d.f at' rt rd d.rf drf' x.rf x.wt d.kns kns' x.bs x.V V' (x.ds.map Dd.ptr) d.ts x.T T' x.U U' d.tm P _ w0 w B htab hB hc hb hdp hnd (by simp) hnt hnw hNext
    (fun W ga hW => acc_legal hA hW)
    (fun W ga hW => acc_act hA hW)
    (fun W ga gr hW => acc_learns hA hW)
    (fun hw hk W ga gr hW => hStands hw hk W (LM.pg hW))
    hTell h1).mono ?_
  rintro e w' ⟨he, tm', f', hP, hM⟩
  refine ⟨he, tm', f', hP, ?_⟩
  obtain ⟨d', hd'⟩ : ∃ y : Dd, y = { d with tm := tm', f := f', ts := d.ts ++ [x.now], kns := kns', rf := drf' } := ⟨_, rfl⟩
  rw [← hd']
  obtain ⟨x', hx'⟩ : ∃ y : Wd, y = { x with T := T', U := U', V := V', now := x.now + 1, rf := x.rf || drf', ds := x.ds.set i d' } := ⟨_, rfl⟩
  rw [← hx']
  have hg : d'.gd = d.gd := by rw [hd']
  have e2 : x'.as = x'.hd ++ ((x.ds.take i).flatMap Dd.as ++ ((d'.hd ++ d'.tl) ++ (x.ds.drop (i + 1)).flatMap Dd.as)) := by
    unfold Wd.as
    rw [show x'.ds = x.ds.set i d' by rw [hx'], set_split _ _ _ hil, List.flatMap_append, List.flatMap_cons]
    rfl
  rw [e2]
  refine M.perm ?_ (perm_deed x'.hd ((x.ds.take i).flatMap Dd.as) d'.hd d'.tl ((x.ds.drop (i + 1)).flatMap Dd.as) fr).symm
  have e3 : d'.hd ++ (x'.hd ++ (d'.tl ++ ((x.ds.take i).flatMap Dd.as ++ ((x.ds.drop (i + 1)).flatMap Dd.as ++ fr)))) = LM d.gd d.kg d.kc x.gw x.tg x.tc x.ug x.uc x.vg x.vc dg dc x.bg x.bc x.ds.length d.k d.key d.v f' tm' (d.ts.length + 1) drf' kns' (d.ts ++ [x.now]) (x.now + 1) x.puts (x.rf || drf') x.wt false x.cv x.ov x.bs (x.ds.map Dd.ptr) T' U' V' (d.tl ++ ((x.ds.take i).flatMap Dd.as ++ ((x.ds.drop (i + 1)).flatMap Dd.as ++ fr))) := by
    have e4 : x'.ds.map Dd.ptr = x.ds.map Dd.ptr := by rw [hx']; exact map_set_ptr x.ds i d d' hd hg
    have e5 : x'.ds.length = x.ds.length := by rw [hx']; simp
    have e6 : d'.tl = d.tl := by rw [hd']; rfl
    rw [e6]
    unfold Dd.hd Wd.hd LM
    rw [e4, e5]
    subst hx' hd'
    simp only [List.length_append, List.length_singleton, hdv, en, er, fd, va, pt, hkv, hvv, hcv, hkp]
    rfl
  rw [e3]
  exact hM
set_option maxRecDepth 100000 in
set_option maxHeartbeats 1600000 in
theorem sys_end (x : Wd) (d : Dd) (c i : Nat) (ak ap av rv rp : Int) (at' rt : ByteArray) (rd drf' : Bool) (kns' V' : List Int) (T' : List ByteArray) (U' : List Bool) (er : Int) (fd : Bool) (va pt : Int) (ks vs : List Int) (cs : List (Int × Int)) (fr : List As) (w0 w : World) (B : Nat) (htab : Tab w0) (hB : B = w0.heap.size) (hc : c < 64) (hb : x.bs[c]? = some (i : Int)) (hd : x.ds[i]? = some d) (hlive : d.live) (hkp : x.kp = false)
    (hStands : x.wt = true → ak ≠ 1 → ∀ W, PgR x.gw x.tg x.tc x.ug x.uc T' U' W → Calls Tryz.prog 46 #[.pointer (some ⟨x.gw, 0, none⟩)] W fun e w' => e = .returned (.bool true) ∧ Below W.heap.size W w')
    (hnd : x.ds.length ≤ 100000000) (hnt : d.ts.length ≤ 100000000) (hnw : 0 ≤ x.now ∧ x.now ≤ 100000000000)
    (hNext : ∀ W, Tab W → Calls Tryz.prog 42 #[.string d.f] W fun e w' => e = .returned (.tuple #[.agg #[.int .i64 ak, .int .i64 ap, .int .i64 av, .string at'], .int .i64 0]) ∧ Below W.heap.size W w')
    (hA : AccR d.k ak ap av at' x.T x.U x.V d.kns d.rf rv rp rt rd T' U' V' kns' drf')
    (hTell : ∀ W, Tab W → Calls Tryz.prog 47 #[.string d.f, .agg #[.int .i64 rv, .int .i64 rp, .string rt, .bool rd]] W fun e w' => FinR er fd va pt ks vs cs W w' e)
    (h : M w0 B w (x.as ++ fr)) :
    Calls Tryz.prog 28 #[.pointer (some ⟨x.gw, 0, none⟩), .int .i64 c] w fun e w' => (∃ u, e = .returned u) ∧ ∃ tm' kv vv cv, M w0 B w' (({ x with T := T', U := U', V := V', bs := x.bs.set c (-1), now := x.now + 1, rf := x.rf || drf', ds := x.ds.set i { d with tm := tm', f := ⟨#[]⟩, ts := d.ts ++ [x.now], kns := kns', rf := drf', en := true, er := er, fd := fd, va := va, pt := pt, kv := kv, vv := vv, cv := cv, ks := ks, vs := vs, cs := cs } } : Wd).as ++ fr) := by
  have hil := (List.getElem?_eq_some_iff.1 hd).1
  have e1 := x.split i d hd
  have hx : x.as = x.hd ++ ((x.ds.take i).flatMap Dd.as ++ ((d.hd ++ d.tl) ++ (x.ds.drop (i + 1)).flatMap Dd.as)) := by unfold Wd.as; rw [e1]
  rw [hx] at h
  have h1 := h.perm (perm_deed x.hd ((x.ds.take i).flatMap Dd.as) d.hd d.tl ((x.ds.drop (i + 1)).flatMap Dd.as) fr)
  obtain ⟨dg, dc, hdv⟩ := As.form (h1.get (i := 5) rfl) (show 0 < x.ds.length by omega)
  obtain ⟨en, her, hfd, hva, hpt, hkv, hvv, hcv, hks, hvs, hcs⟩ := hlive
  have hdp : (x.ds.map Dd.ptr)[i]? = some (.pointer (some ⟨d.gd, 0, none⟩)) := by rw [List.getElem?_map, hd]; rfl
  have hLM : d.hd ++ (x.hd ++ (d.tl ++ ((x.ds.take i).flatMap Dd.as ++ ((x.ds.drop (i + 1)).flatMap Dd.as ++ fr)))) = LM d.gd d.kg d.kc x.gw x.tg x.tc x.ug x.uc x.vg x.vc dg dc x.bg x.bc x.ds.length d.k d.key d.v d.f d.tm d.ts.length d.rf d.kns d.ts x.now x.puts x.rf x.wt false x.cv x.ov x.bs (x.ds.map Dd.ptr) x.T x.U x.V (d.tl ++ ((x.ds.take i).flatMap Dd.as ++ ((x.ds.drop (i + 1)).flatMap Dd.as ++ fr))) := by
    unfold Dd.hd Wd.hd LM
    rw [hdv, en, her, hfd, hva, hpt, hkv, hvv, hcv, hkp]
    rfl
  rw [hLM] at h1
  refine (move_end d.gd d.kg d.kc d.ts.length x.gw x.tg x.tc x.ug x.uc x.vg x.vc dg dc x.bg x.bc x.ds.length i c x.cv x.ov x.now x.puts d.k d.key d.v ak ap av rv rp d.f at' rt rd d.rf drf' x.rf x.wt d.kns kns' x.bs x.V V' (x.ds.map Dd.ptr) d.ts x.T T' x.U U' d.tm er fd va pt ks vs cs _ w0 w B htab hB hc hb hdp hnd (by simp) hnt hnw hNext
    (fun W ga hW => acc_legal hA hW)
    (fun W ga hW => acc_act hA hW)
    (fun W ga gr hW => acc_learns hA hW)
    (fun hw hk W ga gr hW => hStands hw hk W (LM.pg hW))
    hTell h1).mono ?_
  rintro e w' ⟨he, tm', kv, vv, cv, hM⟩
  refine ⟨he, tm', kv, vv, cv, ?_⟩
  obtain ⟨d', hd'⟩ : ∃ y : Dd, y = { d with tm := tm', f := ⟨#[]⟩, ts := d.ts ++ [x.now], kns := kns', rf := drf', en := true, er := er, fd := fd, va := va, pt := pt, kv := kv, vv := vv, cv := cv, ks := ks, vs := vs, cs := cs } := ⟨_, rfl⟩
  rw [← hd']
  obtain ⟨x', hx'⟩ : ∃ y : Wd, y = { x with T := T', U := U', V := V', bs := x.bs.set c (-1), now := x.now + 1, rf := x.rf || drf', ds := x.ds.set i d' } := ⟨_, rfl⟩
  rw [← hx']
  have hg : d'.gd = d.gd := by rw [hd']
  have e2 : x'.as = x'.hd ++ ((x.ds.take i).flatMap Dd.as ++ ((d'.hd ++ d'.tl) ++ (x.ds.drop (i + 1)).flatMap Dd.as)) := by
    unfold Wd.as
    rw [show x'.ds = x.ds.set i d' by rw [hx'], set_split _ _ _ hil, List.flatMap_append, List.flatMap_cons]
    rfl
  rw [e2]
  refine M.perm ?_ (perm_deed x'.hd ((x.ds.take i).flatMap Dd.as) d'.hd d'.tl ((x.ds.drop (i + 1)).flatMap Dd.as) fr).symm
  have e4 : x'.ds.map Dd.ptr = x.ds.map Dd.ptr := by rw [hx']; exact map_set_ptr x.ds i d d' hd hg
  have e5 : x'.ds.length = x.ds.length := by rw [hx']; simp
  have e3 : d'.tl ++ (d'.hd ++ (x'.hd ++ (d.tl ++ ((x.ds.take i).flatMap Dd.as ++ ((x.ds.drop (i + 1)).flatMap Dd.as ++ fr))))) = LE d.gd d.kg d.kc x.gw x.tg x.tc x.ug x.uc x.vg x.vc dg dc x.bg x.bc x.ds.length d.k d.key d.v tm' (d.ts.length + 1) drf' er fd va pt kv vv cv ks vs cs kns' (d.ts ++ [x.now]) (x.now + 1) x.puts (x.rf || drf') x.wt false x.cv x.ov (x.bs.set c (-1)) (x.ds.map Dd.ptr) T' U' V' (d.tl ++ ((x.ds.take i).flatMap Dd.as ++ ((x.ds.drop (i + 1)).flatMap Dd.as ++ fr))) := by
    obtain ⟨z, hz⟩ : ∃ z, d.tl ++ ((x.ds.take i).flatMap Dd.as ++ ((x.ds.drop (i + 1)).flatMap Dd.as ++ fr)) = z := ⟨_, rfl⟩
    rw [hz]
    unfold Dd.hd Dd.tl Wd.hd LE
    rw [e4, e5]
    subst hx' hd'
    simp only [List.length_append, List.length_singleton, hdv, hkp]
    rfl
  rw [← e3] at hM
  have h5 := hM.perm (l' := d'.tl ++ (d'.hd ++ (x'.hd ++ ((x.ds.take i).flatMap Dd.as ++ ((x.ds.drop (i + 1)).flatMap Dd.as ++ fr)))) ++ d.tl) (by
    refine (List.perm_append_comm).trans ?_
    refine (List.perm_append_comm_assoc _ _ _).trans (List.Perm.append_left _ ?_)
    refine (List.perm_append_comm_assoc _ _ _).trans (List.Perm.append_left _ ?_)
    exact List.perm_append_comm_assoc _ _ _)
  have h6 := h5.sub (List.sublist_append_left _ _)
  exact h6.perm ((List.Perm.append_left _ (List.perm_append_comm_assoc _ _ _)).trans (List.perm_append_comm_assoc _ _ _))
end Go.Proofs.YtajobgmnmbnhiaaGreatDoor.Sap
