/- WHAT IS PROVED HERE: saplingkeep's alone: an operation that only reads moves alone till it ends. Conditions: each of its states leads on (hGo); the pages that it asks for are there. -/
import Derived.Test.YtajobgmnmbnhiaaGreatDoorXB3S3
import Derived.Test.YtajobgmnmbnhiaaGreatDoorXT8L1
import Derived.Test.YtajobgmnmbnhiaaGreatDoorXB4B5
import Derived.Test.YtajobgmnmbnhiaaGreatDoorXL3D2
import Derived.Deep.RegionHeld3
namespace Go.Proofs.YtajobgmnmbnhiaaGreatDoor.Sap
open Go.RowKit

/-- Each state of an operation leads to another, or to its end. -/
def Leads (T : List ByteArray) (U : List Bool) (P : Nat → St → Prop) (Q : Nat → Out → Prop) : Prop :=
  ∀ j s f, P j s → f.data.toList = frT s → j < 64 ∧ (StOk s ∧ s.sw = ⟨#[]⟩) ∧ ∃ (pg : Nat) (t : ByteArray), s.pg = (pg : Int) ∧ pg < 64 ∧ U[pg]? = some true ∧ T[pg]? = some t ∧
    ((∃ s', P (j + 1) s' ∧ ∀ W, Tab W → Calls Tryz.prog 47 #[.string f, .agg #[.int .i64 0, .int .i64 0, .string t, .bool false]] W fun e w' => TellR (.on s') W w' e) ∨
     (∃ fd va pt ks vs cs, Q (j + 1) (.fin fd va pt ks vs cs) ∧ ∀ W, Tab W → Calls Tryz.prog 47 #[.string f, .agg #[.int .i64 0, .int .i64 0, .string t, .bool false]] W fun e w' => TellR (.fin fd va pt ks vs cs) W w' e))

set_option maxRecDepth 100000 in
set_option maxHeartbeats 6400000 in
theorem alone_any (P : Nat → St → Prop) (Q : Nat → Out → Prop) (gd kg kc gw tg tc ug uc vg vc dg dc bg bc nd i : Nat) (cv ov : Value) (now puts : Int) (k key v : Int) (f : ByteArray) (kns ds bs vers : List Value) (T : List ByteArray) (U : List Bool) (s : St) (fr : List As) (w0 w : World) (B : Nat) (htab : Tab w0) (hB : B = w0.heap.size)
    (hGo : Leads T U P Q) (hP : P 0 s) (hf : f.data.toList = frT s) (hV : ∀ pg, pg < 64 → vers[pg]? = some (.int .i64 0)) (hD : ds[i]? = some (.pointer (some ⟨gd, 0, none⟩))) (hnd : nd ≤ 1000) (hdl : ds.length = nd) (hnw : 0 ≤ now ∧ now ≤ 1000)
    (h : M w0 B w (.blk gd (DC k key v f (.slice none 0 0) (.slice (some ⟨kg, 0, none⟩) 64 kc) false false 0 false 0 0 (.slice none 0 0) (.slice none 0 0) (.slice none 0 0)) 48 :: .row 3 1 (.slice (some ⟨kg, 0, none⟩) 64 kc) 64 kns :: .row 3 1 (.slice none 0 0) (0) (ints ([])) :: .blk gw (WC (.slice (some ⟨tg, 0, none⟩) 64 tc) (.slice (some ⟨ug, 0, none⟩) 64 uc) (.slice (some ⟨vg, 0, none⟩) 64 vc) (.slice (some ⟨dg, 0, none⟩) nd dc) (.slice (some ⟨bg, 0, none⟩) 64 bc) now puts false false false false false cv ov false) 34 :: .row 3 1 (.slice (some ⟨bg, 0, none⟩) 64 bc) 64 (.int .i64 (i : Int) :: bs) :: .row 40 1 (.slice (some ⟨dg, 0, none⟩) nd dc) nd ds :: .row 9 1 (.slice (some ⟨tg, 0, none⟩) 64 tc) 64 (strs T) :: .row 4 1 (.slice (some ⟨ug, 0, none⟩) 64 uc) 64 (bools U) :: .row 3 1 (.slice (some ⟨vg, 0, none⟩) 64 vc) 64 vers :: fr)) :
    Calls Tryz.prog 11 #[.pointer (some ⟨gw, 0, none⟩), .int .i64 0] w fun e w' => (∃ u, e = .returned u) ∧ ∃ (j : Nat) (fd : Bool) (va pt : Int) (ks vs : List Int) (cs : List (Int × Int)) (tm : Value) (kns' : List Value) (kv vv cv' : Value), j ≤ 64 ∧ Q j (.fin fd va pt ks vs cs) ∧
      M w0 B w' (.row 3 1 kv ks.length (ints ks) :: .row 3 1 vv vs.length (ints vs) :: .row 76 2 cv' cs.length (cutc cs) :: .blk gd (DC k key v ⟨#[]⟩ tm (.slice (some ⟨kg, 0, none⟩) 64 kc) false true 0 fd va pt kv vv cv') 48 :: .row 3 1 (.slice (some ⟨kg, 0, none⟩) 64 kc) 64 kns' :: .row 3 1 tm (j) (ints (tsq now j)) :: .blk gw (WC (.slice (some ⟨tg, 0, none⟩) 64 tc) (.slice (some ⟨ug, 0, none⟩) 64 uc) (.slice (some ⟨vg, 0, none⟩) 64 vc) (.slice (some ⟨dg, 0, none⟩) nd dc) (.slice (some ⟨bg, 0, none⟩) 64 bc) (now + j) puts false false false false false cv ov false) 34 :: .row 3 1 (.slice (some ⟨bg, 0, none⟩) 64 bc) 64 (.int .i64 (-1) :: bs) :: .row 40 1 (.slice (some ⟨dg, 0, none⟩) nd dc) nd ds :: .row 9 1 (.slice (some ⟨tg, 0, none⟩) 64 tc) 64 (strs T) :: .row 4 1 (.slice (some ⟨ug, 0, none⟩) 64 uc) 64 (bools U) :: .row 3 1 (.slice (some ⟨vg, 0, none⟩) 64 vc) 64 vers :: fr) := by
  obtain ⟨hn0, hn1⟩ := hnw
  have hi1 : i < nd := by rw [← hdl]; exact (List.getElem?_eq_some_iff.1 hD).1
  have hi2 : (0 : Int) ≤ (i : Int) := by omega
  have HM := hideIt h
  have HG := hideIt hGo
  have HP := hideIt hP
  have HF := hideIt hf
  have HV := hideIt hV
  have HD := hideIt hD
  have HDL := hideIt hdl
  have HB := hideIt hB
  have HTB := hideIt htab
  clear h hGo hP hf hV hD hdl hB htab
  go_enter Tryz.func11, Tryz.ntmps11
  go_wp2
  go_loopw [4] (fun x wr => ∃ j : Nat, x = .int .i64 j ∧ j ≤ 64 ∧ ((∃ s f tm kns, Hid (P j s) ∧ Hid (f.data.toList = frT s) ∧ Hid (M w0 B wr (.blk gd (DC k key v f tm (.slice (some ⟨kg, 0, none⟩) 64 kc) false false 0 false 0 0 (.slice none 0 0) (.slice none 0 0) (.slice none 0 0)) 48 :: .row 3 1 (.slice (some ⟨kg, 0, none⟩) 64 kc) 64 kns :: .row 3 1 tm (j) (ints (tsq now j)) :: .blk gw (WC (.slice (some ⟨tg, 0, none⟩) 64 tc) (.slice (some ⟨ug, 0, none⟩) 64 uc) (.slice (some ⟨vg, 0, none⟩) 64 vc) (.slice (some ⟨dg, 0, none⟩) nd dc) (.slice (some ⟨bg, 0, none⟩) 64 bc) (now + j) puts false false false false false cv ov false) 34 :: .row 3 1 (.slice (some ⟨bg, 0, none⟩) 64 bc) 64 (.int .i64 (i : Int) :: bs) :: .row 40 1 (.slice (some ⟨dg, 0, none⟩) nd dc) nd ds :: .row 9 1 (.slice (some ⟨tg, 0, none⟩) 64 tc) 64 (strs T) :: .row 4 1 (.slice (some ⟨ug, 0, none⟩) 64 uc) 64 (bools U) :: .row 3 1 (.slice (some ⟨vg, 0, none⟩) 64 vc) 64 vers :: fr))) ∨ (∃ (fd : Bool) (va pt : Int) (ks vs : List Int) (cs : List (Int × Int)) (tm : Value) (kns' : List Value) (kv vv cv' : Value), Hid (Q j (.fin fd va pt ks vs cs)) ∧ Hid (M w0 B wr (.row 3 1 kv ks.length (ints ks) :: .row 3 1 vv vs.length (ints vs) :: .row 76 2 cv' cs.length (cutc cs) :: .blk gd (DC k key v ⟨#[]⟩ tm (.slice (some ⟨kg, 0, none⟩) 64 kc) false true 0 fd va pt kv vv cv') 48 :: .row 3 1 (.slice (some ⟨kg, 0, none⟩) 64 kc) 64 kns' :: .row 3 1 tm (j) (ints (tsq now j)) :: .blk gw (WC (.slice (some ⟨tg, 0, none⟩) 64 tc) (.slice (some ⟨ug, 0, none⟩) 64 uc) (.slice (some ⟨vg, 0, none⟩) 64 vc) (.slice (some ⟨dg, 0, none⟩) nd dc) (.slice (some ⟨bg, 0, none⟩) 64 bc) (now + j) puts false false false false false cv ov false) 34 :: .row 3 1 (.slice (some ⟨bg, 0, none⟩) 64 bc) 64 (.int .i64 (-1) :: bs) :: .row 40 1 (.slice (some ⟨dg, 0, none⟩) nd dc) nd ds :: .row 9 1 (.slice (some ⟨tg, 0, none⟩) 64 tc) 64 (strs T) :: .row 4 1 (.slice (some ⟨ug, 0, none⟩) 64 uc) 64 (bools U) :: .row 3 1 (.slice (some ⟨vg, 0, none⟩) 64 vc) 64 vers :: fr))))) (fun x _ => 1000 - (intOf x).toNat)
  case atStart => exact ⟨0, rfl, by omega, Or.inl ⟨s, f, _, kns, HP.out, HF.out, by unfold Hid; rw [show now + ((0 : Nat) : Int) = now by omega]; exact HM.out⟩⟩
  case round =>
    clear HM HP HF
    obtain ⟨j, rfl, hj, hE⟩ := hrel
    rcases hE with ⟨s1, f1, tm, kns1, hP1, hf1, hM⟩ | ⟨fd, va, pt, ks, vs, cs, tm, kns1, kv, vv, cv', hQ, hM⟩
    · obtain ⟨hj64, hS, pg, t, e1, e2, e3, e4, e5⟩ := HG.out j s1 f1 hP1.out hf1.out
      have hj1 : (j : Int) < 1000 := by omega
      have g14 := hM.out.cell (i := 3) rfl 14 (.bool false) rfl
      have g4 := hM.out.cell (i := 3) rfl 4 (.slice (some ⟨bg, 0, none⟩) 64 bc) rfl
      have b0 := hM.out.rowCell (i := 4) rfl 0 (.int .i64 i) rfl
      rcases e5 with ⟨s', hP', hTell⟩ | ⟨fd, va, pt, ks, vs, cs, hQ', hTell⟩
      · have CM := hideIt (move_on gd kg kc j gw tg tc ug uc vg vc dg dc bg bc nd i pg cv ov (now + j) puts k key v f1 t kns1 ds bs vers (tsq now j) T U 0 tm s1 s' fr w0 wr B HTB.out HB.out hf1.out hS e1 e2 e3 e4 (HV.out pg e2) HD.out hnd HDL.out (by omega) ⟨by omega, by omega⟩ hTell hM.out)
        have HP2 := hideIt hP'
        clear hM hP1 hf1 hS e1 e2 e3 e4 hTell hP'
        go_wp2_with fail
        refine CM.out.mono ?_
        rintro e w1 ⟨⟨u, rfl⟩, tm', kns', f', hf', hM1⟩
        clear CM g14 g4 b0
        have HF2 := hideIt hf'
        have H1 := hideIt hM1
        clear hf' hM1
        go_wp2
        go_roundw
        case rel => exact ⟨j + 1, by go_num, by omega, Or.inl ⟨s', f', tm', kns', HP2.out, HF2.out, by unfold Hid; rw [tsq_succ, show now + ((j + 1 : Nat) : Int) = now + j + 1 by omega]; exact H1.out⟩⟩
        case measure => simp [intOf]; omega
      · have CM := hideIt (move_fin gd kg kc j gw tg tc ug uc vg vc dg dc bg bc nd i pg cv ov (now + j) puts k key v f1 t kns1 ds bs vers (tsq now j) T U 0 tm s1 fd va pt ks vs cs fr w0 wr B HTB.out HB.out hf1.out hS e1 e2 e3 e4 (HV.out pg e2) HD.out hnd HDL.out (by omega) ⟨by omega, by omega⟩ hTell hM.out)
        have HQ2 := hideIt hQ'
        clear hM hP1 hf1 hS e1 e2 e3 e4 hTell hQ'
        go_wp2_with fail
        refine CM.out.mono ?_
        rintro e w1 ⟨⟨u, rfl⟩, tm', kns', kv, vv, cv', hM1⟩
        clear CM g14 g4 b0
        have H1 := hideIt hM1
        clear hM1
        go_wp2
        go_roundw
        case rel => exact ⟨j + 1, by go_num, by omega, Or.inr ⟨fd, va, pt, ks, vs, cs, tm', kns', kv, vv, cv', HQ2.out, by unfold Hid; rw [tsq_succ, show now + ((j + 1 : Nat) : Int) = now + j + 1 by omega]; exact H1.out⟩⟩
        case measure => simp [intOf]; omega
    · have hj1 : (j : Int) < 1000 := by omega
      have g14 := hM.out.cell (i := 6) rfl 14 (.bool false) rfl
      have g4 := hM.out.cell (i := 6) rfl 4 (.slice (some ⟨bg, 0, none⟩) 64 bc) rfl
      have b0 := hM.out.rowCell (i := 7) rfl 0 (.int .i64 (-1)) rfl
      have e14 := hM.out.free (i := 6) rfl 14
      have S1 := hideIt (hM.out.store (i := 6) (j := 14) rfl (.bool false) rfl)
      clear hM
      go_wp2
      exact bodyPost_end (results_none Tryz.results11 _ _ _) rfl ⟨⟨_, rfl⟩, j, fd, va, pt, ks, vs, cs, tm, kns1, kv, vv, cv', hj, hQ.out, S1.out⟩
end Go.Proofs.YtajobgmnmbnhiaaGreatDoor.Sap

/- WHAT IS PROVED HERE: what tree.scanned answers: a Scan's answer, its cuts in a list of their own. Conditions: the two lists of cuts are of one length, at most 64. -/
namespace Go.Proofs.YtajobgmnmbnhiaaGreatDoor.Sap
open Go.RowKit

theorem infoCut : (Tryz.prog.info? 76).map (fun i => (i.zero, i.size, i.bytes)) = some (some (.agg #[.int .i64 0, .int .i64 0]), 2, 16) := by kernel_rfl
theorem cutc_snoc (cs : List (Int × Int)) (c : Int × Int) : cutc (cs ++ [c]) = cutc cs ++ [.int .i64 c.1, .int .i64 c.2] := by simp [cutc]

set_option maxRecDepth 100000 in
set_option maxHeartbeats 6400000 in
theorem scanned_any (s : St) (kv vv bv pv xv yv : Value) (w : World) (hv : StV w s kv vv bv pv xv yv) (hl : s.bel.length = s.pts.length) (h64 : s.bel.length ≤ 64) :
    Calls Tryz.prog 104 #[.agg #[.int .i64 s.kd, .int .i64 s.key, .int .i64 s.val, .int .i64 s.step, .int .i64 s.pg, kv, vv, bv, pv, .string s.sw, .int .i64 s.ver, xv, yv, .int .i64 s.laid, .int .i64 s.lv, .int .i64 s.low, .int .i64 s.ch, .int .i64 s.pt]] w fun e w' => ∃ cv, e = .returned (.agg #[.int .i64 0, .bool (decide (0 < s.keys.length)), .int .i64 s.keys.length, .int .i64 s.step, kv, vv, cv]) ∧ M w w.heap.size w' [.row 76 2 cv s.bel.length (cutc (s.bel.zip s.pts))] := by
  obtain ⟨j0, hj0, hy0, hy1, hy2⟩ := info_parts infoCut
  obtain ⟨ak, ck, rfl⟩ := hv.keys.len
  obtain ⟨av, cv0, rfl⟩ := hv.vals.len
  obtain ⟨ab, cb, rfl⟩ := hv.bel.len
  obtain ⟨ap, cp, rfl⟩ := hv.pts.len
  obtain ⟨ax, cx, rfl⟩ := hv.sp.len
  obtain ⟨ay, cy, rfl⟩ := hv.sv.len
  have HB := hideIt hv.bel
  have HP := hideIt hv.pts
  obtain ⟨m, hm⟩ : ∃ m, s.bel.length = m := ⟨_, rfl⟩
  obtain ⟨kl, hkl⟩ : ∃ m, s.keys.length = m := ⟨_, rfl⟩
  obtain ⟨vl, hvl⟩ : ∃ m, s.vals.length = m := ⟨_, rfl⟩
  have HM := hideIt hm
  have HL := hideIt hl
  rw [← hl] at HP ⊢
  rw [hm] at HB HP h64 ⊢
  rw [hkl, hvl]
  clear hv hl hm hkl hvl
  have A0 := hideIt (M.rowNil (e := 76) (z := 2) ((((M.start w).alloc #[.int .i64 s.kd, .int .i64 s.key, .int .i64 s.val, .int .i64 s.step, .int .i64 s.pg, .slice ak kl ck, .slice av vl cv0, .slice ab m cb, .slice ap m cp, .string s.sw, .int .i64 s.ver, .slice ax s.sp.length cx, .slice ay s.sv.length cy, .int .i64 s.laid, .int .i64 s.lv, .int .i64 s.low, .int .i64 s.ch, .int .i64 s.pt] 92).alloc #[.int .i64 0, .bool false, .int .i64 0, .int .i64 0, .slice none 0 0, .slice none 0 0, .slice none 0 0] 46).alloc #[.int .i64 0, .bool (decide (0 < kl)), .int .i64 kl, .int .i64 s.step, .slice ak kl ck, .slice av vl cv0, .slice none 0 0] 46))
  rw [alloc_size, alloc_size] at A0
  go_enter Tryz.func104, Tryz.ntmps104
  go_wp2
  go_loopw [4] (fun i wr => ∃ k : Nat, ∃ cv : Value, k ≤ m ∧ i = .int .i64 k ∧ Hid (M w w.heap.size wr [.blk (w.heap.size + 1 + 1) #[.int .i64 0, .bool (decide (0 < kl)), .int .i64 kl, .int .i64 s.step, .slice ak kl ck, .slice av vl cv0, cv] 46, .row 76 2 cv k (cutc ((s.bel.zip s.pts).take k)), .blk (w.heap.size + 1) #[.int .i64 0, .bool false, .int .i64 0, .int .i64 0, .slice none 0 0, .slice none 0 0, .slice none 0 0] 46, .blk w.heap.size #[.int .i64 s.kd, .int .i64 s.key, .int .i64 s.val, .int .i64 s.step, .int .i64 s.pg, .slice ak kl ck, .slice av vl cv0, .slice ab m cb, .slice ap m cp, .string s.sw, .int .i64 s.ver, .slice ax s.sp.length cx, .slice ay s.sv.length cy, .int .i64 s.laid, .int .i64 s.lv, .int .i64 s.low, .int .i64 s.ch, .int .i64 s.pt] 92])) (fun i _ => m - (intOf i).toNat)
  case atStart =>
    exact ⟨0, .slice none 0 0, Nat.zero_le _, rfl, A0.out⟩
  case round =>
    clear A0
    obtain ⟨k, cv, hk, rfl, hM⟩ := hrel
    obtain ⟨ca, cc, rfl⟩ := As.form0 (hM.out.get (i := 1) rfl)
    have c6 := hM.out.cell (i := 0) rfl 6 (.slice ca k cc) rfl
    have f6 := hM.out.free (i := 0) rfl 6
    have s5 := hM.out.cell (i := 3) rfl 7 (.slice ab m cb) rfl
    have s6 := hM.out.cell (i := 3) rfl 8 (.slice ap m cp) rfl
    have hlg := hM.out.lt (i := 0) rfl
    by_cases hlt : k < m
    · obtain ⟨b1, o1, rfl, -, x1⟩ := HB.out.elem k hlt
      obtain ⟨b2, o2, rfl, -, x2⟩ := HP.out.elem k hlt
      obtain ⟨a, ha⟩ : ∃ y, s.bel[k]?.getD 0 = y := ⟨_, rfl⟩
      obtain ⟨b, hb⟩ : ∃ y, s.pts[k]?.getD 0 = y := ⟨_, rfl⟩
      rw [ha] at x1
      rw [hb] at x2
      have HX1 := hideIt x1
      have HX2 := hideIt x2
      have HCT : Hid (cutc ((s.bel.zip s.pts).take (k + 1)) = cutc ((s.bel.zip s.pts).take k) ++ [.int .i64 a, .int .i64 b]) := by
        have hk1 : k < s.bel.length := by rw [HM.out]; exact hlt
        have hk2 : k < s.pts.length := by rw [← HL.out]; exact hk1
        rw [List.getElem?_eq_getElem hk1] at ha
        rw [List.getElem?_eq_getElem hk2] at hb
        simp only [Option.getD_some] at ha hb
        have hz : (s.bel.zip s.pts)[k]? = some (a, b) := by rw [List.getElem?_zip_eq_some]; exact ⟨by rw [List.getElem?_eq_getElem hk1, ha], by rw [List.getElem?_eq_getElem hk2, hb]⟩
        unfold Hid
        rw [List.take_add_one, hz, Option.toList_some, cutc_snoc]
      have y1 := x1 _ hM.out.bl
      have y2 := x2 _ hM.out.bl
      have hb1 := HB.out.blk_lt k hlt
      have hb2 := HP.out.blk_lt k hlt
      have hkk : (0 : Int) ≤ (k : Int) := by omega
      have hkl : (k : Int) < (m : Int) := by omega
      have hn1 : b1 ≠ w.heap.size + 1 + 1 := by omega
      have hn2 : b2 ≠ w.heap.size + 1 + 1 := by omega
      have hn3 : w.heap.size + 1 + 1 ≠ b1 := by omega
      have hn4 : w.heap.size + 1 + 1 ≠ b2 := by omega
      have hw1 : w.heap.size < wr.heap.size := by omega
      have hw2 : b1 < wr.heap.size := by omega
      have hw3 : b2 < wr.heap.size := by omega
      clear x1 x2 ha hb
      go_wp2
      go_region_law (refine step_append_lies _ rfl _ _ 44 rfl w.heap.size 76 j0 (.agg #[.int .i64 0, .int .i64 0]) 2 16 Tryz.underlying44 hj0 hy0 hy1 hy2 rfl (by decide) _ k (cutc ((s.bel.zip s.pts).take k)) rfl (World.ownsRow.alloc (hM.out.get (i := 1) rfl) _) ⟨_, 0, none⟩ 1 1 [.int .i64 a, .int .i64 b] rfl rfl (World.news_of_block (heap_alloc_new _ _)) (by simp [Value.oneCell']) (by omega) (by unfold maxLen; omega) (by omega) (by have := hM.out.sz; simp at this ⊢; omega) _ rfl ?_; intro g1 cap1 w5 hown hgrow hat hlt1; rw [← HCT.out] at hown; have hm := (hM.out.allocd _).drew.lies (i := 1) rfl hown hgrow hat; clear c6 f6 s5 s6 y1 y2 hown hgrow hat; have c6 := hm.cell (i := 0) rfl 6 (.slice ca k cc) rfl; have f6 := hm.free (i := 0) rfl 6; have s5 := hm.cell (i := 3) rfl 7 (.slice (some ⟨b1, o1, none⟩) m cb) rfl; have s6 := hm.cell (i := 3) rfl 8 (.slice (some ⟨b2, o2, none⟩) m cp) rfl; have y1 := HX1.out _ hm.bl; have y2 := HX2.out _ hm.bl; have H1 := hideIt (hm.store (i := 0) (j := 6) rfl (.slice (some ⟨g1, 0, none⟩) (k + 1) cap1) rfl); clear hm)
      all_goals
        go_wp2
        go_roundw
        case rel => exact ⟨k + 1, _, by omega, by go_num, H1.out⟩
        case measure => simp [intOf]; omega
    · obtain rfl : k = m := by omega
      have r := fun j v hv => hM.out.cell (i := 2) rfl j v hv
      have hz : (s.bel.zip s.pts).take k = s.bel.zip s.pts := List.take_of_length_le (by rw [List.length_zip, HM.out]; omega)
      rw [hz] at hM
      have HN := hideIt hM
      have a0 := HN.out.out.cell (i := 0) rfl 0 (.int .i64 0) rfl
      have a1 := HN.out.out.cell (i := 0) rfl 1 (.bool (decide (0 < kl))) rfl
      have a2 := HN.out.out.cell (i := 0) rfl 2 (.int .i64 kl) rfl
      have a3 := HN.out.out.cell (i := 0) rfl 3 (.int .i64 s.step) rfl
      have a4 := HN.out.out.cell (i := 0) rfl 4 (.slice ak kl ck) rfl
      have a5 := HN.out.out.cell (i := 0) rfl 5 (.slice av vl cv0) rfl
      have r0 := r 0 (.int .i64 0) rfl
      have r1 := r 1 (.bool false) rfl
      have r2 := r 2 (.int .i64 0) rfl
      have r3 := r 3 (.int .i64 0) rfl
      have r4 := r 4 (.slice none 0 0) rfl
      have r5 := r 5 (.slice none 0 0) rfl
      have r6 := r 6 (.slice none 0 0) rfl
      have g := fun j => HN.out.out.free (i := 2) rfl j
      have g0 := g 0
      have g1 := g 1
      have g2 := g 2
      have g3 := g 3
      have g4 := g 4
      have g5 := g 5
      have g6 := g 6
      have S7 := hideIt ((HN.out.out.store7 (i := 2) rfl (.int .i64 0) (.bool (decide (0 < kl))) (.int .i64 kl) (.int .i64 s.step) (.slice ak kl ck) (.slice av vl cv0) (.slice ca k cc)))
      clear r g hz hM HN
      go_wp2
      refine bodyPost_ret (v := .agg #[.int .i64 0, .bool (decide (0 < kl)), .int .i64 kl, .int .i64 s.step, .slice ak kl ck, .slice av vl cv0, .slice ca k cc]) (by simp [results, Tryz.results104, go_sem, *]) rfl ⟨_, rfl, ?_⟩
      exact S7.out.sub (List.Sublist.trans (List.Sublist.cons_cons _ (List.nil_sublist _)) (List.sublist_cons_self _ _))
end Go.Proofs.YtajobgmnmbnhiaaGreatDoor.Sap
