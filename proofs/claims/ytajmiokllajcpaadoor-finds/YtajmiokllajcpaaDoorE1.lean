/- WHAT IS PROVED HERE: saplingkeep's alone: an operation that only reads moves alone till it ends. Conditions: each of its states leads on (hGo); the pages that it asks for are there. -/
import Derived.Test.YtajmiokllajcpaaDoorB4
import Derived.Test.YtajmiokllajcpaaDoorB5
import Derived.Test.YtajmiokllajcpaaDoorD2
namespace Go.Proofs.YtajmiokllajcpaaDoor.Sap
open Go.RowKit

/-- Each state of an operation leads to another, or to its end. -/
def Leads (T : List ByteArray) (U : List Bool) (P : Nat → St → Prop) (Q : Nat → Out → Prop) : Prop :=
  ∀ j s f, P j s → f.data.toList = frT s → j < 64 ∧ StOk s ∧ ∃ (pg : Nat) (t : ByteArray), s.pg = (pg : Int) ∧ pg < 64 ∧ U[pg]? = some true ∧ T[pg]? = some t ∧
    ((∃ s', P (j + 1) s' ∧ ∀ W, Tab W → Calls Tryd.prog 69 #[.string f, .agg #[.int .i64 0, .int .i64 0, .string t, .bool false]] W fun e w' => TellR (.on s') W w' e) ∨
     (∃ fd va pt ks vs cs, Q (j + 1) (.fin fd va pt ks vs cs) ∧ ∀ W, Tab W → Calls Tryd.prog 69 #[.string f, .agg #[.int .i64 0, .int .i64 0, .string t, .bool false]] W fun e w' => TellR (.fin fd va pt ks vs cs) W w' e))

set_option maxRecDepth 100000 in
set_option maxHeartbeats 6400000 in
theorem alone_any (P : Nat → St → Prop) (Q : Nat → Out → Prop) (gd kg kc gw tg tc ug uc vg vc dg dc bg bc nd i : Nat) (cv ov : Value) (now puts : Int) (k key v : Int) (f : ByteArray) (kns ds bs vers : List Value) (T : List ByteArray) (U : List Bool) (s : St) (fr : List As) (w0 w : World) (B : Nat) (htab : Tab w0) (hB : B = w0.heap.size)
    (hGo : Leads T U P Q) (hP : P 0 s) (hf : f.data.toList = frT s) (hV : ∀ pg, pg < 64 → vers[pg]? = some (.int .i64 0)) (hD : ds[i]? = some (.pointer (some ⟨gd, 0, none⟩))) (hnd : nd ≤ 1000) (hdl : ds.length = nd) (hnw : 0 ≤ now ∧ now ≤ 1000)
    (h : M w0 B w (.blk gd (DC k key v f (.slice none 0 0) (.slice (some ⟨kg, 0, none⟩) 64 kc) false false 0 false 0 0 (.slice none 0 0) (.slice none 0 0) (.slice none 0 0)) 68 :: .row 3 1 (.slice (some ⟨kg, 0, none⟩) 64 kc) 64 kns :: .row 3 1 (.slice none 0 0) (0) (ints ([])) :: .blk gw (WC (.slice (some ⟨tg, 0, none⟩) 64 tc) (.slice (some ⟨ug, 0, none⟩) 64 uc) (.slice (some ⟨vg, 0, none⟩) 64 vc) (.slice (some ⟨dg, 0, none⟩) nd dc) (.slice (some ⟨bg, 0, none⟩) 64 bc) now puts false false false false false cv ov false) 58 :: .row 3 1 (.slice (some ⟨bg, 0, none⟩) 64 bc) 64 (.int .i64 (i : Int) :: bs) :: .row 61 1 (.slice (some ⟨dg, 0, none⟩) nd dc) nd ds :: .row 9 1 (.slice (some ⟨tg, 0, none⟩) 64 tc) 64 (strs T) :: .row 4 1 (.slice (some ⟨ug, 0, none⟩) 64 uc) 64 (bools U) :: .row 3 1 (.slice (some ⟨vg, 0, none⟩) 64 vc) 64 vers :: fr)) :
    Calls Tryd.prog 26 #[.pointer (some ⟨gw, 0, none⟩), .int .i64 0] w fun e w' => (∃ u, e = .returned u) ∧ ∃ (j : Nat) (fd : Bool) (va pt : Int) (ks vs : List Int) (cs : List (Int × Int)) (tm : Value) (kns' : List Value) (kv vv cv' : Value), j ≤ 64 ∧ Q j (.fin fd va pt ks vs cs) ∧
      M w0 B w' (.row 3 1 kv ks.length (ints ks) :: .row 3 1 vv vs.length (ints vs) :: .row 94 2 cv' cs.length (cutc cs) :: .blk gd (DC k key v ⟨#[]⟩ tm (.slice (some ⟨kg, 0, none⟩) 64 kc) false true 0 fd va pt kv vv cv') 68 :: .row 3 1 (.slice (some ⟨kg, 0, none⟩) 64 kc) 64 kns' :: .row 3 1 tm (j) (ints (tsq now j)) :: .blk gw (WC (.slice (some ⟨tg, 0, none⟩) 64 tc) (.slice (some ⟨ug, 0, none⟩) 64 uc) (.slice (some ⟨vg, 0, none⟩) 64 vc) (.slice (some ⟨dg, 0, none⟩) nd dc) (.slice (some ⟨bg, 0, none⟩) 64 bc) (now + j) puts false false false false false cv ov false) 58 :: .row 3 1 (.slice (some ⟨bg, 0, none⟩) 64 bc) 64 (.int .i64 (-1) :: bs) :: .row 61 1 (.slice (some ⟨dg, 0, none⟩) nd dc) nd ds :: .row 9 1 (.slice (some ⟨tg, 0, none⟩) 64 tc) 64 (strs T) :: .row 4 1 (.slice (some ⟨ug, 0, none⟩) 64 uc) 64 (bools U) :: .row 3 1 (.slice (some ⟨vg, 0, none⟩) 64 vc) 64 vers :: fr) := by
  obtain ⟨hn0, hn1⟩ := hnw
  have hi1 : i < nd := by rw [← hdl]; exact (List.getElem?_eq_some_iff.1 hD).1
  have hi2 : (0 : Int) ≤ (i : Int) := by omega
  have HM := hideIt h
  have HG := hideIt hGo
  have HP := hideIt hP
  have HF := hideIt hf
  have HV := hideIt hV
  have HD := hideIt hD
  have HDL := hideIt hdl
  have HB := hideIt hB
  have HTB := hideIt htab
  clear h hGo hP hf hV hD hdl hB htab
  go_enter Tryd.func26, Tryd.ntmps26
  go_wp2
  go_loopw [4] (fun x wr => ∃ j : Nat, x = .int .i64 j ∧ j ≤ 64 ∧ ((∃ s f tm kns, Hid (P j s) ∧ Hid (f.data.toList = frT s) ∧ Hid (M w0 B wr (.blk gd (DC k key v f tm (.slice (some ⟨kg, 0, none⟩) 64 kc) false false 0 false 0 0 (.slice none 0 0) (.slice none 0 0) (.slice none 0 0)) 68 :: .row 3 1 (.slice (some ⟨kg, 0, none⟩) 64 kc) 64 kns :: .row 3 1 tm (j) (ints (tsq now j)) :: .blk gw (WC (.slice (some ⟨tg, 0, none⟩) 64 tc) (.slice (some ⟨ug, 0, none⟩) 64 uc) (.slice (some ⟨vg, 0, none⟩) 64 vc) (.slice (some ⟨dg, 0, none⟩) nd dc) (.slice (some ⟨bg, 0, none⟩) 64 bc) (now + j) puts false false false false false cv ov false) 58 :: .row 3 1 (.slice (some ⟨bg, 0, none⟩) 64 bc) 64 (.int .i64 (i : Int) :: bs) :: .row 61 1 (.slice (some ⟨dg, 0, none⟩) nd dc) nd ds :: .row 9 1 (.slice (some ⟨tg, 0, none⟩) 64 tc) 64 (strs T) :: .row 4 1 (.slice (some ⟨ug, 0, none⟩) 64 uc) 64 (bools U) :: .row 3 1 (.slice (some ⟨vg, 0, none⟩) 64 vc) 64 vers :: fr))) ∨ (∃ (fd : Bool) (va pt : Int) (ks vs : List Int) (cs : List (Int × Int)) (tm : Value) (kns' : List Value) (kv vv cv' : Value), Hid (Q j (.fin fd va pt ks vs cs)) ∧ Hid (M w0 B wr (.row 3 1 kv ks.length (ints ks) :: .row 3 1 vv vs.length (ints vs) :: .row 94 2 cv' cs.length (cutc cs) :: .blk gd (DC k key v ⟨#[]⟩ tm (.slice (some ⟨kg, 0, none⟩) 64 kc) false true 0 fd va pt kv vv cv') 68 :: .row 3 1 (.slice (some ⟨kg, 0, none⟩) 64 kc) 64 kns' :: .row 3 1 tm (j) (ints (tsq now j)) :: .blk gw (WC (.slice (some ⟨tg, 0, none⟩) 64 tc) (.slice (some ⟨ug, 0, none⟩) 64 uc) (.slice (some ⟨vg, 0, none⟩) 64 vc) (.slice (some ⟨dg, 0, none⟩) nd dc) (.slice (some ⟨bg, 0, none⟩) 64 bc) (now + j) puts false false false false false cv ov false) 58 :: .row 3 1 (.slice (some ⟨bg, 0, none⟩) 64 bc) 64 (.int .i64 (-1) :: bs) :: .row 61 1 (.slice (some ⟨dg, 0, none⟩) nd dc) nd ds :: .row 9 1 (.slice (some ⟨tg, 0, none⟩) 64 tc) 64 (strs T) :: .row 4 1 (.slice (some ⟨ug, 0, none⟩) 64 uc) 64 (bools U) :: .row 3 1 (.slice (some ⟨vg, 0, none⟩) 64 vc) 64 vers :: fr))))) (fun x _ => 1000 - (intOf x).toNat)
  case atStart => exact ⟨0, rfl, by omega, Or.inl ⟨s, f, _, kns, HP.out, HF.out, by unfold Hid; rw [show now + ((0 : Nat) : Int) = now by omega]; exact HM.out⟩⟩
  case round =>
    clear HM HP HF
    obtain ⟨j, rfl, hj, hE⟩ := hrel
    rcases hE with ⟨s1, f1, tm, kns1, hP1, hf1, hM⟩ | ⟨fd, va, pt, ks, vs, cs, tm, kns1, kv, vv, cv', hQ, hM⟩
    · obtain ⟨hj64, hS, pg, t, e1, e2, e3, e4, e5⟩ := HG.out j s1 f1 hP1.out hf1.out
      have hj1 : (j : Int) < 1000 := by omega
      have g14 := hM.out.cell (i := 3) rfl 14 (.bool false) rfl
      have g4 := hM.out.cell (i := 3) rfl 4 (.slice (some ⟨bg, 0, none⟩) 64 bc) rfl
      have b0 := hM.out.rowCell (i := 4) rfl 0 (.int .i64 i) rfl
      rcases e5 with ⟨s', hP', hTell⟩ | ⟨fd, va, pt, ks, vs, cs, hQ', hTell⟩
      · have CM := hideIt (move_on gd kg kc j gw tg tc ug uc vg vc dg dc bg bc nd i pg cv ov (now + j) puts k key v f1 t kns1 ds bs vers (tsq now j) T U 0 tm s1 s' fr w0 wr B HTB.out HB.out hf1.out hS e1 e2 e3 e4 (HV.out pg e2) HD.out hnd HDL.out (by omega) ⟨by omega, by omega⟩ hTell hM.out)
        have HP2 := hideIt hP'
        clear hM hP1 hf1 hS e1 e2 e3 e4 hTell hP'
        go_wp2_with fail
        refine CM.out.mono ?_
        rintro e w1 ⟨⟨u, rfl⟩, tm', kns', f', hf', hM1⟩
        clear CM g14 g4 b0
        have HF2 := hideIt hf'
        have H1 := hideIt hM1
        clear hf' hM1
        go_wp2
        go_roundw
        case rel => exact ⟨j + 1, by go_num, by omega, Or.inl ⟨s', f', tm', kns', HP2.out, HF2.out, by unfold Hid; rw [tsq_succ, show now + ((j + 1 : Nat) : Int) = now + j + 1 by omega]; exact H1.out⟩⟩
        case measure => simp [intOf]; omega
      · have CM := hideIt (move_fin gd kg kc j gw tg tc ug uc vg vc dg dc bg bc nd i pg cv ov (now + j) puts k key v f1 t kns1 ds bs vers (tsq now j) T U 0 tm s1 fd va pt ks vs cs fr w0 wr B HTB.out HB.out hf1.out hS e1 e2 e3 e4 (HV.out pg e2) HD.out hnd HDL.out (by omega) ⟨by omega, by omega⟩ hTell hM.out)
        have HQ2 := hideIt hQ'
        clear hM hP1 hf1 hS e1 e2 e3 e4 hTell hQ'
        go_wp2_with fail
        refine CM.out.mono ?_
        rintro e w1 ⟨⟨u, rfl⟩, tm', kns', kv, vv, cv', hM1⟩
        clear CM g14 g4 b0
        have H1 := hideIt hM1
        clear hM1
        go_wp2
        go_roundw
        case rel => exact ⟨j + 1, by go_num, by omega, Or.inr ⟨fd, va, pt, ks, vs, cs, tm', kns', kv, vv, cv', HQ2.out, by unfold Hid; rw [tsq_succ, show now + ((j + 1 : Nat) : Int) = now + j + 1 by omega]; exact H1.out⟩⟩
        case measure => simp [intOf]; omega
    · have hj1 : (j : Int) < 1000 := by omega
      have g14 := hM.out.cell (i := 6) rfl 14 (.bool false) rfl
      have g4 := hM.out.cell (i := 6) rfl 4 (.slice (some ⟨bg, 0, none⟩) 64 bc) rfl
      have b0 := hM.out.rowCell (i := 7) rfl 0 (.int .i64 (-1)) rfl
      have e14 := hM.out.free (i := 6) rfl 14
      have S1 := hideIt (hM.out.store (i := 6) (j := 14) rfl (.bool false) rfl)
      clear hM
      go_wp2
      exact bodyPost_end (results_none Tryd.results26 _ _ _) rfl ⟨⟨_, rfl⟩, j, fd, va, pt, ks, vs, cs, tm, kns1, kv, vv, cv', hj, hQ.out, S1.out⟩
end Go.Proofs.YtajmiokllajcpaaDoor.Sap
