/- WHAT IS PROVED HERE: saplingkeep's alone: a client moves alone till its operation ends. Conditions: each of its accesses keeps a given invariant of the world and comes nearer to the end (hstep). -/
import Derived.Test.YtajobgmnmbnhiaaGreatDoorPt32
namespace Go.Proofs.YtajobgmnmbnhiaaGreatDoor.Sap
open Go.RowKit
set_option maxRecDepth 100000 in
set_option maxHeartbeats 6400000 in
theorem alone_gen (c gw : Nat) (I : Wd → Prop) (rk : Wd → Nat) (fr : List As) (w0 w : World) (B : Nat) (x0 : Wd) (hc : c < 64) (hgw : ∀ x, I x → x.gw = gw) (hbs : ∀ x, I x → x.bs[c]? = some (-1) ∨ (∃ i : Nat, x.bs[c]? = some (i : Int)) ∧ 0 < rk x)
    (hstep : ∀ x (i : Nat) W, I x → x.bs[c]? = some (i : Int) → M w0 B W (x.as ++ fr) → Calls Tryz.prog 28 #[.pointer (some ⟨gw, 0, none⟩), .int .i64 c] W fun e w' => (∃ u, e = .returned u) ∧ ∃ x', I x' ∧ rk x' < rk x ∧ M w0 B w' (x'.as ++ fr))
    (hI : I x0) (h0 : rk x0 ≤ 1000) (h : M w0 B w (x0.as ++ fr)) :
    Calls Tryz.prog 11 #[.pointer (some ⟨gw, 0, none⟩), .int .i64 c] w fun e w' => (∃ u, e = .returned u) ∧ ∃ x', I x' ∧ x'.bs[c]? = some (-1) ∧ M w0 B w' (x'.as ++ fr) := by
  have hc0 : (0 : Int) ≤ (c : Int) := by omega
  have hc1 : (c : Int) < 64 := by omega
  have HM := hideIt h
  have HI := hideIt hI
  have HGW := hideIt hgw
  have HBS := hideIt hbs
  have HS := hideIt hstep
  clear h hI hgw hbs hstep
  go_enter Tryz.func11, Tryz.ntmps11
  go_wp2
  go_loopw [4] (fun y wr => ∃ (j n : Nat) (x : Wd), y = .int .i64 j ∧ j + n ≤ 1000 ∧ Hid (rk x = n) ∧ Hid (I x) ∧ Hid (M w0 B wr (x.as ++ fr))) (fun i _ => 1000 - (intOf i).toNat)
  case atStart => exact ⟨0, rk x0, x0, rfl, by omega, rfl, HI.out, HM.out⟩
  case round =>
    clear HM HI
    obtain ⟨j, n, x, rfl, hj, hr, hI, hM⟩ := hrel
    have hg := HGW.out x hI.out
    subst hg
    have g14 := hM.out.cell (i := 0) rfl 14 (.bool false) rfl
    have g4 := hM.out.cell (i := 0) rfl 4 (.slice (some ⟨x.bg, 0, none⟩) 64 x.bc) rfl
    rcases HBS.out x hI.out with hb | ⟨⟨i, hb⟩, hpos⟩
    · have b0 := hM.out.rowCell (i := 1) rfl c (.int .i64 (-1)) (ints_get hb)
      have e14 := hM.out.free (i := 0) rfl 14
      have S1 := hideIt (hM.out.store (i := 0) (j := 14) rfl (.bool false) rfl)
      have HB := hideIt hb
      clear hM hb
      by_cases hj1 : (j : Int) < 1000
      · go_wp2
        exact bodyPost_end (results_none Tryz.results11 _ _ _) rfl ⟨⟨_, rfl⟩, x, hI.out, HB.out, S1.out⟩
      · go_wp2
        exact bodyPost_end (results_none Tryz.results11 _ _ _) rfl ⟨⟨_, rfl⟩, x, hI.out, HB.out, S1.out⟩
    · have b0 := hM.out.rowCell (i := 1) rfl c (.int .i64 i) (ints_get hb)
      rw [hr.out] at hpos
      have hj1 : (j : Int) < 1000 := by omega
      have hi0 : (0 : Int) ≤ (i : Int) := by omega
      have CM := hideIt (HS.out x i wr hI.out hb hM.out)
      clear hM hb hI
      go_wp2_with fail
      refine CM.out.mono ?_
      rintro e w1 ⟨⟨u, rfl⟩, x', hI', hr', hM'⟩
      have HI2 := hideIt hI'
      have HM2 := hideIt hM'
      rw [hr.out] at hr'
      clear CM g14 g4 b0 hI' hM'
      go_wp2
      go_roundw
      case rel => exact ⟨j + 1, rk x', x', by go_num, by omega, rfl, HI2.out, HM2.out⟩
      case measure => simp [intOf]; omega
def pu (k puts : Int) : Int := if k = 2 then puts + 1 else puts
def BegQ (gw bg bc nd c : Nat) (tv uv vv cv ov : Value) (now puts : Int) (rf il wt bk kp bad : Bool) (xs ds : List Value) (k key v : Int) (fr : List As) (w0 w' : World) (B : Nat) (P : ByteArray → Prop) : Prop :=
  ∃ (gd : Nat) (f : ByteArray), P f ∧ ∃ (kv dv' : Value),
      M w0 B w' (.blk gd (DC k key v f (.slice none 0 0) kv false false 0 false 0 0 (.slice none 0 0) (.slice none 0 0) (.slice none 0 0)) 48 :: .row 3 1 kv 64 (List.replicate 64 (.int .i64 (-1))) :: .blk gw (WC tv uv vv dv' (.slice (some ⟨bg, 0, none⟩) 64 bc) now (pu k puts) rf il wt bk kp cv ov bad) 34 :: .row 3 1 (.slice (some ⟨bg, 0, none⟩) 64 bc) 64 (xs.set c (.int .i64 nd)) :: .row 40 1 dv' (nd + 1) (ds ++ [.pointer (some ⟨gd, 0, none⟩)]) :: fr)
set_option maxRecDepth 100000 in
set_option maxHeartbeats 6400000 in
theorem begin_gen (gw bg bc nd c : Nat) (tv uv vv dv cv ov : Value) (now puts : Int) (rf il wt bk kp bad : Bool) (xs ds : List Value) (k key v : Int) (fr : List As) (w0 w : World) (B : Nat) (P : ByteArray → Prop) (htab : Tab w0) (hB : B = w0.heap.size) (hc : c < 64) (hp0 : 0 ≤ puts) (hp1 : puts ≤ 100000000)
    (hBegin : ∀ W, Tab W → Calls Tryz.prog 27 #[.agg #[.int .i64 k, .int .i64 key, .int .i64 v]] W fun e w' => (∃ f : ByteArray, e = .returned (.tuple #[.string f, .int .i64 0]) ∧ P f) ∧ Below W.heap.size W w') (hnd : nd ≤ 100000000)
    (h : M w0 B w (.blk gw (WC tv uv vv dv (.slice (some ⟨bg, 0, none⟩) 64 bc) now puts rf il wt bk kp cv ov bad) 34 :: .row 3 1 (.slice (some ⟨bg, 0, none⟩) 64 bc) 64 xs :: .row 40 1 dv nd ds :: fr)) :
    Calls Tryz.prog 10 #[.pointer (some ⟨gw, 0, none⟩), .int .i64 c, .agg #[.int .i64 k, .int .i64 key, .int .i64 v]] w fun e w' => (∃ u, e = .returned u) ∧ BegQ gw bg bc nd c tv uv vv cv ov now puts rf il wt bk kp bad xs ds k key v fr w0 w' B P := by
  obtain ⟨i0, hi0, hz0, hz1, hz2⟩ := info_parts infoInt
  obtain ⟨j0, hj0, hy0, hy1, hy2⟩ := info_parts infoDeed
  obtain ⟨da, dc, rfl⟩ := As.form0 (h.get (i := 2) rfl)
  have hc0 : (0 : Int) ≤ (c : Int) := by omega
  have hc1 : (c : Int) < 64 := by omega
  have A0 := hideIt (h.alloc #[.int .i64 k, .int .i64 key, .int .i64 v] 36)
  have HO := hideIt hBegin
  have HT : Hid (∀ W l, M w0 B W l → Tab W) := fun W l hm => htab.below (hB ▸ hm.bl)
  clear h hBegin htab hB
  go_enter Tryz.func10, Tryz.ntmps10
  go_wp2_with fail
  refine (HO.out _ (HT.out _ _ A0.out)).mono ?_
  rintro e w1 ⟨⟨f, rfl, hf⟩, hb⟩
  have HF := hideIt hf
  have A1 := hideIt (A0.out.below hb)
  obtain ⟨go, hgo⟩ : ∃ g, w.heap.size = g := ⟨_, rfl⟩
  rw [hgo] at A1 ⊢
  clear hf hb A0 hgo
  have p0 := A1.out.cell (i := 0) rfl 0 (.int .i64 k) rfl
  have p1 := A1.out.cell (i := 0) rfl 1 (.int .i64 key) rfl
  have p2 := A1.out.cell (i := 0) rfl 2 (.int .i64 v) rfl
  have A2 := hideIt (M.rowNil (e := 3) (z := 1) (A1.out.alloc (DC k key v f (.slice none 0 0) (.slice none 0 0) false false 0 false 0 0 (.slice none 0 0) (.slice none 0 0) (.slice none 0 0)) 48))
  go_wp2
  obtain ⟨gd, hgd⟩ : ∃ g, w1.heap.size = g := ⟨_, rfl⟩
  rw [hgd] at A2 ⊢
  clear hgd p0 p1 p2 A1
  go_loopw [9] (fun i wr => ∃ j : Nat, ∃ kv : Value, j ≤ 64 ∧ i = .int .i64 j ∧ Hid (M w0 B wr (.blk gd (DC k key v f (.slice none 0 0) kv false false 0 false 0 0 (.slice none 0 0) (.slice none 0 0) (.slice none 0 0)) 48 :: .row 3 1 kv j (List.replicate j (.int .i64 (-1))) :: .blk go #[.int .i64 k, .int .i64 key, .int .i64 v] 36 :: .blk gw (WC tv uv vv (.slice da nd dc) (.slice (some ⟨bg, 0, none⟩) 64 bc) now puts rf il wt bk kp cv ov bad) 34 :: .row 3 1 (.slice (some ⟨bg, 0, none⟩) 64 bc) 64 xs :: .row 40 1 (.slice da nd dc) nd ds :: fr))) (fun i _ => 64 - (intOf i).toNat)
  case atStart => exact ⟨0, _, Nat.zero_le _, rfl, A2.out⟩
  case round =>
    clear A2
    obtain ⟨j, kv, hj, rfl, hM⟩ := hrel
    obtain ⟨ka, kc, rfl⟩ := As.form0 (hM.out.get (i := 1) rfl)
    have hsz := hM.out.lt (i := 0) rfl
    have q5 := hM.out.cell (i := 0) rfl 5 (.slice ka j kc) rfl
    have f5 := hM.out.free (i := 0) rfl 5
    by_cases hlt : j < 64
    · have hjj : (j : Int) < 64 := by omega
      go_wp2_with (at_builtin; refine wpList_append_lies _ rfl _ _ 22 rfl B 3 i0 (.int .i64 0) 1 8 Tryz.underlying22 hi0 hz0 hz1 hz2 rfl (by decide) _ j (List.replicate j (.int .i64 (-1))) rfl (World.ownsRow.alloc (hM.out.get (i := 1) rfl) _) ⟨_, 0, none⟩ 1 1 [.int .i64 (-1)] rfl rfl (news_one _ _ _) (by simp [Value.oneCell']) (by omega) (by unfold maxLen; omega) (by omega) (by have := hM.out.sz; simp at this ⊢; omega) _ rfl ?_; intro g1 cap1 w5 hown hgrow hat hlt1; rw [rep_snoc] at hown; have hm := (hM.out.allocd _).lies (i := 1) rfl hown hgrow hat; clear q5 f5 hown hgrow hat; have q5 := hm.cell (i := 0) rfl 5 (.slice ka j kc) rfl; have f5 := hm.free (i := 0) rfl 5; have H1 := hideIt (hm.store (i := 0) (j := 5) rfl (.slice (some ⟨g1, 0, none⟩) (j + 1) cap1) rfl); clear hm)
      go_roundw
      case rel => exact ⟨j + 1, _, by omega, by go_num, H1.out⟩
      case measure => simp [intOf]; omega
    · obtain rfl : j = 64 := by omega
      rw [show ((64 : Nat) : Int) = 64 from rfl]
      have c3 := hM.out.cell (i := 3) rfl 3 (.slice da nd dc) rfl
      have c4 := hM.out.cell (i := 3) rfl 4 (.slice (some ⟨bg, 0, none⟩) 64 bc) rfl
      have hrow := hM.out.get (i := 4) rfl
      obtain ⟨x, hx⟩ : ∃ x, xs[c]? = some x := by have := hrow.own.1; exact ⟨_, List.getElem?_eq_getElem (by simp at this; omega)⟩
      have t1 := World.ownsRow.cellAt hrow.own c (by omega)
      rw [hx] at t1
      have tf := World.ownsRow.frozenAt hrow.own c
      clear hrow hx hlt
      go_upto_region 9 with fail
      go_cut [] (fun wy => Hid (M w0 B wy (.blk gd (DC k key v f (.slice none 0 0) (.slice ka 64 kc) false false 0 false 0 0 (.slice none 0 0) (.slice none 0 0) (.slice none 0 0)) 48 :: .row 3 1 (.slice ka 64 kc) 64 (List.replicate 64 (.int .i64 (-1))) :: .blk go #[.int .i64 k, .int .i64 key, .int .i64 v] 36 :: .blk gw (WC tv uv vv (.slice da nd dc) (.slice (some ⟨bg, 0, none⟩) 64 bc) now puts rf il wt bk kp cv ov bad) 34 :: .row 3 1 (.slice (some ⟨bg, 0, none⟩) 64 bc) 64 (xs.set c (.int .i64 nd)) :: .row 40 1 (.slice da nd dc) nd ds :: fr)))
      case first =>
        go_region
        all_goals
          go_wp2
          go_meet
          case rel => exact (hM.out.storeRow (i := 4) (j := c) rfl (.int .i64 nd)).drew
      case rest =>
        have hN := hideIt hcut
        clear hcut hM q5 f5 c3 c4 t1 tf hsz
        have c3 := hN.out.out.cell (i := 3) rfl 3 (.slice da nd dc) rfl
        have f3 := hN.out.out.free (i := 3) rfl 3
        have p0 := hN.out.out.cell (i := 2) rfl 0 (.int .i64 k) rfl
        by_cases hk2 : k = 2
        · have hsk : (k == 2) = true := by simp [hk2]
          have HK2 := hideIt hk2
          clear hk2
          go_wp2_with (at_builtin; refine wpList_append_lies _ rfl _ _ 30 rfl B 40 j0 (.pointer none) 1 8 Tryz.underlying30 hj0 hy0 hy1 hy2 rfl (by decide) _ nd ds rfl (World.ownsRow.alloc (hN.out.out.get (i := 5) rfl) _) ⟨_, 0, none⟩ 1 1 [.pointer (some ⟨gd, 0, none⟩)] rfl rfl (news_one _ _ _) (by simp [Value.oneCell']) (by omega) (by unfold maxLen; omega) (by omega) (by have := hN.out.out.sz; simp at this ⊢; omega) _ rfl ?_; intro g1 cap1 w5 hown hgrow hat hlt1; have hm := (hN.out.out.allocd _).lies (i := 5) rfl hown hgrow hat; clear c3 f3 p0 hown hgrow hat; have c3 := hm.cell (i := 3) rfl 3 (.slice da nd dc) rfl; have f3 := hm.free (i := 3) rfl 3; have p0 := hm.cell (i := 2) rfl 0 (.int .i64 k) rfl; have hneo := hm.bne (i := 2) (j := 3) rfl rfl (by omega); have H1 := hideIt (hm.store (i := 3) (j := 3) rfl (.slice (some ⟨g1, 0, none⟩) (nd + 1) cap1) rfl); have g6 := hm.cell (i := 3) rfl 6 (.int .i64 puts) rfl; have f6 := hm.free (i := 3) rfl 6; clear hm)
          have H2 := hideIt (H1.out.store (i := 3) (j := 6) rfl (.int .i64 (puts + 1)) rfl)
          refine bodyPost_end (results_none Tryz.results10 _ _ _) rfl ⟨⟨_, rfl⟩, gd, f, HF.out, .slice ka 64 kc, .slice (some ⟨g1, 0, none⟩) (nd + 1) cap1, ?_⟩
          unfold pu
          rw [if_pos HK2.out]
          exact H2.out.sub (List.Sublist.cons_cons _ (List.Sublist.cons_cons _ (List.sublist_cons_self _ _)))
        · have hsk : (k == 2) = false := by simp [hk2]
          have HK2 := hideIt hk2
          clear hk2
          go_wp2_with (at_builtin; refine wpList_append_lies _ rfl _ _ 30 rfl B 40 j0 (.pointer none) 1 8 Tryz.underlying30 hj0 hy0 hy1 hy2 rfl (by decide) _ nd ds rfl (World.ownsRow.alloc (hN.out.out.get (i := 5) rfl) _) ⟨_, 0, none⟩ 1 1 [.pointer (some ⟨gd, 0, none⟩)] rfl rfl (news_one _ _ _) (by simp [Value.oneCell']) (by omega) (by unfold maxLen; omega) (by omega) (by have := hN.out.out.sz; simp at this ⊢; omega) _ rfl ?_; intro g1 cap1 w5 hown hgrow hat hlt1; have hm := (hN.out.out.allocd _).lies (i := 5) rfl hown hgrow hat; clear c3 f3 p0 hown hgrow hat; have c3 := hm.cell (i := 3) rfl 3 (.slice da nd dc) rfl; have f3 := hm.free (i := 3) rfl 3; have p0 := hm.cell (i := 2) rfl 0 (.int .i64 k) rfl; have hneo := hm.bne (i := 2) (j := 3) rfl rfl (by omega); have H1 := hideIt (hm.store (i := 3) (j := 3) rfl (.slice (some ⟨g1, 0, none⟩) (nd + 1) cap1) rfl); have g6 := hm.cell (i := 3) rfl 6 (.int .i64 puts) rfl; have f6 := hm.free (i := 3) rfl 6; clear hm)
          refine bodyPost_end (results_none Tryz.results10 _ _ _) rfl ⟨⟨_, rfl⟩, gd, f, HF.out, .slice ka 64 kc, .slice (some ⟨g1, 0, none⟩) (nd + 1) cap1, ?_⟩
          unfold pu
          rw [if_neg HK2.out]
          exact H1.out.sub (List.Sublist.cons_cons _ (List.Sublist.cons_cons _ (List.sublist_cons_self _ _)))
def Dd.new (gd kg kc : Nat) (k key v : Int) (f : ByteArray) : Dd := ⟨gd, kg, kc, .slice none 0 0, .slice none 0 0, .slice none 0 0, .slice none 0 0, k, key, v, f, [], List.replicate 64 (-1), false, false, 0, false, 0, 0, [], [], []⟩
theorem M.nil2 {w0 w : World} {B : Nat} {l1 l2 : List As} {e : TypeId} {z : Nat} (h : M w0 B w (l1 ++ l2)) : M w0 B w (l1 ++ .row e z (.slice none 0 0) 0 [] :: l2) := by
  have h1 := h.snocNil (e := e) (z := z)
  refine h1.perm ?_
  rw [List.append_assoc]
  exact List.Perm.append_left _ (List.perm_append_comm (l₁ := [_]))
set_option maxRecDepth 100000 in
set_option maxHeartbeats 1600000 in
theorem sys_begin (x : Wd) (c : Nat) (k key v : Int) (P : ByteArray → Prop) (fr : List As) (w0 w : World) (B : Nat) (htab : Tab w0) (hB : B = w0.heap.size) (hc : c < 64) (hnd : x.ds.length ≤ 100000000) (hp0 : 0 ≤ x.puts) (hp1 : x.puts ≤ 100000000)
    (hBegin : ∀ W, Tab W → Calls Tryz.prog 27 #[.agg #[.int .i64 k, .int .i64 key, .int .i64 v]] W fun e w' => (∃ f : ByteArray, e = .returned (.tuple #[.string f, .int .i64 0]) ∧ P f) ∧ Below W.heap.size W w')
    (h : M w0 B w (x.as ++ fr)) :
    Calls Tryz.prog 10 #[.pointer (some ⟨x.gw, 0, none⟩), .int .i64 c, .agg #[.int .i64 k, .int .i64 key, .int .i64 v]] w fun e w' => (∃ u, e = .returned u) ∧ ∃ (gd kg kc : Nat) (f : ByteArray) (dv' : Value), P f ∧ M w0 B w' (({ x with dv := dv', bs := x.bs.set c x.ds.length, puts := pu k x.puts, ds := x.ds ++ [Dd.new gd kg kc k key v f] } : Wd).as ++ fr) := by
  have h1 : M w0 B w (.blk x.gw (WC (.slice (some ⟨x.tg, 0, none⟩) 64 x.tc) (.slice (some ⟨x.ug, 0, none⟩) 64 x.uc) (.slice (some ⟨x.vg, 0, none⟩) 64 x.vc) x.dv (.slice (some ⟨x.bg, 0, none⟩) 64 x.bc) x.now x.puts x.rf false x.wt false x.kp x.cv x.ov false) 34 :: .row 3 1 (.slice (some ⟨x.bg, 0, none⟩) 64 x.bc) 64 (ints x.bs) :: .row 40 1 x.dv x.ds.length (x.ds.map Dd.ptr) :: (.row 9 1 (.slice (some ⟨x.tg, 0, none⟩) 64 x.tc) 64 (strs x.T) :: .row 4 1 (.slice (some ⟨x.ug, 0, none⟩) 64 x.uc) 64 (bools x.U) :: .row 3 1 (.slice (some ⟨x.vg, 0, none⟩) 64 x.vc) 64 (ints x.V) :: (x.ds.flatMap Dd.as ++ fr))) := h
  refine (begin_gen x.gw x.bg x.bc x.ds.length c _ _ _ x.dv x.cv x.ov x.now x.puts x.rf false x.wt false x.kp false (ints x.bs) (x.ds.map Dd.ptr) k key v _ w0 w B P htab hB hc hp0 hp1 hBegin hnd h1).mono ?_
  rintro e w' ⟨he, gd, f, hP, kv, dv', hM⟩
  obtain ⟨kg, kc, rfl⟩ := As.form (hM.get (i := 1) rfl) (by omega)
  refine ⟨he, gd, kg, kc, f, dv', hP, ?_⟩
  have h2 := M.nil2 (e := 3) (z := 1) (l1 := [_, _]) hM
  have h3 := M.nil2 (e := 3) (z := 1) (l1 := [_, _, _]) h2
  have h4 := M.nil2 (e := 3) (z := 1) (l1 := [_, _, _, _]) h3
  have h5 := M.nil2 (e := 76) (z := 2) (l1 := [_, _, _, _, _]) h4
  obtain ⟨x', hx'⟩ : ∃ y : Wd, y = { x with dv := dv', bs := x.bs.set c x.ds.length, puts := pu k x.puts, ds := x.ds ++ [Dd.new gd kg kc k key v f] } := ⟨_, rfl⟩
  rw [← hx']
  have e1 : x'.as ++ fr = x'.hd ++ (x.ds.flatMap Dd.as ++ ((Dd.new gd kg kc k key v f).as ++ fr)) := by
    unfold Wd.as
    rw [show x'.ds = x.ds ++ [Dd.new gd kg kc k key v f] by rw [hx'], List.flatMap_append, List.flatMap_cons, List.flatMap_nil, List.append_nil]
    simp only [List.append_assoc]
  rw [e1]
  have e2 : (Dd.new gd kg kc k key v f).as ++ (x'.hd ++ (x.ds.flatMap Dd.as ++ fr)) = .blk gd (DC k key v f (.slice none 0 0) (.slice (some ⟨kg, 0, none⟩) 64 kc) false false 0 false 0 0 (.slice none 0 0) (.slice none 0 0) (.slice none 0 0)) 48 :: .row 3 1 (.slice (some ⟨kg, 0, none⟩) 64 kc) 64 (List.replicate 64 (.int .i64 (-1))) :: .row 3 1 (.slice none 0 0) 0 [] :: .row 3 1 (.slice none 0 0) 0 [] :: .row 3 1 (.slice none 0 0) 0 [] :: .row 76 2 (.slice none 0 0) 0 [] :: .blk x.gw (WC (.slice (some ⟨x.tg, 0, none⟩) 64 x.tc) (.slice (some ⟨x.ug, 0, none⟩) 64 x.uc) (.slice (some ⟨x.vg, 0, none⟩) 64 x.vc) dv' (.slice (some ⟨x.bg, 0, none⟩) 64 x.bc) x.now (pu k x.puts) x.rf false x.wt false x.kp x.cv x.ov false) 34 :: .row 3 1 (.slice (some ⟨x.bg, 0, none⟩) 64 x.bc) 64 ((ints x.bs).set c (.int .i64 x.ds.length)) :: .row 40 1 dv' (x.ds.length + 1) (x.ds.map Dd.ptr ++ [.pointer (some ⟨gd, 0, none⟩)]) :: (.row 9 1 (.slice (some ⟨x.tg, 0, none⟩) 64 x.tc) 64 (strs x.T) :: .row 4 1 (.slice (some ⟨x.ug, 0, none⟩) 64 x.uc) 64 (bools x.U) :: .row 3 1 (.slice (some ⟨x.vg, 0, none⟩) 64 x.vc) 64 (ints x.V) :: (x.ds.flatMap Dd.as ++ fr)) := by
    have e3 : x'.ds.map Dd.ptr = x.ds.map Dd.ptr ++ [.pointer (some ⟨gd, 0, none⟩)] := by rw [hx']; simp [Dd.ptr, Dd.new]
    have e4 : x'.ds.length = x.ds.length + 1 := by rw [hx']; simp
    have e5 : ints (List.replicate 64 (-1)) = List.replicate 64 (.int .i64 (-1)) := by simp [ints]
    obtain ⟨z, hz⟩ : ∃ z, x.ds.flatMap Dd.as ++ fr = z := ⟨_, rfl⟩
    rw [hz, ints_setx]
    unfold Wd.hd
    rw [e3, e4, ← e5]
    subst hx'
    rfl
  have h6 : M w0 B w' ((Dd.new gd kg kc k key v f).as ++ (x'.hd ++ (x.ds.flatMap Dd.as ++ fr))) := by rw [e2]; exact h5
  refine h6.perm ?_
  exact (List.Perm.append_left _ (List.perm_append_comm_assoc _ _ _)).trans (List.perm_append_comm_assoc _ _ _)
structure Nx (c : Nat) (x x' : Wd) : Prop where
  now : x'.now = x.now + 1
  nd : x'.ds.length = x.ds.length
  bs : ∀ j, j ≠ c → x'.bs[j]? = x.bs[j]?
structure Mc (Inv : Wd → Prop) (rk : Nat → Wd → Nat) (gw : Nat) (w0 : World) (B : Nat) : Prop where
  pg : ∀ x, Inv x → x.gw = gw
  bs : ∀ x c, Inv x → c < 64 → x.bs[c]? = some (-1) ∨ (∃ i : Nat, x.bs[c]? = some (i : Int)) ∧ 0 < rk c x ∧ rk c x ≤ 1000
  now : ∀ x, Inv x → 0 ≤ x.now
  mv : ∀ x (c i : Nat) W (fr : List As), c < 64 → Inv x → x.now ≤ 90000000 → x.bs[c]? = some (i : Int) → M w0 B W (x.as ++ fr) → Calls Tryz.prog 28 #[.pointer (some ⟨gw, 0, none⟩), .int .i64 c] W fun e w' => (∃ u, e = .returned u) ∧ ∃ x', Inv x' ∧ Nx c x x' ∧ (x'.bs[c]? = some (-1) ∨ rk c x' < rk c x) ∧ M w0 B w' (x'.as ++ fr)
  bg : ∀ x (c : Nat) (k key v : Int) W (fr : List As), c < 64 → Inv x → x.ds.length ≤ 90000000 → opR k key v = true → x.bs[c]? = some (-1) → M w0 B W (x.as ++ fr) → Calls Tryz.prog 10 #[.pointer (some ⟨gw, 0, none⟩), .int .i64 c, .agg #[.int .i64 k, .int .i64 key, .int .i64 v]] W fun e w' => (∃ u, e = .returned u) ∧ ∃ x', Inv x' ∧ x'.now = x.now ∧ x'.ds.length = x.ds.length + 1 ∧ (∀ j, j ≠ c → x'.bs[j]? = x.bs[j]?) ∧ M w0 B w' (x'.as ++ fr)
theorem Mc.alone {Inv : Wd → Prop} {rk : Nat → Wd → Nat} {gw : Nat} {w0 : World} {B : Nat} (m : Mc Inv rk gw w0 B) (c : Nat) (x0 : Wd) (w : World) (fr : List As) (hc : c < 64) (hI : Inv x0) (hn : x0.now ≤ 89000000) (h : M w0 B w (x0.as ++ fr)) :
    Calls Tryz.prog 11 #[.pointer (some ⟨gw, 0, none⟩), .int .i64 c] w fun e w' => (∃ u, e = .returned u) ∧ ∃ x', Inv x' ∧ x'.bs[c]? = some (-1) ∧ x'.now ≤ x0.now + 1000 ∧ x'.ds.length = x0.ds.length ∧ (∀ j, j ≠ c → x'.bs[j]? = x0.bs[j]?) ∧ M w0 B w' (x'.as ++ fr) := by
  let rk2 : Wd → Nat := fun x => if x.bs[c]? = some (-1) then 0 else rk c x
  let I2 : Wd → Prop := fun x => Inv x ∧ x.now + (rk2 x : Int) ≤ x0.now + (rk2 x0 : Int) ∧ x.ds.length = x0.ds.length ∧ (∀ j, j ≠ c → x.bs[j]? = x0.bs[j]?)
  have hr0 : rk2 x0 ≤ 1000 := by
    show (if x0.bs[c]? = some (-1) then 0 else rk c x0) ≤ 1000
    rcases m.bs x0 c hI hc with h1 | ⟨-, -, h3⟩
    · rw [if_pos h1]; omega
    · split <;> omega
  refine (alone_gen c gw I2 rk2 fr w0 w B x0 hc (fun x hx => m.pg x hx.1) (fun x hx => ?_) (fun x i W hx hb hM => ?_) ⟨hI, Int.le_refl _, rfl, fun _ _ => rfl⟩ hr0 h).mono ?_
  · rcases m.bs x c hx.1 hc with h1 | ⟨⟨i, h2⟩, h3, -⟩
    · exact Or.inl h1
    · refine Or.inr ⟨⟨i, h2⟩, ?_⟩
      show 0 < (if x.bs[c]? = some (-1) then 0 else rk c x)
      rw [h2, if_neg (by intro e; have := Option.some.inj e; omega)]
      exact h3
  · have hb2 : rk2 x = rk c x := by
      show (if x.bs[c]? = some (-1) then 0 else rk c x) = rk c x
      rw [hb, if_neg (by intro e; have := Option.some.inj e; omega)]
    have hnow := m.now x0 hI
    have hpos : 0 < rk c x := by
      rcases m.bs x c hx.1 hc with h1 | ⟨-, h3, -⟩
      · rw [hb] at h1; have := Option.some.inj h1; omega
      · exact h3
    refine (m.mv x c i W fr hc hx.1 (by have := hx.2.1; omega) hb hM).mono ?_
    rintro e w' ⟨he, x', hI', hN, hR, hM'⟩
    have hlt : rk2 x' < rk2 x := by
      rw [hb2]
      show (if x'.bs[c]? = some (-1) then 0 else rk c x') < rk c x
      rcases hR with h1 | h1
      · rw [if_pos h1]; exact hpos
      · split <;> omega
    refine ⟨he, x', ⟨hI', ?_, hN.nd.trans hx.2.2.1, fun j hj => (hN.bs j hj).trans (hx.2.2.2 j hj)⟩, hlt, hM'⟩
    have := hx.2.1
    have := hN.now
    omega
  · rintro e w' ⟨he, x', hI', hb', hM'⟩
    refine ⟨he, x', hI'.1, hb', ?_, hI'.2.2.1, hI'.2.2.2, hM'⟩
    have := hI'.2.1
    omega
end Go.Proofs.YtajobgmnmbnhiaaGreatDoor.Sap
