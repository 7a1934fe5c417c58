/- WHAT IS PROVED HERE: saplingkeep's begin: any client's operation, of whatever kind, is begun. Conditions: what Begin answers is given; the numbers are small. -/
import Derived.Test.YtajobgmnmbnhiaaDoorXK1A1
import Derived.Test.YtajobgmnmbnhiaaDoorXQ1N2
namespace Go.Proofs.YtajobgmnmbnhiaaDoor.Sap
open Go.RowKit

/-- How many Puts were begun, behind this one. -/
def pu (k puts : Int) : Int := if k = 2 then puts + 1 else puts
/-- What begin has laid. -/
def BegQ (gw bg bc nd c : Nat) (tv uv vv cv ov : Value) (now puts : Int) (rf il wt bk kp bad : Bool) (xs ds : List Value) (k key v : Int) (fr : List As) (w0 w' : World) (B : Nat) (P : ByteArray → Prop) : Prop :=
  ∃ (gd : Nat) (f : ByteArray), P f ∧ ∃ (kv dv' : Value),
      M w0 B w' (.blk gd (DC k key v f (.slice none 0 0) kv false false 0 false 0 0 (.slice none 0 0) (.slice none 0 0) (.slice none 0 0)) 84 :: .row 3 1 kv 64 (List.replicate 64 (.int .i64 (-1))) :: .blk gw (WC tv uv vv dv' (.slice (some ⟨bg, 0, none⟩) 64 bc) now (pu k puts) rf il wt bk kp cv ov bad) 58 :: .row 3 1 (.slice (some ⟨bg, 0, none⟩) 64 bc) 64 (xs.set c (.int .i64 nd)) :: .row 81 1 dv' (nd + 1) (ds ++ [.pointer (some ⟨gd, 0, none⟩)]) :: fr)

set_option maxRecDepth 100000 in
set_option maxHeartbeats 6400000 in
theorem begin_gen (gw bg bc nd c : Nat) (tv uv vv dv cv ov : Value) (now puts : Int) (rf il wt bk kp bad : Bool) (xs ds : List Value) (k key v : Int) (fr : List As) (w0 w : World) (B : Nat) (P : ByteArray → Prop) (htab : Tab w0) (hB : B = w0.heap.size) (hc : c < 64) (hp0 : 0 ≤ puts) (hp1 : puts ≤ 100000000)
    (hBegin : ∀ W, Tab W → Calls Tryd.prog 21 #[.agg #[.int .i64 k, .int .i64 key, .int .i64 v]] W fun e w' => (∃ f : ByteArray, e = .returned (.tuple #[.string f, .int .i64 0]) ∧ P f) ∧ Below W.heap.size W w') (hnd : nd ≤ 100000000)
    (h : M w0 B w (.blk gw (WC tv uv vv dv (.slice (some ⟨bg, 0, none⟩) 64 bc) now puts rf il wt bk kp cv ov bad) 58 :: .row 3 1 (.slice (some ⟨bg, 0, none⟩) 64 bc) 64 xs :: .row 81 1 dv nd ds :: fr)) :
    Calls Tryd.prog 55 #[.pointer (some ⟨gw, 0, none⟩), .int .i64 c, .agg #[.int .i64 k, .int .i64 key, .int .i64 v]] w fun e w' => (∃ u, e = .returned u) ∧ BegQ gw bg bc nd c tv uv vv cv ov now puts rf il wt bk kp bad xs ds k key v fr w0 w' B P := by
  obtain ⟨i0, hi0, hz0, hz1, hz2⟩ := info_parts infoInt
  obtain ⟨j0, hj0, hy0, hy1, hy2⟩ := info_parts infoDeed
  obtain ⟨da, dc, rfl⟩ := As.form0 (h.get (i := 2) rfl)
  have hc0 : (0 : Int) ≤ (c : Int) := by omega
  have hc1 : (c : Int) < 64 := by omega
  have A0 := hideIt (h.alloc #[.int .i64 k, .int .i64 key, .int .i64 v] 37)
  have HO := hideIt hBegin
  have HT : Hid (∀ W l, M w0 B W l → Tab W) := fun W l hm => htab.below (hB ▸ hm.bl)
  clear h hBegin htab hB
  go_enter Tryd.func55, Tryd.ntmps55
  go_wp2_with fail
  refine (HO.out _ (HT.out _ _ A0.out)).mono ?_
  rintro e w1 ⟨⟨f, rfl, hf⟩, hb⟩
  have HF := hideIt hf
  have A1 := hideIt (A0.out.below hb)
  obtain ⟨go, hgo⟩ : ∃ g, w.heap.size = g := ⟨_, rfl⟩
  rw [hgo] at A1 ⊢
  clear hf hb A0 hgo
  have p0 := A1.out.cell (i := 0) rfl 0 (.int .i64 k) rfl
  have p1 := A1.out.cell (i := 0) rfl 1 (.int .i64 key) rfl
  have p2 := A1.out.cell (i := 0) rfl 2 (.int .i64 v) rfl
  have A2 := hideIt (M.rowNil (e := 3) (z := 1) (A1.out.alloc (DC k key v f (.slice none 0 0) (.slice none 0 0) false false 0 false 0 0 (.slice none 0 0) (.slice none 0 0) (.slice none 0 0)) 84))
  go_wp2
  obtain ⟨gd, hgd⟩ : ∃ g, w1.heap.size = g := ⟨_, rfl⟩
  rw [hgd] at A2 ⊢
  clear hgd p0 p1 p2 A1
  go_loopw [9] (fun i wr => ∃ j : Nat, ∃ kv : Value, j ≤ 64 ∧ i = .int .i64 j ∧ Hid (M w0 B wr (.blk gd (DC k key v f (.slice none 0 0) kv false false 0 false 0 0 (.slice none 0 0) (.slice none 0 0) (.slice none 0 0)) 84 :: .row 3 1 kv j (List.replicate j (.int .i64 (-1))) :: .blk go #[.int .i64 k, .int .i64 key, .int .i64 v] 37 :: .blk gw (WC tv uv vv (.slice da nd dc) (.slice (some ⟨bg, 0, none⟩) 64 bc) now puts rf il wt bk kp cv ov bad) 58 :: .row 3 1 (.slice (some ⟨bg, 0, none⟩) 64 bc) 64 xs :: .row 81 1 (.slice da nd dc) nd ds :: fr))) (fun i _ => 64 - (intOf i).toNat)
  case atStart => exact ⟨0, _, Nat.zero_le _, rfl, A2.out⟩
  case round =>
    clear A2
    obtain ⟨j, kv, hj, rfl, hM⟩ := hrel
    obtain ⟨ka, kc, rfl⟩ := As.form0 (hM.out.get (i := 1) rfl)
    have hsz := hM.out.lt (i := 0) rfl
    have q5 := hM.out.cell (i := 0) rfl 5 (.slice ka j kc) rfl
    have f5 := hM.out.free (i := 0) rfl 5
    by_cases hlt : j < 64
    · have hjj : (j : Int) < 64 := by omega
      go_wp2_with (at_builtin; refine wpList_append_lies _ rfl _ _ 22 rfl B 3 i0 (.int .i64 0) 1 8 Tryd.underlying22 hi0 hz0 hz1 hz2 rfl (by decide) _ j (List.replicate j (.int .i64 (-1))) rfl (World.ownsRow.alloc (hM.out.get (i := 1) rfl) _) ⟨_, 0, none⟩ 1 1 [.int .i64 (-1)] rfl rfl (news_one _ _ _) (by simp [Value.oneCell']) (by omega) (by unfold maxLen; omega) (by omega) (by have := hM.out.sz; simp at this ⊢; omega) _ rfl ?_; intro g1 cap1 w5 hown hgrow hat hlt1; rw [rep_snoc] at hown; have hm := (hM.out.allocd _).lies (i := 1) rfl hown hgrow hat; clear q5 f5 hown hgrow hat; have q5 := hm.cell (i := 0) rfl 5 (.slice ka j kc) rfl; have f5 := hm.free (i := 0) rfl 5; have H1 := hideIt (hm.store (i := 0) (j := 5) rfl (.slice (some ⟨g1, 0, none⟩) (j + 1) cap1) rfl); clear hm)
      go_roundw
      case rel => exact ⟨j + 1, _, by omega, by go_num, H1.out⟩
      case measure => simp [intOf]; omega
    · obtain rfl : j = 64 := by omega
      rw [show ((64 : Nat) : Int) = 64 from rfl]
      have c3 := hM.out.cell (i := 3) rfl 3 (.slice da nd dc) rfl
      have c4 := hM.out.cell (i := 3) rfl 4 (.slice (some ⟨bg, 0, none⟩) 64 bc) rfl
      have hrow := hM.out.get (i := 4) rfl
      obtain ⟨x, hx⟩ : ∃ x, xs[c]? = some x := by have := hrow.own.1; exact ⟨_, List.getElem?_eq_getElem (by simp at this; omega)⟩
      have t1 := World.ownsRow.cellAt hrow.own c (by omega)
      rw [hx] at t1
      have tf := World.ownsRow.frozenAt hrow.own c
      clear hrow hx hlt
      go_upto_region 9 with fail
      go_cut [] (fun wy => Hid (M w0 B wy (.blk gd (DC k key v f (.slice none 0 0) (.slice ka 64 kc) false false 0 false 0 0 (.slice none 0 0) (.slice none 0 0) (.slice none 0 0)) 84 :: .row 3 1 (.slice ka 64 kc) 64 (List.replicate 64 (.int .i64 (-1))) :: .blk go #[.int .i64 k, .int .i64 key, .int .i64 v] 37 :: .blk gw (WC tv uv vv (.slice da nd dc) (.slice (some ⟨bg, 0, none⟩) 64 bc) now puts rf il wt bk kp cv ov bad) 58 :: .row 3 1 (.slice (some ⟨bg, 0, none⟩) 64 bc) 64 (xs.set c (.int .i64 nd)) :: .row 81 1 (.slice da nd dc) nd ds :: fr)))
      case first =>
        go_region
        all_goals
          go_wp2
          go_meet
          case rel => exact (hM.out.storeRow (i := 4) (j := c) rfl (.int .i64 nd)).drew
      case rest =>
        have hN := hideIt hcut
        clear hcut hM q5 f5 c3 c4 t1 tf hsz
        have c3 := hN.out.out.cell (i := 3) rfl 3 (.slice da nd dc) rfl
        have f3 := hN.out.out.free (i := 3) rfl 3
        have p0 := hN.out.out.cell (i := 2) rfl 0 (.int .i64 k) rfl
        by_cases hk2 : k = 2
        · have hsk : (k == 2) = true := by simp [hk2]
          have HK2 := hideIt hk2
          clear hk2
          go_wp2_with (at_builtin; refine wpList_append_lies _ rfl _ _ 54 rfl B 81 j0 (.pointer none) 1 8 Tryd.underlying54 hj0 hy0 hy1 hy2 rfl (by decide) _ nd ds rfl (World.ownsRow.alloc (hN.out.out.get (i := 5) rfl) _) ⟨_, 0, none⟩ 1 1 [.pointer (some ⟨gd, 0, none⟩)] rfl rfl (news_one _ _ _) (by simp [Value.oneCell']) (by omega) (by unfold maxLen; omega) (by omega) (by have := hN.out.out.sz; simp at this ⊢; omega) _ rfl ?_; intro g1 cap1 w5 hown hgrow hat hlt1; have hm := (hN.out.out.allocd _).lies (i := 5) rfl hown hgrow hat; clear c3 f3 p0 hown hgrow hat; have c3 := hm.cell (i := 3) rfl 3 (.slice da nd dc) rfl; have f3 := hm.free (i := 3) rfl 3; have p0 := hm.cell (i := 2) rfl 0 (.int .i64 k) rfl; have hneo := hm.bne (i := 2) (j := 3) rfl rfl (by omega); have H1 := hideIt (hm.store (i := 3) (j := 3) rfl (.slice (some ⟨g1, 0, none⟩) (nd + 1) cap1) rfl); have g6 := hm.cell (i := 3) rfl 6 (.int .i64 puts) rfl; have f6 := hm.free (i := 3) rfl 6; clear hm)
          have H2 := hideIt (H1.out.store (i := 3) (j := 6) rfl (.int .i64 (puts + 1)) rfl)
          refine bodyPost_end (results_none Tryd.results55 _ _ _) rfl ⟨⟨_, rfl⟩, gd, f, HF.out, .slice ka 64 kc, .slice (some ⟨g1, 0, none⟩) (nd + 1) cap1, ?_⟩
          unfold pu
          rw [if_pos HK2.out]
          exact H2.out.sub (List.Sublist.cons_cons _ (List.Sublist.cons_cons _ (List.sublist_cons_self _ _)))
        · have hsk : (k == 2) = false := by simp [hk2]
          have HK2 := hideIt hk2
          clear hk2
          go_wp2_with (at_builtin; refine wpList_append_lies _ rfl _ _ 54 rfl B 81 j0 (.pointer none) 1 8 Tryd.underlying54 hj0 hy0 hy1 hy2 rfl (by decide) _ nd ds rfl (World.ownsRow.alloc (hN.out.out.get (i := 5) rfl) _) ⟨_, 0, none⟩ 1 1 [.pointer (some ⟨gd, 0, none⟩)] rfl rfl (news_one _ _ _) (by simp [Value.oneCell']) (by omega) (by unfold maxLen; omega) (by omega) (by have := hN.out.out.sz; simp at this ⊢; omega) _ rfl ?_; intro g1 cap1 w5 hown hgrow hat hlt1; have hm := (hN.out.out.allocd _).lies (i := 5) rfl hown hgrow hat; clear c3 f3 p0 hown hgrow hat; have c3 := hm.cell (i := 3) rfl 3 (.slice da nd dc) rfl; have f3 := hm.free (i := 3) rfl 3; have p0 := hm.cell (i := 2) rfl 0 (.int .i64 k) rfl; have hneo := hm.bne (i := 2) (j := 3) rfl rfl (by omega); have H1 := hideIt (hm.store (i := 3) (j := 3) rfl (.slice (some ⟨g1, 0, none⟩) (nd + 1) cap1) rfl); have g6 := hm.cell (i := 3) rfl 6 (.int .i64 puts) rfl; have f6 := hm.free (i := 3) rfl 6; clear hm)
          refine bodyPost_end (results_none Tryd.results55 _ _ _) rfl ⟨⟨_, rfl⟩, gd, f, HF.out, .slice ka 64 kc, .slice (some ⟨g1, 0, none⟩) (nd + 1) cap1, ?_⟩
          unfold pu
          rw [if_neg HK2.out]
          exact H1.out.sub (List.Sublist.cons_cons _ (List.Sublist.cons_cons _ (List.sublist_cons_self _ _)))
end Go.Proofs.YtajobgmnmbnhiaaDoor.Sap

/- WHAT IS PROVED HERE: saplingkeep's begin as a step of the world with all its operations; the world that fresh makes. Conditions: what Begin answers is given; the numbers are small. -/
namespace Go.Proofs.YtajobgmnmbnhiaaDoor.Sap
open Go.RowKit

/-- An operation that was just begun. -/
def Dd.new (gd kg kc : Nat) (k key v : Int) (f : ByteArray) : Dd := ⟨gd, kg, kc, .slice none 0 0, .slice none 0 0, .slice none 0 0, .slice none 0 0, k, key, v, f, [], List.replicate 64 (-1), false, false, 0, false, 0, 0, [], [], []⟩

theorem M.nil2 {w0 w : World} {B : Nat} {l1 l2 : List As} {e : TypeId} {z : Nat} (h : M w0 B w (l1 ++ l2)) : M w0 B w (l1 ++ .row e z (.slice none 0 0) 0 [] :: l2) := by
  have h1 := h.snocNil (e := e) (z := z)
  refine h1.perm ?_
  rw [List.append_assoc]
  exact List.Perm.append_left _ (List.perm_append_comm (l₁ := [_]))

set_option maxRecDepth 100000 in
set_option maxHeartbeats 1600000 in
theorem sys_begin (x : Wd) (c : Nat) (k key v : Int) (P : ByteArray → Prop) (fr : List As) (w0 w : World) (B : Nat) (htab : Tab w0) (hB : B = w0.heap.size) (hc : c < 64) (hnd : x.ds.length ≤ 100000000) (hp0 : 0 ≤ x.puts) (hp1 : x.puts ≤ 100000000)
    (hBegin : ∀ W, Tab W → Calls Tryd.prog 21 #[.agg #[.int .i64 k, .int .i64 key, .int .i64 v]] W fun e w' => (∃ f : ByteArray, e = .returned (.tuple #[.string f, .int .i64 0]) ∧ P f) ∧ Below W.heap.size W w')
    (h : M w0 B w (x.as ++ fr)) :
    Calls Tryd.prog 55 #[.pointer (some ⟨x.gw, 0, none⟩), .int .i64 c, .agg #[.int .i64 k, .int .i64 key, .int .i64 v]] w fun e w' => (∃ u, e = .returned u) ∧ ∃ (gd kg kc : Nat) (f : ByteArray) (dv' : Value), P f ∧ M w0 B w' (({ x with dv := dv', bs := x.bs.set c x.ds.length, puts := pu k x.puts, ds := x.ds ++ [Dd.new gd kg kc k key v f] } : Wd).as ++ fr) := by
  have h1 : M w0 B w (.blk x.gw (WC (.slice (some ⟨x.tg, 0, none⟩) 64 x.tc) (.slice (some ⟨x.ug, 0, none⟩) 64 x.uc) (.slice (some ⟨x.vg, 0, none⟩) 64 x.vc) x.dv (.slice (some ⟨x.bg, 0, none⟩) 64 x.bc) x.now x.puts x.rf false x.wt false x.kp x.cv x.ov false) 58 :: .row 3 1 (.slice (some ⟨x.bg, 0, none⟩) 64 x.bc) 64 (ints x.bs) :: .row 81 1 x.dv x.ds.length (x.ds.map Dd.ptr) :: (.row 9 1 (.slice (some ⟨x.tg, 0, none⟩) 64 x.tc) 64 (strs x.T) :: .row 4 1 (.slice (some ⟨x.ug, 0, none⟩) 64 x.uc) 64 (bools x.U) :: .row 3 1 (.slice (some ⟨x.vg, 0, none⟩) 64 x.vc) 64 (ints x.V) :: (x.ds.flatMap Dd.as ++ fr))) := h
  refine (begin_gen x.gw x.bg x.bc x.ds.length c _ _ _ x.dv x.cv x.ov x.now x.puts x.rf false x.wt false x.kp false (ints x.bs) (x.ds.map Dd.ptr) k key v _ w0 w B P htab hB hc hp0 hp1 hBegin hnd h1).mono ?_
  rintro e w' ⟨he, gd, f, hP, kv, dv', hM⟩
  obtain ⟨kg, kc, rfl⟩ := As.form (hM.get (i := 1) rfl) (by omega)
  refine ⟨he, gd, kg, kc, f, dv', hP, ?_⟩
  have h2 := M.nil2 (e := 3) (z := 1) (l1 := [_, _]) hM
  have h3 := M.nil2 (e := 3) (z := 1) (l1 := [_, _, _]) h2
  have h4 := M.nil2 (e := 3) (z := 1) (l1 := [_, _, _, _]) h3
  have h5 := M.nil2 (e := 142) (z := 2) (l1 := [_, _, _, _, _]) h4
  obtain ⟨x', hx'⟩ : ∃ y : Wd, y = { x with dv := dv', bs := x.bs.set c x.ds.length, puts := pu k x.puts, ds := x.ds ++ [Dd.new gd kg kc k key v f] } := ⟨_, rfl⟩
  rw [← hx']
  have e1 : x'.as ++ fr = x'.hd ++ (x.ds.flatMap Dd.as ++ ((Dd.new gd kg kc k key v f).as ++ fr)) := by
    unfold Wd.as
    rw [show x'.ds = x.ds ++ [Dd.new gd kg kc k key v f] by rw [hx'], List.flatMap_append, List.flatMap_cons, List.flatMap_nil, List.append_nil]
    simp only [List.append_assoc]
  rw [e1]
  have e2 : (Dd.new gd kg kc k key v f).as ++ (x'.hd ++ (x.ds.flatMap Dd.as ++ fr)) = .blk gd (DC k key v f (.slice none 0 0) (.slice (some ⟨kg, 0, none⟩) 64 kc) false false 0 false 0 0 (.slice none 0 0) (.slice none 0 0) (.slice none 0 0)) 84 :: .row 3 1 (.slice (some ⟨kg, 0, none⟩) 64 kc) 64 (List.replicate 64 (.int .i64 (-1))) :: .row 3 1 (.slice none 0 0) 0 [] :: .row 3 1 (.slice none 0 0) 0 [] :: .row 3 1 (.slice none 0 0) 0 [] :: .row 142 2 (.slice none 0 0) 0 [] :: .blk x.gw (WC (.slice (some ⟨x.tg, 0, none⟩) 64 x.tc) (.slice (some ⟨x.ug, 0, none⟩) 64 x.uc) (.slice (some ⟨x.vg, 0, none⟩) 64 x.vc) dv' (.slice (some ⟨x.bg, 0, none⟩) 64 x.bc) x.now (pu k x.puts) x.rf false x.wt false x.kp x.cv x.ov false) 58 :: .row 3 1 (.slice (some ⟨x.bg, 0, none⟩) 64 x.bc) 64 ((ints x.bs).set c (.int .i64 x.ds.length)) :: .row 81 1 dv' (x.ds.length + 1) (x.ds.map Dd.ptr ++ [.pointer (some ⟨gd, 0, none⟩)]) :: (.row 9 1 (.slice (some ⟨x.tg, 0, none⟩) 64 x.tc) 64 (strs x.T) :: .row 4 1 (.slice (some ⟨x.ug, 0, none⟩) 64 x.uc) 64 (bools x.U) :: .row 3 1 (.slice (some ⟨x.vg, 0, none⟩) 64 x.vc) 64 (ints x.V) :: (x.ds.flatMap Dd.as ++ fr)) := by
    have e3 : x'.ds.map Dd.ptr = x.ds.map Dd.ptr ++ [.pointer (some ⟨gd, 0, none⟩)] := by rw [hx']; simp [Dd.ptr, Dd.new]
    have e4 : x'.ds.length = x.ds.length + 1 := by rw [hx']; simp
    have e5 : ints (List.replicate 64 (-1)) = List.replicate 64 (.int .i64 (-1)) := by simp [ints]
    obtain ⟨z, hz⟩ : ∃ z, x.ds.flatMap Dd.as ++ fr = z := ⟨_, rfl⟩
    rw [hz, ints_setx]
    unfold Wd.hd
    rw [e3, e4, ← e5]
    subst hx'
    rfl
  have h6 : M w0 B w' ((Dd.new gd kg kc k key v f).as ++ (x'.hd ++ (x.ds.flatMap Dd.as ++ fr))) := by rw [e2]; exact h5
  refine h6.perm ?_
  exact (List.Perm.append_left _ (List.perm_append_comm_assoc _ _ _)).trans (List.perm_append_comm_assoc _ _ _)
end Go.Proofs.YtajobgmnmbnhiaaDoor.Sap

/- WHAT IS PROVED HERE: saplingkeep's merged: rows of so many, each in the order of times, two by two made one. Conditions: the list is short. -/
namespace Go.Proofs.YtajobgmnmbnhiaaDoor.Sap
open Go.RowKit

theorem infoDone : (Tryd.prog.info? 111).map (fun i => (i.zero, i.size, i.bytes)) = some (some (.agg #[.int .i64 0, .int .i64 0, .int .i64 0, .int .i64 0]), 4, 32) := by kernel_rfl
/-- What took effect, in memory. -/
def dnc (l : List Dn) : List Value := l.flatMap fun d => [.int .i64 d.t, .int .i64 d.k, .int .i64 d.key, .int .i64 d.v]
theorem dnc_snoc (l : List Dn) (d : Dn) : dnc (l ++ [d]) = dnc l ++ [.int .i64 d.t, .int .i64 d.k, .int .i64 d.key, .int .i64 d.v] := by simp [dnc]
theorem dnc_at {l : List Dn} : ∀ {i : Nat} {d : Dn}, l[i]? = some d → (dnc l)[i * 4]? = some (.int .i64 d.t) ∧ (dnc l)[i * 4 + 1]? = some (.int .i64 d.k) ∧ (dnc l)[i * 4 + 2]? = some (.int .i64 d.key) ∧ (dnc l)[i * 4 + 3]? = some (.int .i64 d.v) := by
  induction l with
  | nil => intro i d h; simp at h
  | cons a l ih =>
    intro i d h
    have e : dnc (a :: l) = [.int .i64 a.t, .int .i64 a.k, .int .i64 a.key, .int .i64 a.v] ++ dnc l := rfl
    rw [e]
    cases i with
    | zero => simp at h; subst h; exact ⟨rfl, rfl, rfl, rfl⟩
    | succ i =>
      obtain ⟨h1, h2, h3, h4⟩ := ih (i := i) (d := d) (by simpa using h)
      rw [show (i + 1) * 4 = 4 + i * 4 by omega]
      refine ⟨?_, ?_, ?_, ?_⟩
      · rw [List.getElem?_append_right (by simp)]; simpa using h1
      · rw [List.getElem?_append_right (by simp; omega)]; simpa [Nat.add_assoc] using h2
      · rw [List.getElem?_append_right (by simp; omega)]; simpa [Nat.add_assoc] using h3
      · rw [List.getElem?_append_right (by simp; omega)]; simpa [Nat.add_assoc] using h4

/-- The cells of one of them. -/
theorem M.dnCell {w0 w : World} {B i g n cap : Nat} {l : List As} {L : List Dn} (h : M w0 B w l) (hi : l[i]? = some (.row 111 4 (.slice (some ⟨g, 0, none⟩) n cap) n (dnc L))) {j : Nat} {d : Dn} (hj : L[j]? = some d) (hjn : j < n) :
    w.cell? ⟨g, j * 4, none⟩ = some (.int .i64 d.t) ∧ w.cell? ⟨g, j * 4 + 1, none⟩ = some (.int .i64 d.k) ∧ w.cell? ⟨g, j * 4 + 2, none⟩ = some (.int .i64 d.key) ∧ w.cell? ⟨g, j * 4 + 3, none⟩ = some (.int .i64 d.v) := by
  have hr := (h.get hi).own
  obtain ⟨h1, h2, h3, h4⟩ := dnc_at hj
  refine ⟨?_, ?_, ?_, ?_⟩
  · rw [World.ownsRow.cellAt hr _ (by omega)]; exact h1
  · rw [World.ownsRow.cellAt hr _ (by omega)]; exact h2
  · rw [World.ownsRow.cellAt hr _ (by omega)]; exact h3
  · rw [World.ownsRow.cellAt hr _ (by omega)]; exact h4

set_option maxRecDepth 100000 in
set_option maxHeartbeats 6400000 in
theorem merged_any (lv : Value) (l : List Dn) (W n : Nat) (fr : List As) (w0 w : World) (B : Nat) (hn : l.length = n) (hn1 : n ≤ 100000000) (hW0 : 1 ≤ W) (hW1 : W ≤ 100000000) (hBk : Blk W l)
    (h : M w0 B w (.row 111 4 lv n (dnc l) :: fr)) :
    Calls Tryd.prog 88 #[lv, .int .i64 W] w fun e w' => ∃ ov, e = .returned ov ∧ ∃ out, out.Perm l ∧ Blk (2 * W) out ∧ M w0 B w' (.row 111 4 ov n (dnc out) :: .row 111 4 lv n (dnc l) :: fr) := by
  obtain ⟨j0, hj0, hy0, hy1, hy2⟩ := info_parts infoDone
  obtain ⟨la, lc, rfl⟩ := As.form0 (h.get (i := 0) rfl)
  have A0 := hideIt (M.nil2 (e := 111) (z := 4) (l1 := []) h)
  have HB := hideIt hBk
  have HN := hideIt hn
  have hW0' : (1 : Int) ≤ (W : Int) := by omega
  clear h hBk hn
  go_enter Tryd.func88, Tryd.ntmps88
  go_wp2
  go_loopw [5, 6] (fun ov fm wr => ∃ (q m : Nat) (out : List Dn), fm = .int .i64 (q * (2 * W) : Nat) ∧ q * (2 * W) < n + 2 * W ∧ Hid (out.length = m) ∧ m ≤ n ∧ Hid (Mds l W q out) ∧ Hid (M w0 B wr (.row 111 4 ov m (dnc out) :: .row 111 4 (.slice la n lc) n (dnc l) :: fr))) (fun _ fm _ => n + 2 * W - (intOf fm).toNat)
  case atStart => exact ⟨0, 0, [], by simp, by omega, rfl, by omega, Mds.start l W, A0.out⟩
  case round =>
    clear A0
    obtain ⟨q, m, out, rfl, hq, hol, hm, hD, hM⟩ := hrel
    obtain ⟨oa, oc, rfl⟩ := As.form0 (hM.out.get (i := 0) rfl)
    obtain ⟨F, hF⟩ : ∃ F, q * (2 * W) = F := ⟨_, rfl⟩
    have HF := hideIt hF
    rw [hF] at hq ⊢
    clear hF
    by_cases hlt : F < n
    · have hFn : (F : Int) < (n : Int) := by omega
      obtain ⟨g, lc', hla⟩ := As.form (hM.out.get (i := 1) rfl) (by omega)
      cases hla
      go_wp2
      go_loopw [5, 7, 8] (fun ov vi vj wx => ∃ (i j m2 : Nat) (mm : List Dn), vi = .int .i64 i ∧ vj = .int .i64 j ∧ F ≤ i ∧ i ≤ F + W ∧ F + W ≤ j ∧ j ≤ F + 2 * W ∧ Hid ((out ++ mm).length = m2) ∧ Hid (m2 = m + (i - F) + (j - (F + W))) ∧ m2 ≤ n + 2 * W ∧ Hid (Mrg l W F i j mm) ∧ Hid (M w0 B wx (.row 111 4 ov m2 (dnc (out ++ mm)) :: .row 111 4 (.slice (some ⟨g, 0, none⟩) n lc) n (dnc l) :: fr))) (fun _ vi vj _ => 2 * F + 3 * W - (intOf vi).toNat - (intOf vj).toNat)
      case atStart => exact ⟨F, F + W, m, [], rfl, by go_num, by omega, by omega, by omega, by omega, by unfold Hid; rw [List.append_nil]; exact hol.out, by unfold Hid; omega, by omega, Mrg.start l W F, by unfold Hid; rw [List.append_nil]; exact hM.out⟩
      case round =>
        clear hM hol
        obtain ⟨i, j, m2, mm, rfl, rfl, hi0, hi1, hjj0, hjj1, hol2, hm2, hmx, hG, hN⟩ := hrel
        obtain ⟨na, nc, rfl⟩ := As.form0 (hN.out.get (i := 0) rfl)
        have hi00 : (0 : Int) ≤ (i : Int) := by omega
        have hj00 : (0 : Int) ≤ (j : Int) := by omega
        rcases (show (i < F + W ∧ i < n) ∨ ¬ i < F + W ∨ (i < F + W ∧ ¬ i < n) by omega) with hI | hI | hI
        · have hI1 : (i : Int) < (F : Int) + (W : Int) := by omega
          have hI2 : (i : Int) < (n : Int) := by omega
          obtain ⟨d, hdi⟩ : ∃ d, l[i]? = some d := ⟨_, List.getElem?_eq_getElem (by rw [HN.out]; exact hI.2)⟩
          have HDI := hideIt hdi
          clear hdi
          rcases (show (j < F + 2 * W ∧ j < n) ∨ ¬ j < F + 2 * W ∨ (j < F + 2 * W ∧ ¬ j < n) by omega) with hJ | hJ | hJ
          · have hJ1 : (j : Int) < (F : Int) + 2 * (W : Int) := by omega
            have hJ2 : (j : Int) < (n : Int) := by omega
            obtain ⟨d2, hdj⟩ : ∃ d, l[j]? = some d := ⟨_, List.getElem?_eq_getElem (by rw [HN.out]; exact hJ.2)⟩
            have HDJ := hideIt hdj
            clear hdj
            obtain ⟨y0, y1, y2, y3⟩ := hN.out.dnCell (i := 1) rfl HDI.out (by omega)
            obtain ⟨z0, z1, z2, z3⟩ := hN.out.dnCell (i := 1) rfl HDJ.out (by omega)
            by_cases hle : d.t ≤ d2.t
            · have HR : Hid (Mrg l W F (i + 1) j (mm ++ [d])) := by
                unfold Hid
                have h1 := hG.out
                rw [← HF.out] at h1 ⊢
                exact h1.takeI HB.out (by rw [HF.out]; omega) HDI.out (fun h2 h3 => by rw [tAt_get HDJ.out]; exact hle)
              go_wp2
              go_quiet (fail)
              have hN := hideIt (hN.out.drewN nq)
              go_wp2_with (at_builtin; refine wpList_append_lies _ rfl _ _ 56 rfl B 111 j0 (.agg #[.int .i64 0, .int .i64 0, .int .i64 0, .int .i64 0]) 4 32 Tryd.underlying56 hj0 hy0 hy1 hy2 rfl (by decide) _ m2 (dnc (out ++ mm)) rfl (World.ownsRow.alloc (hN.out.get (i := 0) rfl).own _) ⟨_, 0, none⟩ 1 1 [.int .i64 d.t, .int .i64 d.k, .int .i64 d.key, .int .i64 d.v] rfl rfl (World.news_of_block (heap_alloc_new _ _)) (by simp [Value.oneCell']) (by omega) (by unfold maxLen; omega) (by omega) (by have := hN.out.sz; simp at this ⊢; omega) _ rfl ?_; intro g1 cap1 w5 hown hgrow hat hlt1; rw [← dnc_snoc, List.append_assoc] at hown; have H1 := hideIt ((hN.out.allocd _).lies (i := 0) rfl hown hgrow hat); clear hown hgrow hat)
              go_roundw
              case rel => exact ⟨i + 1, j, m2 + 1, mm ++ [d], by go_num, rfl, by omega, by omega, by omega, by omega, by unfold Hid; rw [List.length_append, List.length_append, List.length_singleton, ← Nat.add_assoc, ← List.length_append, hol2.out], by have := hm2.out; unfold Hid; omega, by have := hm2.out; omega, HR.out, H1.out⟩
              case measure => simp [intOf]; omega
            · have HR : Hid (Mrg l W F i (j + 1) (mm ++ [d2])) := by
                unfold Hid
                have h1 := hG.out
                rw [← HF.out] at h1 ⊢
                exact h1.takeJ HB.out (by rw [HF.out]; omega) HDJ.out (fun h2 h3 => by rw [tAt_get HDI.out]; omega)
              go_wp2
              go_quiet (fail)
              have hN := hideIt (hN.out.drewN nq)
              go_wp2_with (at_builtin; refine wpList_append_lies _ rfl _ _ 56 rfl B 111 j0 (.agg #[.int .i64 0, .int .i64 0, .int .i64 0, .int .i64 0]) 4 32 Tryd.underlying56 hj0 hy0 hy1 hy2 rfl (by decide) _ m2 (dnc (out ++ mm)) rfl (World.ownsRow.alloc (hN.out.get (i := 0) rfl).own _) ⟨_, 0, none⟩ 1 1 [.int .i64 d2.t, .int .i64 d2.k, .int .i64 d2.key, .int .i64 d2.v] rfl rfl (World.news_of_block (heap_alloc_new _ _)) (by simp [Value.oneCell']) (by omega) (by unfold maxLen; omega) (by omega) (by have := hN.out.sz; simp at this ⊢; omega) _ rfl ?_; intro g1 cap1 w5 hown hgrow hat hlt1; rw [← dnc_snoc, List.append_assoc] at hown; have H1 := hideIt ((hN.out.allocd _).lies (i := 0) rfl hown hgrow hat); clear hown hgrow hat)
              go_roundw
              case rel => exact ⟨i, j + 1, m2 + 1, mm ++ [d2], rfl, by go_num, by omega, by omega, by omega, by omega, by unfold Hid; rw [List.length_append, List.length_append, List.length_singleton, ← Nat.add_assoc, ← List.length_append, hol2.out], by have := hm2.out; unfold Hid; omega, by have := hm2.out; omega, HR.out, H1.out⟩
              case measure => simp [intOf]; omega
          · have hJ1 : ¬ (j : Int) < (F : Int) + 2 * (W : Int) := by omega
            obtain ⟨y0, y1, y2, y3⟩ := hN.out.dnCell (i := 1) rfl HDI.out (by omega)
            have HR : Hid (Mrg l W F (i + 1) j (mm ++ [d])) := by
              unfold Hid
              have h1 := hG.out
              rw [← HF.out] at h1 ⊢
              exact h1.takeI HB.out (by rw [HF.out]; omega) HDI.out (fun h2 h3 => by rw [HF.out] at h2; rw [HN.out] at h3; omega)
            go_wp2_with (at_builtin; refine wpList_append_lies _ rfl _ _ 56 rfl B 111 j0 (.agg #[.int .i64 0, .int .i64 0, .int .i64 0, .int .i64 0]) 4 32 Tryd.underlying56 hj0 hy0 hy1 hy2 rfl (by decide) _ m2 (dnc (out ++ mm)) rfl (World.ownsRow.alloc (hN.out.get (i := 0) rfl).own _) ⟨_, 0, none⟩ 1 1 [.int .i64 d.t, .int .i64 d.k, .int .i64 d.key, .int .i64 d.v] rfl rfl (World.news_of_block (heap_alloc_new _ _)) (by simp [Value.oneCell']) (by omega) (by unfold maxLen; omega) (by omega) (by have := hN.out.sz; simp at this ⊢; omega) _ rfl ?_; intro g1 cap1 w5 hown hgrow hat hlt1; rw [← dnc_snoc, List.append_assoc] at hown; have H1 := hideIt ((hN.out.allocd _).lies (i := 0) rfl hown hgrow hat); clear hown hgrow hat)
            go_roundw
            case rel => exact ⟨i + 1, j, m2 + 1, mm ++ [d], by go_num, rfl, by omega, by omega, by omega, by omega, by unfold Hid; rw [List.length_append, List.length_append, List.length_singleton, ← Nat.add_assoc, ← List.length_append, hol2.out], by have := hm2.out; unfold Hid; omega, by have := hm2.out; omega, HR.out, H1.out⟩
            case measure => simp [intOf]; omega
          · have hJ1 : (j : Int) < (F : Int) + 2 * (W : Int) := by omega
            have hJ2 : ¬ (j : Int) < (n : Int) := by omega
            obtain ⟨y0, y1, y2, y3⟩ := hN.out.dnCell (i := 1) rfl HDI.out (by omega)
            have HR : Hid (Mrg l W F (i + 1) j (mm ++ [d])) := by
              unfold Hid
              have h1 := hG.out
              rw [← HF.out] at h1 ⊢
              exact h1.takeI HB.out (by rw [HF.out]; omega) HDI.out (fun h2 h3 => by rw [HF.out] at h2; rw [HN.out] at h3; omega)
            go_wp2_with (at_builtin; refine wpList_append_lies _ rfl _ _ 56 rfl B 111 j0 (.agg #[.int .i64 0, .int .i64 0, .int .i64 0, .int .i64 0]) 4 32 Tryd.underlying56 hj0 hy0 hy1 hy2 rfl (by decide) _ m2 (dnc (out ++ mm)) rfl (World.ownsRow.alloc (hN.out.get (i := 0) rfl).own _) ⟨_, 0, none⟩ 1 1 [.int .i64 d.t, .int .i64 d.k, .int .i64 d.key, .int .i64 d.v] rfl rfl (World.news_of_block (heap_alloc_new _ _)) (by simp [Value.oneCell']) (by omega) (by unfold maxLen; omega) (by omega) (by have := hN.out.sz; simp at this ⊢; omega) _ rfl ?_; intro g1 cap1 w5 hown hgrow hat hlt1; rw [← dnc_snoc, List.append_assoc] at hown; have H1 := hideIt ((hN.out.allocd _).lies (i := 0) rfl hown hgrow hat); clear hown hgrow hat)
            go_roundw
            case rel => exact ⟨i + 1, j, m2 + 1, mm ++ [d], by go_num, rfl, by omega, by omega, by omega, by omega, by unfold Hid; rw [List.length_append, List.length_append, List.length_singleton, ← Nat.add_assoc, ← List.length_append, hol2.out], by have := hm2.out; unfold Hid; omega, by have := hm2.out; omega, HR.out, H1.out⟩
            case measure => simp [intOf]; omega
        · have hI1 : ¬ (i : Int) < (F : Int) + (W : Int) := by omega
          rcases (show (j < F + 2 * W ∧ j < n) ∨ ¬ j < F + 2 * W ∨ (j < F + 2 * W ∧ ¬ j < n) by omega) with hJ | hJ | hJ
          · have hJ1 : (j : Int) < (F : Int) + 2 * (W : Int) := by omega
            have hJ2 : (j : Int) < (n : Int) := by omega
            obtain ⟨d, hdj⟩ : ∃ d, l[j]? = some d := ⟨_, List.getElem?_eq_getElem (by rw [HN.out]; exact hJ.2)⟩
            have HDJ := hideIt hdj
            clear hdj
            obtain ⟨y0, y1, y2, y3⟩ := hN.out.dnCell (i := 1) rfl HDJ.out (by omega)
            have HR : Hid (Mrg l W F i (j + 1) (mm ++ [d])) := by
              unfold Hid
              have h1 := hG.out
              rw [← HF.out] at h1 ⊢
              exact h1.takeJ HB.out (by rw [HF.out]; omega) HDJ.out (fun h2 h3 => by rw [HF.out] at h2; rw [HN.out] at h3; omega)
            go_wp2_with (at_builtin; refine wpList_append_lies _ rfl _ _ 56 rfl B 111 j0 (.agg #[.int .i64 0, .int .i64 0, .int .i64 0, .int .i64 0]) 4 32 Tryd.underlying56 hj0 hy0 hy1 hy2 rfl (by decide) _ m2 (dnc (out ++ mm)) rfl (World.ownsRow.alloc (hN.out.get (i := 0) rfl).own _) ⟨_, 0, none⟩ 1 1 [.int .i64 d.t, .int .i64 d.k, .int .i64 d.key, .int .i64 d.v] rfl rfl (World.news_of_block (heap_alloc_new _ _)) (by simp [Value.oneCell']) (by omega) (by unfold maxLen; omega) (by omega) (by have := hN.out.sz; simp at this ⊢; omega) _ rfl ?_; intro g1 cap1 w5 hown hgrow hat hlt1; rw [← dnc_snoc, List.append_assoc] at hown; have H1 := hideIt ((hN.out.allocd _).lies (i := 0) rfl hown hgrow hat); clear hown hgrow hat)
            go_roundw
            case rel => exact ⟨i, j + 1, m2 + 1, mm ++ [d], rfl, by go_num, by omega, by omega, by omega, by omega, by unfold Hid; rw [List.length_append, List.length_append, List.length_singleton, ← Nat.add_assoc, ← List.length_append, hol2.out], by have := hm2.out; unfold Hid; omega, by have := hm2.out; omega, HR.out, H1.out⟩
            case measure => simp [intOf]; omega
          · have hJ1 : ¬ (j : Int) < (F : Int) + 2 * (W : Int) := by omega
            have HS : Hid (Mds l W (q + 1) (out ++ mm)) := hD.out.step (by rw [HF.out]; exact hG.out) (by rw [HF.out, HN.out]; exact hlt) (by rw [HF.out, HN.out]; omega) (by rw [HF.out, HN.out]; omega)
            have hml : m2 ≤ n := by
              have h1 := HS.out.pm.length_eq
              rw [hol2.out, List.length_take, HN.out] at h1
              omega
            have e1 : Hid ((q + 1) * (2 * W) = F + 2 * W) := by unfold Hid; rw [Nat.add_mul, Nat.one_mul, HF.out]
            go_wp2
            go_roundw
            case rel => exact ⟨q + 1, m2, out ++ mm, by rw [e1.out]; go_num, by rw [e1.out]; omega, hol2.out, hml, HS.out, hN.out⟩
            case measure => simp [intOf]; omega
          · have hJ1 : (j : Int) < (F : Int) + 2 * (W : Int) := by omega
            have hJ2 : ¬ (j : Int) < (n : Int) := by omega
            have HS : Hid (Mds l W (q + 1) (out ++ mm)) := hD.out.step (by rw [HF.out]; exact hG.out) (by rw [HF.out, HN.out]; exact hlt) (by rw [HF.out, HN.out]; omega) (by rw [HF.out, HN.out]; omega)
            have hml : m2 ≤ n := by
              have h1 := HS.out.pm.length_eq
              rw [hol2.out, List.length_take, HN.out] at h1
              omega
            have e1 : Hid ((q + 1) * (2 * W) = F + 2 * W) := by unfold Hid; rw [Nat.add_mul, Nat.one_mul, HF.out]
            go_wp2
            go_roundw
            case rel => exact ⟨q + 1, m2, out ++ mm, by rw [e1.out]; go_num, by rw [e1.out]; omega, hol2.out, hml, HS.out, hN.out⟩
            case measure => simp [intOf]; omega
        · have hI1 : (i : Int) < (F : Int) + (W : Int) := by omega
          have hI2 : ¬ (i : Int) < (n : Int) := by omega
          rcases (show (j < F + 2 * W ∧ j < n) ∨ ¬ j < F + 2 * W ∨ (j < F + 2 * W ∧ ¬ j < n) by omega) with hJ | hJ | hJ
          · have hJ1 : (j : Int) < (F : Int) + 2 * (W : Int) := by omega
            have hJ2 : (j : Int) < (n : Int) := by omega
            exfalso
            omega
          · have hJ1 : ¬ (j : Int) < (F : Int) + 2 * (W : Int) := by omega
            have HS : Hid (Mds l W (q + 1) (out ++ mm)) := hD.out.step (by rw [HF.out]; exact hG.out) (by rw [HF.out, HN.out]; exact hlt) (by rw [HF.out, HN.out]; omega) (by rw [HF.out, HN.out]; omega)
            have hml : m2 ≤ n := by
              have h1 := HS.out.pm.length_eq
              rw [hol2.out, List.length_take, HN.out] at h1
              omega
            have e1 : Hid ((q + 1) * (2 * W) = F + 2 * W) := by unfold Hid; rw [Nat.add_mul, Nat.one_mul, HF.out]
            go_wp2
            go_roundw
            case rel => exact ⟨q + 1, m2, out ++ mm, by rw [e1.out]; go_num, by rw [e1.out]; omega, hol2.out, hml, HS.out, hN.out⟩
            case measure => simp [intOf]; omega
          · have hJ1 : (j : Int) < (F : Int) + 2 * (W : Int) := by omega
            have hJ2 : ¬ (j : Int) < (n : Int) := by omega
            have HS : Hid (Mds l W (q + 1) (out ++ mm)) := hD.out.step (by rw [HF.out]; exact hG.out) (by rw [HF.out, HN.out]; exact hlt) (by rw [HF.out, HN.out]; omega) (by rw [HF.out, HN.out]; omega)
            have hml : m2 ≤ n := by
              have h1 := HS.out.pm.length_eq
              rw [hol2.out, List.length_take, HN.out] at h1
              omega
            have e1 : Hid ((q + 1) * (2 * W) = F + 2 * W) := by unfold Hid; rw [Nat.add_mul, Nat.one_mul, HF.out]
            go_wp2
            go_roundw
            case rel => exact ⟨q + 1, m2, out ++ mm, by rw [e1.out]; go_num, by rw [e1.out]; omega, hol2.out, hml, HS.out, hN.out⟩
            case measure => simp [intOf]; omega
    · have hFn2 : ¬ (F : Int) < (n : Int) := by omega
      obtain ⟨hp, hb⟩ := hD.out.done (by rw [HN.out, HF.out]; omega)
      have HP := hideIt hp
      have HB2 := hideIt hb
      have hmn : m = n := by rw [← hol.out, ← HN.out]; exact hp.length_eq
      subst hmn
      clear hp hb
      go_wp2
      go_ret
      exact ⟨_, rfl, out, HP.out, HB2.out, hM.out⟩
end Go.Proofs.YtajobgmnmbnhiaaDoor.Sap
