/- WHAT IS PROVED HERE: saplingkeep's begin: a client's operation that is no Put is begun. Conditions: the operation is right; the table of powers of ten is laid. -/
import Derived.Test.YtajobgmnmbnhiaaGreatDoorXU0T2
import Derived.Test.YtajobgmnmbnhiaaGreatDoorXS2B2
namespace Go.Proofs.YtajobgmnmbnhiaaGreatDoor.Sap
open Go.RowKit

set_option maxRecDepth 100000 in
set_option maxHeartbeats 6400000 in
theorem begin_op (gw bg bc nd : Nat) (tv uv vv dv cv ov : Value) (now puts : Int) (rf il wt bk kp bad : Bool) (xs ds : List Value) (k key v : Int) (fr : List As) (w0 w : World) (B : Nat) (htab : Tab w0) (hB : B = w0.heap.size) (ho : opR k key v = true) (hk2 : k ≠ 2) (hnd : nd ≤ 1000)
    (h : M w0 B w (.blk gw (WC tv uv vv dv (.slice (some ⟨bg, 0, none⟩) 64 bc) now puts rf il wt bk kp cv ov bad) 34 :: .row 3 1 (.slice (some ⟨bg, 0, none⟩) 64 bc) 64 xs :: .row 40 1 dv nd ds :: fr)) :
    Calls Tryz.prog 10 #[.pointer (some ⟨gw, 0, none⟩), .int .i64 0, .agg #[.int .i64 k, .int .i64 key, .int .i64 v]] w fun e w' => (∃ u, e = .returned u) ∧ ∃ (gd : Nat) (f : ByteArray) (kv dv' : Value), f.data.toList = frT (st0 k key v) ∧
      M w0 B w' (.blk gd (DC k key v f (.slice none 0 0) kv false false 0 false 0 0 (.slice none 0 0) (.slice none 0 0) (.slice none 0 0)) 48 :: .row 3 1 kv 64 (List.replicate 64 (.int .i64 (-1))) :: .blk gw (WC tv uv vv dv' (.slice (some ⟨bg, 0, none⟩) 64 bc) now puts rf il wt bk kp cv ov bad) 34 :: .row 3 1 (.slice (some ⟨bg, 0, none⟩) 64 bc) 64 (xs.set 0 (.int .i64 nd)) :: .row 40 1 dv' (nd + 1) (ds ++ [.pointer (some ⟨gd, 0, none⟩)]) :: fr) := by
  obtain ⟨i0, hi0, hz0, hz1, hz2⟩ := info_parts infoInt
  obtain ⟨j0, hj0, hy0, hy1, hy2⟩ := info_parts infoDeed
  obtain ⟨da, dc, rfl⟩ := As.form0 (h.get (i := 2) rfl)
  have hsk : (k == 2) = false := by simp [hk2]
  have A0 := hideIt (h.alloc #[.int .i64 k, .int .i64 key, .int .i64 v] 36)
  have HO := hideIt ho
  have HT : Hid (∀ W l, M w0 B W l → Tab W) := fun W l hm => htab.below (hB ▸ hm.bl)
  clear h ho htab hB hk2
  go_enter Tryz.func10, Tryz.ntmps10
  go_wp2_with fail
  refine (begin_any k key v _ (HT.out _ _ A0.out)).mono ?_
  rintro e w1 ⟨hR, hb⟩
  rcases hR with ⟨hno, -⟩ | ⟨-, f, rfl, hf⟩
  · rw [HO.out] at hno; cases hno
  have HF := hideIt hf
  have A1 := hideIt (A0.out.below hb)
  obtain ⟨go, hgo⟩ : ∃ g, w.heap.size = g := ⟨_, rfl⟩
  rw [hgo] at A1 ⊢
  clear hf hb A0 hgo
  have p0 := A1.out.cell (i := 0) rfl 0 (.int .i64 k) rfl
  have p1 := A1.out.cell (i := 0) rfl 1 (.int .i64 key) rfl
  have p2 := A1.out.cell (i := 0) rfl 2 (.int .i64 v) rfl
  have A2 := hideIt (M.rowNil (e := 3) (z := 1) (A1.out.alloc (DC k key v f (.slice none 0 0) (.slice none 0 0) false false 0 false 0 0 (.slice none 0 0) (.slice none 0 0) (.slice none 0 0)) 48))
  go_wp2
  obtain ⟨gd, hgd⟩ : ∃ g, w1.heap.size = g := ⟨_, rfl⟩
  rw [hgd] at A2 ⊢
  clear hgd p0 p1 p2 A1
  go_loopw [9] (fun i wr => ∃ j : Nat, ∃ kv : Value, j ≤ 64 ∧ i = .int .i64 j ∧ Hid (M w0 B wr (.blk gd (DC k key v f (.slice none 0 0) kv false false 0 false 0 0 (.slice none 0 0) (.slice none 0 0) (.slice none 0 0)) 48 :: .row 3 1 kv j (List.replicate j (.int .i64 (-1))) :: .blk go #[.int .i64 k, .int .i64 key, .int .i64 v] 36 :: .blk gw (WC tv uv vv (.slice da nd dc) (.slice (some ⟨bg, 0, none⟩) 64 bc) now puts rf il wt bk kp cv ov bad) 34 :: .row 3 1 (.slice (some ⟨bg, 0, none⟩) 64 bc) 64 xs :: .row 40 1 (.slice da nd dc) nd ds :: fr))) (fun i _ => 64 - (intOf i).toNat)
  case atStart => exact ⟨0, _, Nat.zero_le _, rfl, A2.out⟩
  case round =>
    clear A2
    obtain ⟨j, kv, hj, rfl, hM⟩ := hrel
    obtain ⟨ka, kc, rfl⟩ := As.form0 (hM.out.get (i := 1) rfl)
    have hsz := hM.out.lt (i := 0) rfl
    have q5 := hM.out.cell (i := 0) rfl 5 (.slice ka j kc) rfl
    have f5 := hM.out.free (i := 0) rfl 5
    by_cases hlt : j < 64
    · have hjj : (j : Int) < 64 := by omega
      go_wp2_with (at_builtin; refine wpList_append_lies _ rfl _ _ 22 rfl B 3 i0 (.int .i64 0) 1 8 Tryz.underlying22 hi0 hz0 hz1 hz2 rfl (by decide) _ j (List.replicate j (.int .i64 (-1))) rfl (World.ownsRow.alloc (hM.out.get (i := 1) rfl) _) ⟨_, 0, none⟩ 1 1 [.int .i64 (-1)] rfl rfl (news_one _ _ _) (by simp [Value.oneCell']) (by omega) (by unfold maxLen; omega) (by omega) (by have := hM.out.sz; simp at this ⊢; omega) _ rfl ?_; intro g1 cap1 w5 hown hgrow hat hlt1; rw [rep_snoc] at hown; have hm := (hM.out.allocd _).lies (i := 1) rfl hown hgrow hat; clear q5 f5 hown hgrow hat; have q5 := hm.cell (i := 0) rfl 5 (.slice ka j kc) rfl; have f5 := hm.free (i := 0) rfl 5; have H1 := hideIt (hm.store (i := 0) (j := 5) rfl (.slice (some ⟨g1, 0, none⟩) (j + 1) cap1) rfl); clear hm)
      go_roundw
      case rel => exact ⟨j + 1, _, by omega, by go_num, H1.out⟩
      case measure => simp [intOf]; omega
    · obtain rfl : j = 64 := by omega
      rw [show ((64 : Nat) : Int) = 64 from rfl]
      have c3 := hM.out.cell (i := 3) rfl 3 (.slice da nd dc) rfl
      have c4 := hM.out.cell (i := 3) rfl 4 (.slice (some ⟨bg, 0, none⟩) 64 bc) rfl
      have hrow := hM.out.get (i := 4) rfl
      obtain ⟨x, hx⟩ : ∃ x, xs[0]? = some x := by have := hrow.1; exact ⟨_, List.getElem?_eq_getElem (by simp at this; omega)⟩
      have t1 := World.ownsRow.cellAt hrow 0 (by omega)
      rw [hx] at t1
      have tf := World.ownsRow.frozenAt hrow 0
      clear hrow hx hlt
      go_upto_region 9 with fail
      go_cut [] (fun wy => Hid (M w0 B wy (.blk gd (DC k key v f (.slice none 0 0) (.slice ka 64 kc) false false 0 false 0 0 (.slice none 0 0) (.slice none 0 0) (.slice none 0 0)) 48 :: .row 3 1 (.slice ka 64 kc) 64 (List.replicate 64 (.int .i64 (-1))) :: .blk go #[.int .i64 k, .int .i64 key, .int .i64 v] 36 :: .blk gw (WC tv uv vv (.slice da nd dc) (.slice (some ⟨bg, 0, none⟩) 64 bc) now puts rf il wt bk kp cv ov bad) 34 :: .row 3 1 (.slice (some ⟨bg, 0, none⟩) 64 bc) 64 (xs.set 0 (.int .i64 nd)) :: .row 40 1 (.slice da nd dc) nd ds :: fr)))
      case first =>
        go_region
        all_goals
          go_wp2
          go_meet
          case rel => exact (hM.out.storeRow (i := 4) (j := 0) rfl (.int .i64 nd)).drew
      case rest =>
        have hN := hideIt hcut
        clear hcut hM q5 f5 c3 c4 t1 tf hsz
        have c3 := hN.out.out.cell (i := 3) rfl 3 (.slice da nd dc) rfl
        have f3 := hN.out.out.free (i := 3) rfl 3
        have p0 := hN.out.out.cell (i := 2) rfl 0 (.int .i64 k) rfl
        go_wp2_with (at_builtin; refine wpList_append_lies _ rfl _ _ 30 rfl B 40 j0 (.pointer none) 1 8 Tryz.underlying30 hj0 hy0 hy1 hy2 rfl (by decide) _ nd ds rfl (World.ownsRow.alloc (hN.out.out.get (i := 5) rfl) _) ⟨_, 0, none⟩ 1 1 [.pointer (some ⟨gd, 0, none⟩)] rfl rfl (news_one _ _ _) (by simp [Value.oneCell']) (by omega) (by unfold maxLen; omega) (by omega) (by have := hN.out.out.sz; simp at this ⊢; omega) _ rfl ?_; intro g1 cap1 w5 hown hgrow hat hlt1; have hm := (hN.out.out.allocd _).lies (i := 5) rfl hown hgrow hat; clear c3 f3 p0 hown hgrow hat; have c3 := hm.cell (i := 3) rfl 3 (.slice da nd dc) rfl; have f3 := hm.free (i := 3) rfl 3; have p0 := hm.cell (i := 2) rfl 0 (.int .i64 k) rfl; have hneo := hm.bne (i := 2) (j := 3) rfl rfl (by omega); have H1 := hideIt (hm.store (i := 3) (j := 3) rfl (.slice (some ⟨g1, 0, none⟩) (nd + 1) cap1) rfl); clear hm)
        refine bodyPost_end (results_none Tryz.results10 _ _ _) rfl ⟨⟨_, rfl⟩, gd, f, .slice ka 64 kc, .slice (some ⟨g1, 0, none⟩) (nd + 1) cap1, HF.out, ?_⟩
        exact H1.out.sub (List.Sublist.cons_cons _ (List.Sublist.cons_cons _ (List.sublist_cons_self _ _)))
end Go.Proofs.YtajobgmnmbnhiaaGreatDoor.Sap
