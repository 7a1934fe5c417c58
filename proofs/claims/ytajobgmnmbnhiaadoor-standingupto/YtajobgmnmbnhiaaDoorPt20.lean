/- WHAT IS PROVED HERE: what tree.scanned answers: a Scan's answer, its cuts in a list of their own. Conditions: the two lists of cuts are of one length, at most 64. -/
import Derived.Test.YtajobgmnmbnhiaaDoorPt14
import Derived.Test.YtajobgmnmbnhiaaDoorPt19
import Derived.Deep.RegionHeld3
namespace Go.Proofs.YtajobgmnmbnhiaaDoor.Sap
open Go.RowKit
theorem infoCut : (Tryd.prog.info? 142).map (fun i => (i.zero, i.size, i.bytes)) = some (some (.agg #[.int .i64 0, .int .i64 0]), 2, 16) := by kernel_rfl
theorem cutc_snoc (cs : List (Int × Int)) (c : Int × Int) : cutc (cs ++ [c]) = cutc cs ++ [.int .i64 c.1, .int .i64 c.2] := by simp [cutc]
set_option maxRecDepth 100000 in
set_option maxHeartbeats 6400000 in
theorem scanned_any (s : St) (kv vv bv pv xv yv : Value) (w : World) (hv : StV w s kv vv bv pv xv yv) (hl : s.bel.length = s.pts.length) (h64 : s.bel.length ≤ 64) :
    Calls Tryd.prog 116 #[.agg #[.int .i64 s.kd, .int .i64 s.key, .int .i64 s.val, .int .i64 s.step, .int .i64 s.pg, kv, vv, bv, pv, .string s.sw, .int .i64 s.ver, xv, yv, .int .i64 s.laid, .int .i64 s.lv, .int .i64 s.low, .int .i64 s.ch, .int .i64 s.pt]] w fun e w' => ∃ cv, e = .returned (.agg #[.int .i64 0, .bool (decide (0 < s.keys.length)), .int .i64 s.keys.length, .int .i64 s.step, kv, vv, cv]) ∧ M w w.heap.size w' [.row 142 2 cv s.bel.length (cutc (s.bel.zip s.pts))] := by
  obtain ⟨j0, hj0, hy0, hy1, hy2⟩ := info_parts infoCut
  obtain ⟨ak, ck, rfl⟩ := hv.keys.len
  obtain ⟨av, cv0, rfl⟩ := hv.vals.len
  obtain ⟨ab, cb, rfl⟩ := hv.bel.len
  obtain ⟨ap, cp, rfl⟩ := hv.pts.len
  obtain ⟨ax, cx, rfl⟩ := hv.sp.len
  obtain ⟨ay, cy, rfl⟩ := hv.sv.len
  have HB := hideIt hv.bel
  have HP := hideIt hv.pts
  obtain ⟨m, hm⟩ : ∃ m, s.bel.length = m := ⟨_, rfl⟩
  obtain ⟨kl, hkl⟩ : ∃ m, s.keys.length = m := ⟨_, rfl⟩
  obtain ⟨vl, hvl⟩ : ∃ m, s.vals.length = m := ⟨_, rfl⟩
  have HM := hideIt hm
  have HL := hideIt hl
  rw [← hl] at HP ⊢
  rw [hm] at HB HP h64 ⊢
  rw [hkl, hvl]
  clear hv hl hm hkl hvl
  have A0 := hideIt (M.rowNil (e := 142) (z := 2) ((((M.start w).alloc #[.int .i64 s.kd, .int .i64 s.key, .int .i64 s.val, .int .i64 s.step, .int .i64 s.pg, .slice ak kl ck, .slice av vl cv0, .slice ab m cb, .slice ap m cp, .string s.sw, .int .i64 s.ver, .slice ax s.sp.length cx, .slice ay s.sv.length cy, .int .i64 s.laid, .int .i64 s.lv, .int .i64 s.low, .int .i64 s.ch, .int .i64 s.pt] 98).alloc #[.int .i64 0, .bool false, .int .i64 0, .int .i64 0, .slice none 0 0, .slice none 0 0, .slice none 0 0] 76).alloc #[.int .i64 0, .bool (decide (0 < kl)), .int .i64 kl, .int .i64 s.step, .slice ak kl ck, .slice av vl cv0, .slice none 0 0] 76))
  rw [alloc_size, alloc_size] at A0
  go_enter Tryd.func116, Tryd.ntmps116
  go_wp2
  go_loopw [4] (fun i wr => ∃ k : Nat, ∃ cv : Value, k ≤ m ∧ i = .int .i64 k ∧ Hid (M w w.heap.size wr [.blk (w.heap.size + 1 + 1) #[.int .i64 0, .bool (decide (0 < kl)), .int .i64 kl, .int .i64 s.step, .slice ak kl ck, .slice av vl cv0, cv] 76, .row 142 2 cv k (cutc ((s.bel.zip s.pts).take k)), .blk (w.heap.size + 1) #[.int .i64 0, .bool false, .int .i64 0, .int .i64 0, .slice none 0 0, .slice none 0 0, .slice none 0 0] 76, .blk w.heap.size #[.int .i64 s.kd, .int .i64 s.key, .int .i64 s.val, .int .i64 s.step, .int .i64 s.pg, .slice ak kl ck, .slice av vl cv0, .slice ab m cb, .slice ap m cp, .string s.sw, .int .i64 s.ver, .slice ax s.sp.length cx, .slice ay s.sv.length cy, .int .i64 s.laid, .int .i64 s.lv, .int .i64 s.low, .int .i64 s.ch, .int .i64 s.pt] 98])) (fun i _ => m - (intOf i).toNat)
  case atStart =>
    exact ⟨0, .slice none 0 0, Nat.zero_le _, rfl, A0.out⟩
  case round =>
    clear A0
    obtain ⟨k, cv, hk, rfl, hM⟩ := hrel
    obtain ⟨ca, cc, rfl⟩ := As.form0 (hM.out.get (i := 1) rfl)
    have c6 := hM.out.cell (i := 0) rfl 6 (.slice ca k cc) rfl
    have f6 := hM.out.free (i := 0) rfl 6
    have s5 := hM.out.cell (i := 3) rfl 7 (.slice ab m cb) rfl
    have s6 := hM.out.cell (i := 3) rfl 8 (.slice ap m cp) rfl
    have hlg := hM.out.lt (i := 0) rfl
    by_cases hlt : k < m
    · obtain ⟨b1, o1, rfl, -, x1⟩ := HB.out.elem k hlt
      obtain ⟨b2, o2, rfl, -, x2⟩ := HP.out.elem k hlt
      obtain ⟨a, ha⟩ : ∃ y, s.bel[k]?.getD 0 = y := ⟨_, rfl⟩
      obtain ⟨b, hb⟩ : ∃ y, s.pts[k]?.getD 0 = y := ⟨_, rfl⟩
      rw [ha] at x1
      rw [hb] at x2
      have HX1 := hideIt x1
      have HX2 := hideIt x2
      have HCT : Hid (cutc ((s.bel.zip s.pts).take (k + 1)) = cutc ((s.bel.zip s.pts).take k) ++ [.int .i64 a, .int .i64 b]) := by
        have hk1 : k < s.bel.length := by rw [HM.out]; exact hlt
        have hk2 : k < s.pts.length := by rw [← HL.out]; exact hk1
        rw [List.getElem?_eq_getElem hk1] at ha
        rw [List.getElem?_eq_getElem hk2] at hb
        simp only [Option.getD_some] at ha hb
        have hz : (s.bel.zip s.pts)[k]? = some (a, b) := by rw [List.getElem?_zip_eq_some]; exact ⟨by rw [List.getElem?_eq_getElem hk1, ha], by rw [List.getElem?_eq_getElem hk2, hb]⟩
        unfold Hid
        rw [List.take_add_one, hz, Option.toList_some, cutc_snoc]
      have y1 := x1 _ hM.out.bl
      have y2 := x2 _ hM.out.bl
      have hb1 := HB.out.blk_lt k hlt
      have hb2 := HP.out.blk_lt k hlt
      have hkk : (0 : Int) ≤ (k : Int) := by omega
      have hkl : (k : Int) < (m : Int) := by omega
      have hn1 : b1 ≠ w.heap.size + 1 + 1 := by omega
      have hn2 : b2 ≠ w.heap.size + 1 + 1 := by omega
      have hn3 : w.heap.size + 1 + 1 ≠ b1 := by omega
      have hn4 : w.heap.size + 1 + 1 ≠ b2 := by omega
      have hw1 : w.heap.size < wr.heap.size := by omega
      have hw2 : b1 < wr.heap.size := by omega
      have hw3 : b2 < wr.heap.size := by omega
      clear x1 x2 ha hb
      go_wp2
      go_region_law (refine step_append_lies _ rfl _ _ 74 rfl w.heap.size 142 j0 (.agg #[.int .i64 0, .int .i64 0]) 2 16 Tryd.underlying74 hj0 hy0 hy1 hy2 rfl (by decide) _ k (cutc ((s.bel.zip s.pts).take k)) rfl (World.ownsRow.alloc (hM.out.get (i := 1) rfl) _) ⟨_, 0, none⟩ 1 1 [.int .i64 a, .int .i64 b] rfl rfl (World.news_of_block (heap_alloc_new _ _)) (by simp [Value.oneCell']) (by omega) (by unfold maxLen; omega) (by omega) (by have := hM.out.sz; simp at this ⊢; omega) _ rfl ?_; intro g1 cap1 w5 hown hgrow hat hlt1; rw [← HCT.out] at hown; have hm := (hM.out.allocd _).drew.lies (i := 1) rfl hown hgrow hat; clear c6 f6 s5 s6 y1 y2 hown hgrow hat; have c6 := hm.cell (i := 0) rfl 6 (.slice ca k cc) rfl; have f6 := hm.free (i := 0) rfl 6; have s5 := hm.cell (i := 3) rfl 7 (.slice (some ⟨b1, o1, none⟩) m cb) rfl; have s6 := hm.cell (i := 3) rfl 8 (.slice (some ⟨b2, o2, none⟩) m cp) rfl; have y1 := HX1.out _ hm.bl; have y2 := HX2.out _ hm.bl; have H1 := hideIt (hm.store (i := 0) (j := 6) rfl (.slice (some ⟨g1, 0, none⟩) (k + 1) cap1) rfl); clear hm)
      all_goals
        go_wp2
        go_roundw
        case rel => exact ⟨k + 1, _, by omega, by go_num, H1.out⟩
        case measure => simp [intOf]; omega
    · obtain rfl : k = m := by omega
      have r := fun j v hv => hM.out.cell (i := 2) rfl j v hv
      have hz : (s.bel.zip s.pts).take k = s.bel.zip s.pts := List.take_of_length_le (by rw [List.length_zip, HM.out]; omega)
      rw [hz] at hM
      have HN := hideIt hM
      have a0 := HN.out.out.cell (i := 0) rfl 0 (.int .i64 0) rfl
      have a1 := HN.out.out.cell (i := 0) rfl 1 (.bool (decide (0 < kl))) rfl
      have a2 := HN.out.out.cell (i := 0) rfl 2 (.int .i64 kl) rfl
      have a3 := HN.out.out.cell (i := 0) rfl 3 (.int .i64 s.step) rfl
      have a4 := HN.out.out.cell (i := 0) rfl 4 (.slice ak kl ck) rfl
      have a5 := HN.out.out.cell (i := 0) rfl 5 (.slice av vl cv0) rfl
      have r0 := r 0 (.int .i64 0) rfl
      have r1 := r 1 (.bool false) rfl
      have r2 := r 2 (.int .i64 0) rfl
      have r3 := r 3 (.int .i64 0) rfl
      have r4 := r 4 (.slice none 0 0) rfl
      have r5 := r 5 (.slice none 0 0) rfl
      have r6 := r 6 (.slice none 0 0) rfl
      have g := fun j => HN.out.out.free (i := 2) rfl j
      have g0 := g 0
      have g1 := g 1
      have g2 := g 2
      have g3 := g 3
      have g4 := g 4
      have g5 := g 5
      have g6 := g 6
      have S7 := hideIt ((HN.out.out.store7 (i := 2) rfl (.int .i64 0) (.bool (decide (0 < kl))) (.int .i64 kl) (.int .i64 s.step) (.slice ak kl ck) (.slice av vl cv0) (.slice ca k cc)))
      clear r g hz hM HN
      go_wp2
      refine bodyPost_ret (v := .agg #[.int .i64 0, .bool (decide (0 < kl)), .int .i64 kl, .int .i64 s.step, .slice ak kl ck, .slice av vl cv0, .slice ca k cc]) (by simp [results, Tryd.results116, go_sem, *]) rfl ⟨_, rfl, ?_⟩
      exact S7.out.sub (List.Sublist.trans (List.Sublist.cons_cons _ (List.nil_sublist _)) (List.sublist_cons_self _ _))
end Go.Proofs.YtajobgmnmbnhiaaDoor.Sap
