/- WHAT IS PROVED HERE: what tree.scanned answers: a Scan's answer, its cuts in a list of their own. Conditions: the two lists of cuts are of one length, at most 64. -/
import Derived.Test.YtajobgmnmbnhiaaDoorXS2B3
import Derived.Test.YtajobgmnmbnhiaaDoorXP2N5
import Derived.Test.YtajobgmnmbnhiaaDoorXJ2S3
import Derived.Test.YtajobgmnmbnhiaaDoorXT8L2
import Derived.Deep.RegionHeld3
import Derived.Deep.AppendLies
import Derived.Laws.OwnMore
namespace Go.Proofs.YtajobgmnmbnhiaaDoor.Sap
open Go.RowKit

theorem infoCut : (Tryd.prog.info? 142).map (fun i => (i.zero, i.size, i.bytes)) = some (some (.agg #[.int .i64 0, .int .i64 0]), 2, 16) := by kernel_rfl
theorem cutc_snoc (cs : List (Int × Int)) (c : Int × Int) : cutc (cs ++ [c]) = cutc cs ++ [.int .i64 c.1, .int .i64 c.2] := by simp [cutc]

set_option maxRecDepth 100000 in
set_option maxHeartbeats 6400000 in
theorem scanned_any (s : St) (kv vv bv pv xv yv : Value) (w : World) (hv : StV w s kv vv bv pv xv yv) (hl : s.bel.length = s.pts.length) (h64 : s.bel.length ≤ 64) :
    Calls Tryd.prog 116 #[.agg #[.int .i64 s.kd, .int .i64 s.key, .int .i64 s.val, .int .i64 s.step, .int .i64 s.pg, kv, vv, bv, pv, .string s.sw, .int .i64 s.ver, xv, yv, .int .i64 s.laid, .int .i64 s.lv, .int .i64 s.low, .int .i64 s.ch, .int .i64 s.pt]] w fun e w' => ∃ cv, e = .returned (.agg #[.int .i64 0, .bool (decide (0 < s.keys.length)), .int .i64 s.keys.length, .int .i64 s.step, kv, vv, cv]) ∧ M w w.heap.size w' [.row 142 2 cv s.bel.length (cutc (s.bel.zip s.pts))] := by
  obtain ⟨j0, hj0, hy0, hy1, hy2⟩ := info_parts infoCut
  obtain ⟨ak, ck, rfl⟩ := hv.keys.len
  obtain ⟨av, cv0, rfl⟩ := hv.vals.len
  obtain ⟨ab, cb, rfl⟩ := hv.bel.len
  obtain ⟨ap, cp, rfl⟩ := hv.pts.len
  obtain ⟨ax, cx, rfl⟩ := hv.sp.len
  obtain ⟨ay, cy, rfl⟩ := hv.sv.len
  have HB := hideIt hv.bel
  have HP := hideIt hv.pts
  obtain ⟨m, hm⟩ : ∃ m, s.bel.length = m := ⟨_, rfl⟩
  obtain ⟨kl, hkl⟩ : ∃ m, s.keys.length = m := ⟨_, rfl⟩
  obtain ⟨vl, hvl⟩ : ∃ m, s.vals.length = m := ⟨_, rfl⟩
  have HM := hideIt hm
  have HL := hideIt hl
  rw [← hl] at HP ⊢
  rw [hm] at HB HP h64 ⊢
  rw [hkl, hvl]
  clear hv hl hm hkl hvl
  have A0 := hideIt (M.rowNil (e := 142) (z := 2) ((((M.start w).alloc #[.int .i64 s.kd, .int .i64 s.key, .int .i64 s.val, .int .i64 s.step, .int .i64 s.pg, .slice ak kl ck, .slice av vl cv0, .slice ab m cb, .slice ap m cp, .string s.sw, .int .i64 s.ver, .slice ax s.sp.length cx, .slice ay s.sv.length cy, .int .i64 s.laid, .int .i64 s.lv, .int .i64 s.low, .int .i64 s.ch, .int .i64 s.pt] 98).alloc #[.int .i64 0, .bool false, .int .i64 0, .int .i64 0, .slice none 0 0, .slice none 0 0, .slice none 0 0] 76).alloc #[.int .i64 0, .bool (decide (0 < kl)), .int .i64 kl, .int .i64 s.step, .slice ak kl ck, .slice av vl cv0, .slice none 0 0] 76))
  rw [alloc_size, alloc_size] at A0
  go_enter Tryd.func116, Tryd.ntmps116
  go_wp2
  go_loopw [4] (fun i wr => ∃ k : Nat, ∃ cv : Value, k ≤ m ∧ i = .int .i64 k ∧ Hid (M w w.heap.size wr [.blk (w.heap.size + 1 + 1) #[.int .i64 0, .bool (decide (0 < kl)), .int .i64 kl, .int .i64 s.step, .slice ak kl ck, .slice av vl cv0, cv] 76, .row 142 2 cv k (cutc ((s.bel.zip s.pts).take k)), .blk (w.heap.size + 1) #[.int .i64 0, .bool false, .int .i64 0, .int .i64 0, .slice none 0 0, .slice none 0 0, .slice none 0 0] 76, .blk w.heap.size #[.int .i64 s.kd, .int .i64 s.key, .int .i64 s.val, .int .i64 s.step, .int .i64 s.pg, .slice ak kl ck, .slice av vl cv0, .slice ab m cb, .slice ap m cp, .string s.sw, .int .i64 s.ver, .slice ax s.sp.length cx, .slice ay s.sv.length cy, .int .i64 s.laid, .int .i64 s.lv, .int .i64 s.low, .int .i64 s.ch, .int .i64 s.pt] 98])) (fun i _ => m - (intOf i).toNat)
  case atStart =>
    exact ⟨0, .slice none 0 0, Nat.zero_le _, rfl, A0.out⟩
  case round =>
    clear A0
    obtain ⟨k, cv, hk, rfl, hM⟩ := hrel
    obtain ⟨ca, cc, rfl⟩ := As.form0 (hM.out.get (i := 1) rfl)
    have c6 := hM.out.cell (i := 0) rfl 6 (.slice ca k cc) rfl
    have f6 := hM.out.free (i := 0) rfl 6
    have s5 := hM.out.cell (i := 3) rfl 7 (.slice ab m cb) rfl
    have s6 := hM.out.cell (i := 3) rfl 8 (.slice ap m cp) rfl
    have hlg := hM.out.lt (i := 0) rfl
    by_cases hlt : k < m
    · obtain ⟨b1, o1, rfl, -, x1⟩ := HB.out.elem k hlt
      obtain ⟨b2, o2, rfl, -, x2⟩ := HP.out.elem k hlt
      obtain ⟨a, ha⟩ : ∃ y, s.bel[k]?.getD 0 = y := ⟨_, rfl⟩
      obtain ⟨b, hb⟩ : ∃ y, s.pts[k]?.getD 0 = y := ⟨_, rfl⟩
      rw [ha] at x1
      rw [hb] at x2
      have HX1 := hideIt x1
      have HX2 := hideIt x2
      have HCT : Hid (cutc ((s.bel.zip s.pts).take (k + 1)) = cutc ((s.bel.zip s.pts).take k) ++ [.int .i64 a, .int .i64 b]) := by
        have hk1 : k < s.bel.length := by rw [HM.out]; exact hlt
        have hk2 : k < s.pts.length := by rw [← HL.out]; exact hk1
        rw [List.getElem?_eq_getElem hk1] at ha
        rw [List.getElem?_eq_getElem hk2] at hb
        simp only [Option.getD_some] at ha hb
        have hz : (s.bel.zip s.pts)[k]? = some (a, b) := by rw [List.getElem?_zip_eq_some]; exact ⟨by rw [List.getElem?_eq_getElem hk1, ha], by rw [List.getElem?_eq_getElem hk2, hb]⟩
        unfold Hid
        rw [List.take_add_one, hz, Option.toList_some, cutc_snoc]
      have y1 := x1 _ hM.out.bl
      have y2 := x2 _ hM.out.bl
      have hb1 := HB.out.blk_lt k hlt
      have hb2 := HP.out.blk_lt k hlt
      have hkk : (0 : Int) ≤ (k : Int) := by omega
      have hkl : (k : Int) < (m : Int) := by omega
      have hn1 : b1 ≠ w.heap.size + 1 + 1 := by omega
      have hn2 : b2 ≠ w.heap.size + 1 + 1 := by omega
      have hn3 : w.heap.size + 1 + 1 ≠ b1 := by omega
      have hn4 : w.heap.size + 1 + 1 ≠ b2 := by omega
      have hw1 : w.heap.size < wr.heap.size := by omega
      have hw2 : b1 < wr.heap.size := by omega
      have hw3 : b2 < wr.heap.size := by omega
      clear x1 x2 ha hb
      go_wp2
      go_region_law (refine step_append_lies _ rfl _ _ 74 rfl w.heap.size 142 j0 (.agg #[.int .i64 0, .int .i64 0]) 2 16 Tryd.underlying74 hj0 hy0 hy1 hy2 rfl (by decide) _ k (cutc ((s.bel.zip s.pts).take k)) rfl (World.ownsRow.alloc (hM.out.get (i := 1) rfl) _) ⟨_, 0, none⟩ 1 1 [.int .i64 a, .int .i64 b] rfl rfl (World.news_of_block (heap_alloc_new _ _)) (by simp [Value.oneCell']) (by omega) (by unfold maxLen; omega) (by omega) (by have := hM.out.sz; simp at this ⊢; omega) _ rfl ?_; intro g1 cap1 w5 hown hgrow hat hlt1; rw [← HCT.out] at hown; have hm := (hM.out.allocd _).drew.lies (i := 1) rfl hown hgrow hat; clear c6 f6 s5 s6 y1 y2 hown hgrow hat; have c6 := hm.cell (i := 0) rfl 6 (.slice ca k cc) rfl; have f6 := hm.free (i := 0) rfl 6; have s5 := hm.cell (i := 3) rfl 7 (.slice (some ⟨b1, o1, none⟩) m cb) rfl; have s6 := hm.cell (i := 3) rfl 8 (.slice (some ⟨b2, o2, none⟩) m cp) rfl; have y1 := HX1.out _ hm.bl; have y2 := HX2.out _ hm.bl; have H1 := hideIt (hm.store (i := 0) (j := 6) rfl (.slice (some ⟨g1, 0, none⟩) (k + 1) cap1) rfl); clear hm)
      all_goals
        go_wp2
        go_roundw
        case rel => exact ⟨k + 1, _, by omega, by go_num, H1.out⟩
        case measure => simp [intOf]; omega
    · obtain rfl : k = m := by omega
      have r := fun j v hv => hM.out.cell (i := 2) rfl j v hv
      have hz : (s.bel.zip s.pts).take k = s.bel.zip s.pts := List.take_of_length_le (by rw [List.length_zip, HM.out]; omega)
      rw [hz] at hM
      have HN := hideIt hM
      have a0 := HN.out.out.cell (i := 0) rfl 0 (.int .i64 0) rfl
      have a1 := HN.out.out.cell (i := 0) rfl 1 (.bool (decide (0 < kl))) rfl
      have a2 := HN.out.out.cell (i := 0) rfl 2 (.int .i64 kl) rfl
      have a3 := HN.out.out.cell (i := 0) rfl 3 (.int .i64 s.step) rfl
      have a4 := HN.out.out.cell (i := 0) rfl 4 (.slice ak kl ck) rfl
      have a5 := HN.out.out.cell (i := 0) rfl 5 (.slice av vl cv0) rfl
      have r0 := r 0 (.int .i64 0) rfl
      have r1 := r 1 (.bool false) rfl
      have r2 := r 2 (.int .i64 0) rfl
      have r3 := r 3 (.int .i64 0) rfl
      have r4 := r 4 (.slice none 0 0) rfl
      have r5 := r 5 (.slice none 0 0) rfl
      have r6 := r 6 (.slice none 0 0) rfl
      have g := fun j => HN.out.out.free (i := 2) rfl j
      have g0 := g 0
      have g1 := g 1
      have g2 := g 2
      have g3 := g 3
      have g4 := g 4
      have g5 := g 5
      have g6 := g 6
      have S7 := hideIt ((HN.out.out.store7 (i := 2) rfl (.int .i64 0) (.bool (decide (0 < kl))) (.int .i64 kl) (.int .i64 s.step) (.slice ak kl ck) (.slice av vl cv0) (.slice ca k cc)))
      clear r g hz hM HN
      go_wp2
      refine bodyPost_ret (v := .agg #[.int .i64 0, .bool (decide (0 < kl)), .int .i64 kl, .int .i64 s.step, .slice ak kl ck, .slice av vl cv0, .slice ca k cc]) (by simp [results, Tryd.results116, go_sem, *]) rfl ⟨_, rfl, ?_⟩
      exact S7.out.sub (List.Sublist.trans (List.Sublist.cons_cons _ (List.nil_sublist _)) (List.sublist_cons_self _ _))
end Go.Proofs.YtajobgmnmbnhiaaDoor.Sap

/- WHAT IS PROVED HERE: saplingkeep's copied: an answer with lists of its own that have the same in them. Conditions: named at each theorem. -/
namespace Go.Proofs.YtajobgmnmbnhiaaDoor.Sap
open Go.RowKit

theorem run_append_nothing {P : Program} {w : World} (base : Nat) (t ty e : TypeId) (i : TypeInfo) (size : Nat) (ht : P.underlying t = some (.slice e)) (hi : P.info? e = some i) (v : Value) (n : Nat) (xs : List Value) (hown : w.ownsRow base e size v n xs) (sa : Option Addr) (sc : Nat) :
    (Builtin.append_ #[t, t] ty #[v, .slice sa 0 sc]).run P w = .ok v w := by
  rcases hown.2 with ⟨rfl, rfl⟩ | ⟨g, cap, cur, rfl, _, _, hnc, _⟩
  · cases sa <;> simp [Builtin.append_, run_underlying ht, sizeOf, typeInfo, hi, Builtin.lenOf, Builtin.firstCells, loadCells, loadCellsFrom]
  · cases sa <;> simp [Builtin.append_, run_underlying ht, sizeOf, typeInfo, hi, Builtin.lenOf, Builtin.firstCells, loadCells, loadCellsFrom, hnc, storeCells]
theorem wpList_append_nothing {P : Program} {w : World} {ops : Array Oper} {rest : List Oper} {o : Oper} {a : Act} {Q : Exit → Act → World → Prop} (hgd : o.guard = none) (s x : Operand) (t : TypeId)
    (ho : o.op = .call { callee := .builtin .append, args := #[s, x], argTypes := #[t, t] })
    (base : Nat) (e : TypeId) (i : TypeInfo) (size : Nat) (ht : P.underlying t = some (.slice e)) (hi : P.info? e = some i)
    (v : Value) (n : Nat) (xs : List Value) (hs : a.eval s = v) (hown : w.ownsRow base e size v n xs) (sa : Option Addr) (m sc : Nat) (hx : a.eval x = .slice sa m sc) (hm : m = 0)
    (h : wpList P ops Q rest (a.put o.dst v) w) : wpList P ops Q (o :: rest) a w := by
  refine wpList_plain hgd fun K hK => ?_
  subst hm
  have hrun := run_append_nothing (P := P) (w := w) base t o.type e i size ht hi v n xs hown sa sc
  unfold Oper.wp
  simp [execOp, ho, resolve, invoke, builtin, hs, hx, hrun, Result.andThen]
  exact hK _ _ h
theorem nil_owns (w : World) (B : Nat) (e : TypeId) (z : Nat) : w.ownsRow B e z (.slice none 0 0) 0 [] := ⟨by simp, Or.inl ⟨rfl, rfl⟩⟩
theorem len_cutc (cs : List (Int × Int)) : (cutc cs).length = cs.length * 2 := by
  induction cs with
  | nil => rfl
  | cons c r ih => unfold cutc at ih ⊢; rw [List.flatMap_cons, List.length_append, ih, List.length_cons]; simp; omega
theorem cutc_one (cs : List (Int × Int)) : ∀ u ∈ cutc cs, u.oneCell' = true := fun u hu => by
  unfold cutc at hu
  obtain ⟨c, -, hc⟩ := List.mem_flatMap.1 hu
  simp only [List.mem_cons, List.not_mem_nil, or_false] at hc
  rcases hc with rfl | rfl <;> rfl
set_option maxRecDepth 100000 in
set_option maxHeartbeats 6400000 in
theorem copied_any (er va pt : Int) (fd : Bool) (kv vv cv : Value) (nk nv nc : Nat) (ks vs : List Int) (cs : List (Int × Int)) (fr : List As) (w0 w : World) (B : Nat) (hnk : ks.length = nk) (hnv : vs.length = nv) (hnc : cs.length = nc) (hk : nk ≤ 1000000) (hv : nv ≤ 1000000) (hc : nc ≤ 1000000) (h : M w0 B w (.row 3 1 kv nk (ints ks) :: .row 3 1 vv nv (ints vs) :: .row 142 2 cv nc (cutc cs) :: fr)) :
    Calls Tryd.prog 85 #[.agg #[.int .i64 er, .bool fd, .int .i64 va, .int .i64 pt, kv, vv, cv]] w fun e w' => ∃ k2 v2 c2, e = .returned (.agg #[.int .i64 er, .bool fd, .int .i64 va, .int .i64 pt, k2, v2, c2]) ∧ M w0 B w' (.row 142 2 c2 nc (cutc cs) :: .row 3 1 v2 nv (ints vs) :: .row 3 1 k2 nk (ints ks) :: .row 3 1 kv nk (ints ks) :: .row 3 1 vv nv (ints vs) :: .row 142 2 cv nc (cutc cs) :: fr) := by
  obtain ⟨i0, hi0, hz0, hz1, hz2⟩ := info_parts infoInt
  obtain ⟨j0, hj0, hy0, hy1, hy2⟩ := info_parts infoCut
  obtain ⟨ak, ck, rfl⟩ := As.form0 (h.get (i := 0) rfl)
  obtain ⟨av, cv0, rfl⟩ := As.form0 (h.get (i := 1) rfl)
  obtain ⟨ac, cc, rfl⟩ := As.form0 (h.get (i := 2) rfl)
  have HNK := hideIt hnk
  have HNV := hideIt hnv
  have HNC := hideIt hnc
  have A0 := ((h.alloc #[.int .i64 er, .bool fd, .int .i64 va, .int .i64 pt, .slice ak nk ck, .slice av nv cv0, .slice ac nc cc] 76).alloc #[.int .i64 0, .bool false, .int .i64 0, .int .i64 0, .slice none 0 0, .slice none 0 0, .slice none 0 0] 76).alloc #[.int .i64 er, .bool fd, .int .i64 va, .int .i64 pt, .slice ak nk ck, .slice av nv cv0, .slice ac nc cc] 76
  rw [alloc_size, alloc_size] at A0
  obtain ⟨w2, hw2⟩ : ∃ W, ((w.alloc (.cells #[.int .i64 er, .bool fd, .int .i64 va, .int .i64 pt, .slice ak nk ck, .slice av nv cv0, .slice ac nc cc] 76)).alloc (.cells #[.int .i64 0, .bool false, .int .i64 0, .int .i64 0, .slice none 0 0, .slice none 0 0, .slice none 0 0] 76)).alloc (.cells #[.int .i64 er, .bool fd, .int .i64 va, .int .i64 pt, .slice ak nk ck, .slice av nv cv0, .slice ac nc cc] 76) = W := ⟨_, rfl⟩
  have HW2 := hideIt hw2
  rw [hw2] at A0
  obtain ⟨ga, hga⟩ : ∃ g, w.heap.size = g := ⟨_, rfl⟩
  have HGA := hideIt hga
  rw [hga] at A0
  obtain ⟨gr, hgr⟩ : ∃ g, ga + 1 = g := ⟨_, rfl⟩
  have HGR := hideIt hgr
  rw [hgr] at A0
  obtain ⟨gb, hgb⟩ : ∃ g, gr + 1 = g := ⟨_, rfl⟩
  have HGB := hideIt hgb
  rw [hgb] at A0
  have HA0 := hideIt (M.nil2 (e := 3) (z := 1) (l1 := []) A0)
  clear h hnk hnv hnc hw2 hga hgr hgb A0
  go_enter Tryd.func85, Tryd.ntmps85
  go_upto_region 2 with fail
  rw [HW2.out, HGA.out, HGR.out, HGB.out]
  clear HW2
  have x4 := HA0.out.cell (i := 3) rfl 4 (.slice ak nk ck) rfl
  have z4 := HA0.out.cell (i := 1) rfl 4 (.slice ak nk ck) rfl
  have f4 := HA0.out.free (i := 1) rfl 4
  go_cut [] (fun wy => ∃ k2, Hid (M w0 B wy (.row 3 1 k2 nk (ints ks) :: .blk gb #[.int .i64 er, .bool fd, .int .i64 va, .int .i64 pt, k2, .slice av nv cv0, .slice ac nc cc] 76 :: .blk gr #[.int .i64 0, .bool false, .int .i64 0, .int .i64 0, .slice none 0 0, .slice none 0 0, .slice none 0 0] 76 :: .blk ga #[.int .i64 er, .bool fd, .int .i64 va, .int .i64 pt, .slice ak nk ck, .slice av nv cv0, .slice ac nc cc] 76 :: .row 3 1 (.slice ak nk ck) nk (ints ks) :: .row 3 1 (.slice av nv cv0) nv (ints vs) :: .row 142 2 (.slice ac nc cc) nc (cutc cs) :: fr)))
  case first =>
    by_cases hz : nk = 0
    · have HZ := hideIt hz
      have HS := hideIt (HA0.out.store (i := 1) (j := 4) rfl (.slice none 0 0) rfl)
      clear hz
      go_wp2_with (at_builtin; refine wpList_append_nothing rfl _ _ 22 rfl B 3 i0 1 Tryd.underlying22 hi0 (.slice none 0 0) 0 [] rfl (HA0.out.get (i := 0) rfl).own _ _ _ rfl HZ.out ?_)
      go_meet
      case rel =>
        refine ⟨.slice none 0 0, ?_⟩
        have h9 := HS.out
        have e : ints ks = [] := by have := HNK.out; have := HZ.out; rw [List.eq_nil_of_length_eq_zero (l := ks) (by omega)]; rfl
        rw [e, HZ.out] at h9 ⊢
        exact h9
    · obtain ⟨sg, scap, hsa⟩ := As.form (HA0.out.get (i := 4) rfl) (by omega)
      cases hsa
      have hkr : As.holds w2 B (.row 3 1 (.slice (some ⟨sg, 0, none⟩) nk ck) nk (ints ks)) := HA0.out.get (i := 4) rfl
      go_wp2_with (at_builtin; refine wpList_append_lies _ rfl _ _ 22 rfl B 3 i0 (.int .i64 0) 1 8 Tryd.underlying22 hi0 hz0 hz1 hz2 rfl (by decide) (.slice none 0 0) 0 [] rfl (HA0.out.get (i := 0) rfl) ⟨_, 0, none⟩ nk _ (ints ks) rfl (by rw [len_ints, Nat.mul_one, HNK.out]) (World.ownsRow.cells hkr rfl) (by simp [ints, Value.oneCell']) (by omega) (by unfold maxLen; omega) (by omega) HA0.out.sz _ rfl ?_; intro g1 cap1 w5 hown hgrow hat hlt1; rw [List.nil_append] at hown; have hm := HA0.out.lies (i := 0) rfl hown hgrow hat; clear z4 f4 x4 hown hgrow hat; have z4 := hm.cell (i := 1) rfl 4 (.slice (some ⟨sg, 0, none⟩) nk ck) rfl; have f4 := hm.free (i := 1) rfl 4; have H1 := hideIt (hm.store (i := 1) (j := 4) rfl (.slice (some ⟨g1, 0, none⟩) (0 + nk) cap1) rfl); clear hm)
      go_meet
      case rel =>
        refine ⟨.slice (some ⟨g1, 0, none⟩) (0 + nk) cap1, ?_⟩
        have h9 := H1.out
        first | exact h9 | (rw [Nat.zero_add] at h9 ⊢; exact h9)
  case rest =>
    obtain ⟨k2, hM1⟩ := hcut
    clear HA0 x4 z4 f4
    have HA1 := hideIt (M.nil2 (e := 3) (z := 1) (l1 := []) hM1.out)
    clear hM1
    go_upto_region 3 with fail
    have x4 := HA1.out.cell (i := 4) rfl 5 (.slice av nv cv0) rfl
    have z4 := HA1.out.cell (i := 2) rfl 5 (.slice av nv cv0) rfl
    have f4 := HA1.out.free (i := 2) rfl 5
    go_cut [] (fun wy => ∃ v2, Hid (M w0 B wy (.row 3 1 v2 nv (ints vs) :: .row 3 1 k2 nk (ints ks) :: .blk gb #[.int .i64 er, .bool fd, .int .i64 va, .int .i64 pt, k2, v2, .slice ac nc cc] 76 :: .blk gr #[.int .i64 0, .bool false, .int .i64 0, .int .i64 0, .slice none 0 0, .slice none 0 0, .slice none 0 0] 76 :: .blk ga #[.int .i64 er, .bool fd, .int .i64 va, .int .i64 pt, .slice ak nk ck, .slice av nv cv0, .slice ac nc cc] 76 :: .row 3 1 (.slice ak nk ck) nk (ints ks) :: .row 3 1 (.slice av nv cv0) nv (ints vs) :: .row 142 2 (.slice ac nc cc) nc (cutc cs) :: fr)))
    case first =>
      by_cases hz : nv = 0
      · have HZ := hideIt hz
        have HS := hideIt (HA1.out.store (i := 2) (j := 5) rfl (.slice none 0 0) rfl)
        clear hz
        go_wp2_with (at_builtin; refine wpList_append_nothing rfl _ _ 22 rfl B 3 i0 1 Tryd.underlying22 hi0 (.slice none 0 0) 0 [] rfl (HA1.out.get (i := 0) rfl).own _ _ _ rfl HZ.out ?_)
        go_meet
        case rel =>
          refine ⟨.slice none 0 0, ?_⟩
          have h9 := HS.out
          have e : ints vs = [] := by have := HNV.out; have := HZ.out; rw [List.eq_nil_of_length_eq_zero (l := vs) (by omega)]; rfl
          rw [e, HZ.out] at h9 ⊢
          exact h9
      · obtain ⟨sg, scap, hsa⟩ := As.form (HA1.out.get (i := 6) rfl) (by omega)
        cases hsa
        have hkr : As.holds wc B (.row 3 1 (.slice (some ⟨sg, 0, none⟩) nv cv0) nv (ints vs)) := HA1.out.get (i := 6) rfl
        go_wp2_with (at_builtin; refine wpList_append_lies _ rfl _ _ 22 rfl B 3 i0 (.int .i64 0) 1 8 Tryd.underlying22 hi0 hz0 hz1 hz2 rfl (by decide) (.slice none 0 0) 0 [] rfl (HA1.out.get (i := 0) rfl) ⟨_, 0, none⟩ nv _ (ints vs) rfl (by rw [len_ints, Nat.mul_one, HNV.out]) (World.ownsRow.cells hkr rfl) (by simp [ints, Value.oneCell']) (by omega) (by unfold maxLen; omega) (by omega) HA1.out.sz _ rfl ?_; intro g1 cap1 w5 hown hgrow hat hlt1; rw [List.nil_append] at hown; have hm := HA1.out.lies (i := 0) rfl hown hgrow hat; clear z4 f4 x4 hown hgrow hat; have z4 := hm.cell (i := 2) rfl 5 (.slice (some ⟨sg, 0, none⟩) nv cv0) rfl; have f4 := hm.free (i := 2) rfl 5; have H1 := hideIt (hm.store (i := 2) (j := 5) rfl (.slice (some ⟨g1, 0, none⟩) (0 + nv) cap1) rfl); clear hm)
        go_meet
        case rel =>
          refine ⟨.slice (some ⟨g1, 0, none⟩) (0 + nv) cap1, ?_⟩
          have h9 := H1.out
          first | exact h9 | (rw [Nat.zero_add] at h9 ⊢; exact h9)
    case rest =>
      obtain ⟨v2, hM2⟩ := hcut
      clear HA1 x4 z4 f4
      have HA2 := hideIt (M.nil2 (e := 142) (z := 2) (l1 := []) hM2.out)
      clear hM2
      go_upto_region 4 with fail
      have x4 := HA2.out.cell (i := 5) rfl 6 (.slice ac nc cc) rfl
      have z4 := HA2.out.cell (i := 3) rfl 6 (.slice ac nc cc) rfl
      have f4 := HA2.out.free (i := 3) rfl 6
      go_cut [] (fun wy => ∃ c2, Hid (M w0 B wy (.row 142 2 c2 nc (cutc cs) :: .row 3 1 v2 nv (ints vs) :: .row 3 1 k2 nk (ints ks) :: .blk gb #[.int .i64 er, .bool fd, .int .i64 va, .int .i64 pt, k2, v2, c2] 76 :: .blk gr #[.int .i64 0, .bool false, .int .i64 0, .int .i64 0, .slice none 0 0, .slice none 0 0, .slice none 0 0] 76 :: .blk ga #[.int .i64 er, .bool fd, .int .i64 va, .int .i64 pt, .slice ak nk ck, .slice av nv cv0, .slice ac nc cc] 76 :: .row 3 1 (.slice ak nk ck) nk (ints ks) :: .row 3 1 (.slice av nv cv0) nv (ints vs) :: .row 142 2 (.slice ac nc cc) nc (cutc cs) :: fr)))
      case first =>
        by_cases hz : nc = 0
        · have HZ := hideIt hz
          have HS := hideIt (HA2.out.store (i := 3) (j := 6) rfl (.slice none 0 0) rfl)
          clear hz
          go_wp2_with (at_builtin; refine wpList_append_nothing rfl _ _ 74 rfl B 142 j0 2 Tryd.underlying74 hj0 (.slice none 0 0) 0 [] rfl (HA2.out.get (i := 0) rfl).own _ _ _ rfl HZ.out ?_)
          go_meet
          case rel =>
            refine ⟨.slice none 0 0, ?_⟩
            have h9 := HS.out
            have e : cutc cs = [] := by have := HNC.out; have := HZ.out; rw [List.eq_nil_of_length_eq_zero (l := cs) (by omega)]; rfl
            rw [e, HZ.out] at h9 ⊢
            exact h9
        · obtain ⟨sg, scap, hsa⟩ := As.form (HA2.out.get (i := 8) rfl) (by omega)
          cases hsa
          have hkr : As.holds wc B (.row 142 2 (.slice (some ⟨sg, 0, none⟩) nc cc) nc (cutc cs)) := HA2.out.get (i := 8) rfl
          go_wp2_with (at_builtin; refine wpList_append_lies _ rfl _ _ 74 rfl B 142 j0 (.agg #[.int .i64 0, .int .i64 0]) 2 16 Tryd.underlying74 hj0 hy0 hy1 hy2 rfl (by decide) (.slice none 0 0) 0 [] rfl (HA2.out.get (i := 0) rfl) ⟨_, 0, none⟩ nc _ (cutc cs) rfl (by rw [len_cutc, HNC.out]) (World.ownsRow.cells hkr rfl) (cutc_one cs) (by omega) (by unfold maxLen; omega) (by omega) HA2.out.sz _ rfl ?_; intro g1 cap1 w5 hown hgrow hat hlt1; rw [List.nil_append] at hown; have hm := HA2.out.lies (i := 0) rfl hown hgrow hat; clear z4 f4 x4 hown hgrow hat; have z4 := hm.cell (i := 3) rfl 6 (.slice (some ⟨sg, 0, none⟩) nc cc) rfl; have f4 := hm.free (i := 3) rfl 6; have H1 := hideIt (hm.store (i := 3) (j := 6) rfl (.slice (some ⟨g1, 0, none⟩) (0 + nc) cap1) rfl); clear hm)
          go_meet
          case rel =>
            refine ⟨.slice (some ⟨g1, 0, none⟩) (0 + nc) cap1, ?_⟩
            have h9 := H1.out
            first | exact h9 | (rw [Nat.zero_add] at h9 ⊢; exact h9)
      case rest =>
        obtain ⟨c2, hM3⟩ := hcut
        clear HA2 x4 z4 f4
        obtain ⟨c2a, c2c, rfl⟩ := As.form0 (hM3.out.get (i := 0) rfl)
        obtain ⟨v2a, v2c, rfl⟩ := As.form0 (hM3.out.get (i := 1) rfl)
        obtain ⟨k2a, k2c, rfl⟩ := As.form0 (hM3.out.get (i := 2) rfl)
        have r0 := hM3.out.cell (i := 3) rfl 0 (.int .i64 er) rfl
        have r1 := hM3.out.cell (i := 3) rfl 1 (.bool fd) rfl
        have r2 := hM3.out.cell (i := 3) rfl 2 (.int .i64 va) rfl
        have r3 := hM3.out.cell (i := 3) rfl 3 (.int .i64 pt) rfl
        have r4 := hM3.out.cell (i := 3) rfl 4 (.slice k2a nk k2c) rfl
        have r5 := hM3.out.cell (i := 3) rfl 5 (.slice v2a nv v2c) rfl
        have r6 := hM3.out.cell (i := 3) rfl 6 (.slice c2a nc c2c) rfl
        have s0 := hM3.out.cell (i := 4) rfl 0 (.int .i64 0) rfl
        have s1 := hM3.out.cell (i := 4) rfl 1 (.bool false) rfl
        have s2 := hM3.out.cell (i := 4) rfl 2 (.int .i64 0) rfl
        have s3 := hM3.out.cell (i := 4) rfl 3 (.int .i64 0) rfl
        have s4 := hM3.out.cell (i := 4) rfl 4 (.slice none 0 0) rfl
        have s5 := hM3.out.cell (i := 4) rfl 5 (.slice none 0 0) rfl
        have s6 := hM3.out.cell (i := 4) rfl 6 (.slice none 0 0) rfl
        have f0 := hM3.out.free (i := 4) rfl 0
        have f1 := hM3.out.free (i := 4) rfl 1
        have f2 := hM3.out.free (i := 4) rfl 2
        have f3 := hM3.out.free (i := 4) rfl 3
        have f4 := hM3.out.free (i := 4) rfl 4
        have f5 := hM3.out.free (i := 4) rfl 5
        have f6 := hM3.out.free (i := 4) rfl 6
        have S7 := hideIt ((hM3.out.store7 (i := 4) rfl (.int .i64 er) (.bool fd) (.int .i64 va) (.int .i64 pt) (.slice k2a nk k2c) (.slice v2a nv v2c) (.slice c2a nc c2c)).sub (l' := (.row 142 2 (.slice c2a nc c2c) nc (cutc cs) :: .row 3 1 (.slice v2a nv v2c) nv (ints vs) :: .row 3 1 (.slice k2a nk k2c) nk (ints ks) :: .row 3 1 (.slice ak nk ck) nk (ints ks) :: .row 3 1 (.slice av nv cv0) nv (ints vs) :: .row 142 2 (.slice ac nc cc) nc (cutc cs) :: fr)) (List.Sublist.cons_cons _ (List.Sublist.cons_cons _ (List.Sublist.cons_cons _ (List.sublist_append_right [_, _, _] _)))))
        clear hM3
        go_wp2
        refine bodyPost_ret (v := .agg #[.int .i64 er, .bool fd, .int .i64 va, .int .i64 pt, .slice k2a nk k2c, .slice v2a nv v2c, .slice c2a nc c2c]) (by simp [results, Tryd.results85, go_sem, *]) rfl ⟨_, _, _, rfl, S7.out⟩
end Go.Proofs.YtajobgmnmbnhiaaDoor.Sap

/- WHAT IS PROVED HERE: saplingkeep's again: a call that is made once more answers what it did, where Next and Tell answer the same to the same (Stdy). Conditions: named at each theorem. -/
namespace Go.Proofs.YtajobgmnmbnhiaaDoor.Sap
open Go.RowKit

theorem crd_of_row {w : World} {B n : Nat} {cv : Value} {cs : List (Int × Int)} (hn : cs.length = n) (h : As.holds w B (.row 142 2 cv n (cutc cs))) : CRd w cv cs := by
  subst hn
  rcases Nat.eq_zero_or_pos cs.length with hz | hz
  · obtain ⟨ao, cap, rfl⟩ := As.form0 h
    exact ⟨ao, cap, rfl, fun hp => by omega⟩
  · obtain ⟨g, cap, rfl⟩ := As.form h hz
    refine ⟨some ⟨g, 0, none⟩, cap, rfl, fun _ => ⟨g, rfl, fun j c hj => ?_⟩⟩
    have hjl := (List.getElem?_eq_some_iff.1 hj).1
    obtain ⟨h1, h2⟩ := cutc_at hj
    exact ⟨by rw [World.ownsRow.cellAt h.own _ (by omega)]; exact h1, by rw [World.ownsRow.cellAt h.own _ (by omega)]; exact h2⟩

/-- What Next and Tell answer to a frame and a reply, whenever they are asked. -/
structure Stdy (f : ByteArray) (ak ap av : Int) (at' : ByteArray) (rv rp : Int) (rt : ByteArray) (rd : Bool) (nx : ByteArray) (en : Bool) (er : Int) (fd : Bool) (va pt : Int) (ks vs : List Int) (cs : List (Int × Int)) : Prop where
  next : ∀ W, Tab W → Calls Tryd.prog 26 #[.string f] W fun e w' => e = .returned (.tuple #[.agg #[.int .i64 ak, .int .i64 ap, .int .i64 av, .string at'], .int .i64 0]) ∧ Below W.heap.size W w'
  tell : ∀ W, Tab W → Calls Tryd.prog 61 #[.string f, .agg #[.int .i64 rv, .int .i64 rp, .string rt, .bool rd]] W fun e w' => ∃ kv vv cv, e = .returned (.tuple #[.string nx, .agg #[.int .i64 er, .bool fd, .int .i64 va, .int .i64 pt, kv, vv, cv], .bool en, .int .i64 0]) ∧ M W W.heap.size w' [.row 3 1 kv ks.length (ints ks), .row 3 1 vv vs.length (ints vs), .row 142 2 cv cs.length (cutc cs)]

set_option maxRecDepth 100000 in
set_option maxHeartbeats 6400000 in
theorem again_yes (f at' rt nx : ByteArray) (ak ap av rv rp er va pt : Int) (rd en fd : Bool) (kv vv cv : Value) (ks vs : List Int) (cs : List (Int × Int)) (w : World) (htab : Tab w) (S : Stdy f ak ap av at' rv rp rt rd nx en er fd va pt ks vs cs) (rk : Rd w kv ks) (rv' : Rd w vv vs) (rc : CRd w cv cs) (hk : ks.length ≤ 1000000) (hv : vs.length ≤ 1000000) (hc : cs.length ≤ 1000000) :
    Calls Tryd.prog 35 #[.agg #[.string f, .int .i64 ak, .int .i64 ap, .int .i64 av, .string at', .int .i64 rv, .int .i64 rp, .string rt, .bool rd, .string nx, .bool en, .int .i64 er, .bool fd, .int .i64 va, .int .i64 pt, kv, vv, cv]] w fun e w' => e = .returned (.bool true) ∧ Below w.heap.size w w' := by
  have HTB : Hid (∀ W, Below w.heap.size w W → Tab W) := fun W hb => htab.below hb
  have HS := hideIt S
  have HRK := hideIt rk
  have HRV := hideIt rv'
  have HRC := hideIt rc
  obtain ⟨ak0, ck, rfl⟩ := rk.len
  obtain ⟨av0, cv0, rfl⟩ := rv'.len
  obtain ⟨ac, cc, rfl, -⟩ := rc
  have A0 := hideIt ((M.start w).alloc #[.string f, .int .i64 ak, .int .i64 ap, .int .i64 av, .string at', .int .i64 rv, .int .i64 rp, .string rt, .bool rd, .string nx, .bool en, .int .i64 er, .bool fd, .int .i64 va, .int .i64 pt, .slice ak0 ks.length ck, .slice av0 vs.length cv0, .slice ac cs.length cc] 78)
  obtain ⟨gc, hgc⟩ : ∃ g, w.heap.size = g := ⟨_, rfl⟩
  have HGC := hideIt hgc
  have hb1 : (ak != ak) = false := by simp
  have hb2 : (ap != ap) = false := by simp
  have hb3 : (av != av) = false := by simp
  clear rk rv' htab S hgc
  go_enter Tryd.func35, Tryd.ntmps35
  go_upto_region 1 with fail
  obtain ⟨W1, hW1⟩ : ∃ W, w.alloc (.cells #[.string f, .int .i64 ak, .int .i64 ap, .int .i64 av, .string at', .int .i64 rv, .int .i64 rp, .string rt, .bool rd, .string nx, .bool en, .int .i64 er, .bool fd, .int .i64 va, .int .i64 pt, .slice ak0 ks.length ck, .slice av0 vs.length cv0, .slice ac cs.length cc] 78) = W := ⟨_, rfl⟩
  rw [hW1] at A0 ⊢
  rw [HGC.out] at A0 ⊢
  clear hW1
  have c0 := A0.out.cell (i := 0) rfl 0 (.string f) rfl
  have CN1 := hideIt (HS.out.next W1 (HTB.out _ (by have := A0.out.bl; rw [← HGC.out] at this; exact this)))
  go_wp2_with fail
  refine CN1.out.mono ?_
  rintro e w2 ⟨rfl, hb⟩
  have A1 := hideIt ((A0.out.below hb).alloc #[.int .i64 ak, .int .i64 ap, .int .i64 av, .string at'] 45)
  obtain ⟨W2, hW2⟩ : ∃ W, w2.alloc (.cells #[.int .i64 ak, .int .i64 ap, .int .i64 av, .string at'] 45) = W := ⟨_, rfl⟩
  obtain ⟨g1, hg1⟩ : ∃ g, w2.heap.size = g := ⟨_, rfl⟩
  rw [hW2, hg1] at A1
  have HW2 := hideIt hW2
  have HG1 := hideIt hg1
  clear CN1 hb A0 c0 hW2 hg1
  go_upto_region 2 with fail
  rw [HW2.out, HG1.out]
  clear HW2 HG1
  have c0 := A1.out.cell (i := 1) rfl 0 (.string f) rfl
  have CN2 := hideIt (HS.out.next W2 (HTB.out _ (by have := A1.out.bl; rw [← HGC.out] at this; exact this)))
  go_wp2_with fail
  refine CN2.out.mono ?_
  rintro e w3 ⟨rfl, hb⟩
  have A2 := hideIt ((A1.out.below hb).alloc #[.int .i64 ak, .int .i64 ap, .int .i64 av, .string at'] 45)
  obtain ⟨W3, hW3⟩ : ∃ W, w3.alloc (.cells #[.int .i64 ak, .int .i64 ap, .int .i64 av, .string at'] 45) = W := ⟨_, rfl⟩
  obtain ⟨g2, hg2⟩ : ∃ g, w3.heap.size = g := ⟨_, rfl⟩
  rw [hW3, hg2] at A2
  have HW3 := hideIt hW3
  have HG2 := hideIt hg2
  clear CN2 hb A1 c0 hW3 hg2
  go_upto_region 3 with fail
  rw [HW3.out, HG2.out]
  clear HW3 HG2
  have c0 := A2.out.cell (i := 2) rfl 0 (.string f) rfl
  have c5 := A2.out.cell (i := 2) rfl 5 (.int .i64 rv) rfl
  have c6 := A2.out.cell (i := 2) rfl 6 (.int .i64 rp) rfl
  have c7 := A2.out.cell (i := 2) rfl 7 (.string rt) rfl
  have c8 := A2.out.cell (i := 2) rfl 8 (.bool rd) rfl
  have CT := hideIt (HS.out.tell W3 (HTB.out _ (by have := A2.out.bl; rw [← HGC.out] at this; exact this)))
  go_wp2_with fail
  refine CT.out.mono ?_
  rintro e w4 ⟨k3, v3, c3, rfl, hM⟩
  obtain ⟨k3a, k3c, rfl⟩ := As.form0 (hM.get (i := 0) rfl)
  obtain ⟨v3a, v3c, rfl⟩ := As.form0 (hM.get (i := 1) rfl)
  obtain ⟨c3a, c3c, rfl⟩ := As.form0 (hM.get (i := 2) rfl)
  have A3 := hideIt ((A2.out.join hM).alloc #[.int .i64 er, .bool fd, .int .i64 va, .int .i64 pt, .slice k3a ks.length k3c, .slice v3a vs.length v3c, .slice c3a cs.length c3c] 76)
  obtain ⟨W4, hWN⟩ : ∃ W, w4.alloc (.cells #[.int .i64 er, .bool fd, .int .i64 va, .int .i64 pt, .slice k3a ks.length k3c, .slice v3a vs.length v3c, .slice c3a cs.length c3c] 76) = W := ⟨_, rfl⟩
  obtain ⟨g3, hgN⟩ : ∃ g, w4.heap.size = g := ⟨_, rfl⟩
  rw [hWN, hgN] at A3
  have HWN := hideIt hWN
  have HGN := hideIt hgN
  clear CT hM A2 c0 c5 c6 c7 c8 hWN hgN
  go_upto_region 4 with fail
  rw [HWN.out, HGN.out]
  clear HWN HGN
  have c0 := A3.out.cell (i := 6) rfl 0 (.string f) rfl
  have c5 := A3.out.cell (i := 6) rfl 5 (.int .i64 rv) rfl
  have c6 := A3.out.cell (i := 6) rfl 6 (.int .i64 rp) rfl
  have c7 := A3.out.cell (i := 6) rfl 7 (.string rt) rfl
  have c8 := A3.out.cell (i := 6) rfl 8 (.bool rd) rfl
  have CT := hideIt (HS.out.tell W4 (HTB.out _ (by have := A3.out.bl; rw [← HGC.out] at this; exact this)))
  go_wp2_with fail
  refine CT.out.mono ?_
  rintro e w5 ⟨k4, v4, c4, rfl, hM⟩
  obtain ⟨k4a, k4c, rfl⟩ := As.form0 (hM.get (i := 0) rfl)
  obtain ⟨v4a, v4c, rfl⟩ := As.form0 (hM.get (i := 1) rfl)
  obtain ⟨c4a, c4c, rfl⟩ := As.form0 (hM.get (i := 2) rfl)
  have A4 := hideIt ((A3.out.join hM).alloc #[.int .i64 er, .bool fd, .int .i64 va, .int .i64 pt, .slice k4a ks.length k4c, .slice v4a vs.length v4c, .slice c4a cs.length c4c] 76)
  obtain ⟨W5, hWN⟩ : ∃ W, w5.alloc (.cells #[.int .i64 er, .bool fd, .int .i64 va, .int .i64 pt, .slice k4a ks.length k4c, .slice v4a vs.length v4c, .slice c4a cs.length c4c] 76) = W := ⟨_, rfl⟩
  obtain ⟨g4, hgN⟩ : ∃ g, w5.heap.size = g := ⟨_, rfl⟩
  rw [hWN, hgN] at A4
  have HWN := hideIt hWN
  have HGN := hideIt hgN
  clear CT hM A3 c0 c5 c6 c7 c8 hWN hgN
  go_upto_region 5 with fail
  rw [HWN.out, HGN.out]
  clear HWN HGN
  have p0 := A4.out.cell (i := 4) rfl 0 (.int .i64 er) rfl
  have p1 := A4.out.cell (i := 4) rfl 1 (.bool fd) rfl
  have p2 := A4.out.cell (i := 4) rfl 2 (.int .i64 va) rfl
  have p3 := A4.out.cell (i := 4) rfl 3 (.int .i64 pt) rfl
  have p4 := A4.out.cell (i := 4) rfl 4 (.slice k3a ks.length k3c) rfl
  have p5 := A4.out.cell (i := 4) rfl 5 (.slice v3a vs.length v3c) rfl
  have p6 := A4.out.cell (i := 4) rfl 6 (.slice c3a cs.length c3c) rfl
  have q0 := A4.out.cell (i := 0) rfl 0 (.int .i64 er) rfl
  have q1 := A4.out.cell (i := 0) rfl 1 (.bool fd) rfl
  have q2 := A4.out.cell (i := 0) rfl 2 (.int .i64 va) rfl
  have q3 := A4.out.cell (i := 0) rfl 3 (.int .i64 pt) rfl
  have q4 := A4.out.cell (i := 0) rfl 4 (.slice k4a ks.length k4c) rfl
  have q5 := A4.out.cell (i := 0) rfl 5 (.slice v4a vs.length v4c) rfl
  have q6 := A4.out.cell (i := 0) rfl 6 (.slice c4a cs.length c4c) rfl
  have c11 := A4.out.cell (i := 10) rfl 11 (.int .i64 er) rfl
  have c12 := A4.out.cell (i := 10) rfl 12 (.bool fd) rfl
  have c13 := A4.out.cell (i := 10) rfl 13 (.int .i64 va) rfl
  have c14 := A4.out.cell (i := 10) rfl 14 (.int .i64 pt) rfl
  have c15 := A4.out.cell (i := 10) rfl 15 (.slice ak0 ks.length ck) rfl
  have c16 := A4.out.cell (i := 10) rfl 16 (.slice av0 vs.length cv0) rfl
  have c17 := A4.out.cell (i := 10) rfl 17 (.slice ac cs.length cc) rfl
  have hbl : Hid (Below w.heap.size w W5) := by have := A4.out.bl; rw [← HGC.out] at this; exact this
  have CL1 := hideIt (alike_yes er va pt fd _ _ _ _ _ _ ks vs cs W5 (owns_rd (A4.out.get (i := 5) rfl).own) (HRK.out.below hbl.out) (owns_rd (A4.out.get (i := 6) rfl).own) (HRV.out.below hbl.out) (crd_of_row rfl (A4.out.get (i := 7) rfl)) (HRC.out.below hbl.out) hk hv hc)
  go_wp2_with fail
  refine CL1.out.mono ?_
  rintro e w6 ⟨rfl, hb6⟩
  have A5 := hideIt (A4.out.below hb6)
  clear CL1 A4 hb6 hbl p0 p1 p2 p3 p4 p5 p6 q0 q1 q2 q3 q4 q5 q6 c11 c12 c13 c14 c15 c16 c17
  have q0 := A5.out.cell (i := 0) rfl 0 (.int .i64 er) rfl
  have q1 := A5.out.cell (i := 0) rfl 1 (.bool fd) rfl
  have q2 := A5.out.cell (i := 0) rfl 2 (.int .i64 va) rfl
  have q3 := A5.out.cell (i := 0) rfl 3 (.int .i64 pt) rfl
  have q4 := A5.out.cell (i := 0) rfl 4 (.slice k4a ks.length k4c) rfl
  have q5 := A5.out.cell (i := 0) rfl 5 (.slice v4a vs.length v4c) rfl
  have q6 := A5.out.cell (i := 0) rfl 6 (.slice c4a cs.length c4c) rfl
  have c11 := A5.out.cell (i := 10) rfl 11 (.int .i64 er) rfl
  have c12 := A5.out.cell (i := 10) rfl 12 (.bool fd) rfl
  have c13 := A5.out.cell (i := 10) rfl 13 (.int .i64 va) rfl
  have c14 := A5.out.cell (i := 10) rfl 14 (.int .i64 pt) rfl
  have c15 := A5.out.cell (i := 10) rfl 15 (.slice ak0 ks.length ck) rfl
  have c16 := A5.out.cell (i := 10) rfl 16 (.slice av0 vs.length cv0) rfl
  have c17 := A5.out.cell (i := 10) rfl 17 (.slice ac cs.length cc) rfl
  have hbl : Hid (Below w.heap.size w w6) := by have := A5.out.bl; rw [← HGC.out] at this; exact this
  have CL2 := hideIt (alike_yes er va pt fd _ _ _ _ _ _ ks vs cs w6 (owns_rd (A5.out.get (i := 1) rfl).own) (HRK.out.below hbl.out) (owns_rd (A5.out.get (i := 2) rfl).own) (HRV.out.below hbl.out) (crd_of_row rfl (A5.out.get (i := 3) rfl)) (HRC.out.below hbl.out) hk hv hc)
  go_wp2_with fail
  refine CL2.out.mono ?_
  rintro e w7 ⟨rfl, hb7⟩
  have A6 := hideIt (A5.out.below hb7)
  clear CL2 A5 hb7 hbl q0 q1 q2 q3 q4 q5 q6 c11 c12 c13 c14 c15 c16 c17
  have x0 := A6.out.cell (i := 9) rfl 0 (.int .i64 ak) rfl
  have x1 := A6.out.cell (i := 9) rfl 1 (.int .i64 ap) rfl
  have x2 := A6.out.cell (i := 9) rfl 2 (.int .i64 av) rfl
  have x3 := A6.out.cell (i := 9) rfl 3 (.string at') rfl
  have y0 := A6.out.cell (i := 8) rfl 0 (.int .i64 ak) rfl
  have y1 := A6.out.cell (i := 8) rfl 1 (.int .i64 ap) rfl
  have y2 := A6.out.cell (i := 8) rfl 2 (.int .i64 av) rfl
  have y3 := A6.out.cell (i := 8) rfl 3 (.string at') rfl
  have c1 := A6.out.cell (i := 10) rfl 1 (.int .i64 ak) rfl
  have c2 := A6.out.cell (i := 10) rfl 2 (.int .i64 ap) rfl
  have c3 := A6.out.cell (i := 10) rfl 3 (.int .i64 av) rfl
  have c4 := A6.out.cell (i := 10) rfl 4 (.string at') rfl
  have c9 := A6.out.cell (i := 10) rfl 9 (.string nx) rfl
  have c10 := A6.out.cell (i := 10) rfl 10 (.bool en) rfl
  have HB := hideIt (show Below w.heap.size w w7 by have := A6.out.bl; rw [← HGC.out] at this; exact this)
  clear A6
  go_wp2
  go_ret
  exact ⟨rfl, HB.out⟩
end Go.Proofs.YtajobgmnmbnhiaaDoor.Sap
