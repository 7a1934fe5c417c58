/- WHAT IS PROVED HERE: what tree.tellRead, and so tree.Tell, answers to a Put or a Drop that has read the node of its key: what tree.changeNode answers. Conditions: named at each theorem. -/
import Derived.Test.YtajobgmnmbnhiaaDoorXV8V10
namespace Go.Proofs.YtajobgmnmbnhiaaDoor.Sap
open Go.RowKit

set_option maxRecDepth 100000 in
set_option maxHeartbeats 6400000 in
theorem tellRead_pass (s : St) (n : Nd) (kv vv bv pv xv yv : Value) (t : ByteArray) (ver : Int) (fr : List As) (w0 w : World) (B : Nat) (htab : Tab w0) (hB : B = w0.heap.size) (hs : StOk s) (hu : Unp t.data.toList n) (hgo : ¬ rdGo s n) (hk : s.kd = 2 ∨ s.kd = 3) (o : Res) (hC : ∀ kv vv bv pv xv yv ka va fr1 W, .row 3 1 ka n.ks.length (ints n.ks) ∈ fr1 → .row 3 1 va n.vs.length (ints n.vs) ∈ fr1 → M w0 B W (.row 3 1 kv s.keys.length (ints s.keys) :: .row 3 1 vv s.vals.length (ints s.vals) :: .row 3 1 bv s.bel.length (ints s.bel) :: .row 3 1 pv s.pts.length (ints s.pts) :: .row 3 1 xv s.sp.length (ints s.sp) :: .row 3 1 yv s.sv.length (ints s.sv) :: fr1) → Calls Tryd.prog 107 #[.agg #[.int .i64 s.kd, .int .i64 s.key, .int .i64 s.val, .int .i64 s.step, .int .i64 s.pg, kv, vv, bv, pv, .string s.sw, .int .i64 s.ver, xv, yv, .int .i64 s.laid, .int .i64 s.lv, .int .i64 s.low, .int .i64 s.ch, .int .i64 s.pt], .agg #[.int .i64 n.lv, .int .i64 n.lk, .int .i64 n.hi, ka, va], .agg #[.int .i64 ver, .int .i64 0, .string t, .bool false]] W fun e w' => ResM o w0 B w' fr1 e)
    (h : M w0 B w (.row 3 1 kv s.keys.length (ints s.keys) :: .row 3 1 vv s.vals.length (ints s.vals) :: .row 3 1 bv s.bel.length (ints s.bel) :: .row 3 1 pv s.pts.length (ints s.pts) :: .row 3 1 xv s.sp.length (ints s.sp) :: .row 3 1 yv s.sv.length (ints s.sv) :: fr)) :
    Calls Tryd.prog 90 #[.agg #[.int .i64 s.kd, .int .i64 s.key, .int .i64 s.val, .int .i64 s.step, .int .i64 s.pg, kv, vv, bv, pv, .string s.sw, .int .i64 s.ver, xv, yv, .int .i64 s.laid, .int .i64 s.lv, .int .i64 s.low, .int .i64 s.ch, .int .i64 s.pt], .agg #[.int .i64 ver, .int .i64 0, .string t, .bool false]] w fun e w' => ResM o w0 B w' fr e := by
  obtain ⟨ak, ck, rfl⟩ := As.form0 (h.get (i := 0) rfl)
  obtain ⟨av, cv, rfl⟩ := As.form0 (h.get (i := 1) rfl)
  obtain ⟨ab, cb, rfl⟩ := As.form0 (h.get (i := 2) rfl)
  obtain ⟨ap, cp, rfl⟩ := As.form0 (h.get (i := 3) rfl)
  obtain ⟨ax, cx, rfl⟩ := As.form0 (h.get (i := 4) rfl)
  obtain ⟨ay, cy, rfl⟩ := As.form0 (h.get (i := 5) rfl)
  have htl : t.size ≤ 47 := by
    have := (len_packT n hu.1).2
    rw [hu.2, ba_size] at this; exact this
  have hr := right_bd n hu.1
  have HR := hideIt hr
  have HS := hideIt hs
  have HU := hideIt hu
  have hlv0 := hr.1
  have A0 := ((h.alloc #[.int .i64 s.kd, .int .i64 s.key, .int .i64 s.val, .int .i64 s.step, .int .i64 s.pg, .slice ak s.keys.length ck, .slice av s.vals.length cv, .slice ab s.bel.length cb, .slice ap s.pts.length cp, .string s.sw, .int .i64 s.ver, .slice ax s.sp.length cx, .slice ay s.sv.length cy, .int .i64 s.laid, .int .i64 s.lv, .int .i64 s.low, .int .i64 s.ch, .int .i64 s.pt] 98).alloc #[.int .i64 ver, .int .i64 0, .string t, .bool false] 73).alloc #[.int .i64 0, .bool false, .int .i64 0, .int .i64 0, .slice none 0 0, .slice none 0 0, .slice none 0 0] 76
  rw [alloc_size, alloc_size] at A0
  have CU := hideIt (fun W => unpack_any t W (by omega))
  have HT : Hid (∀ W l, M w0 B W l → Tab W) := fun W l hm => htab.below (hB ▸ hm.bl)
  have rt := A0.cell (i := 1) rfl 2 (.string t) rfl
  have A1 := hideIt A0
  have HGO := hideIt hgo
  have HC := hideIt hC
  have HKK : Hid ((s.kd == 4) = false ∧ ((s.kd == 2) = true ∨ ((s.kd == 2) = false ∧ (s.kd == 3) = true))) := by
    rcases hk with h | h
    · exact ⟨by rw [h]; rfl, Or.inl (by rw [h]; rfl)⟩
    · exact ⟨by rw [h]; rfl, Or.inr ⟨by rw [h]; rfl, by rw [h]; rfl⟩⟩
  clear hs hu htab hB hr htl h A0 hgo hC hk
  go_enter Tryd.func90, Tryd.ntmps90
  go_wp2_with fail
  refine (CU.out _).mono ?_
  rintro e w2 ⟨hR, hb⟩
  refine Or.elim hR (fun h1 => ?_) (fun h1 => absurd HU.out (h1.1 n))
  clear hR
  obtain ⟨n', kv2, vv2, hu', hO2, rfl⟩ := h1
  obtain rfl : n = n' := HU.out.uniq hu'
  have A3 := A1.out.join (Own.m2 hO2 hb)
  clear hO2 hb CU A1 rt hu'
  obtain ⟨na, nc, rfl⟩ := As.form0 (A3.get (i := 0) rfl)
  obtain ⟨nva, nvc, rfl⟩ := As.form0 (A3.get (i := 1) rfl)
  have A4 := hideIt (A3.alloc #[.int .i64 n.lv, .int .i64 n.lk, .int .i64 n.hi, .slice na n.ks.length nc, .slice nva n.vs.length nvc] 24)
  clear A3
  have HSV : Hid (∀ W (l : List As), M w0 B W l → As.row 3 1 (.slice ak s.keys.length ck) s.keys.length (ints s.keys) ∈ l → As.row 3 1 (.slice av s.vals.length cv) s.vals.length (ints s.vals) ∈ l → As.row 3 1 (.slice ab s.bel.length cb) s.bel.length (ints s.bel) ∈ l → As.row 3 1 (.slice ap s.pts.length cp) s.pts.length (ints s.pts) ∈ l → As.row 3 1 (.slice ax s.sp.length cx) s.sp.length (ints s.sp) ∈ l → As.row 3 1 (.slice ay s.sv.length cy) s.sv.length (ints s.sv) ∈ l → StV W s (.slice ak s.keys.length ck) (.slice av s.vals.length cv) (.slice ab s.bel.length cb) (.slice ap s.pts.length cp) (.slice ax s.sp.length cx) (.slice ay s.sv.length cy)) := by
    intro W l hW h1 h2 h3 h4 h5 h6
    exact ⟨owns_rd (hW.holds _ h1), owns_rd (hW.holds _ h2), owns_rd (hW.holds _ h3), owns_rd (hW.holds _ h4), owns_rd (hW.holds _ h5), owns_rd (hW.holds _ h6)⟩
  have HNR : Hid (∀ W (l : List As), M w0 B W l → As.row 3 1 (.slice na n.ks.length nc) n.ks.length (ints n.ks) ∈ l → As.row 3 1 (.slice nva n.vs.length nvc) n.vs.length (ints n.vs) ∈ l → Rd W (.slice na n.ks.length nc) n.ks ∧ Rd W (.slice nva n.vs.length nvc) n.vs) := fun W l hW h1 h2 => ⟨owns_rd (hW.holds _ h1), owns_rd (hW.holds _ h2)⟩
  obtain ⟨gx, hgx⟩ : ∃ g, w.heap.size = g := ⟨_, rfl⟩
  rw [hgx] at A4 ⊢
  clear hgx
  go_wp2_with (refine wpList_load_row rfl 98 _ rfl _ rfl 98 _ (0, 0) _ (A4.out.block (i := 5) rfl) Tryd.underlying98 rfl infoState ?_)
  refine (wanted_any s _ _ _ _ _ _ _ (HSV.out _ _ A4.out (by simp) (by simp) (by simp) (by simp) (by simp) (by simp)) HS.out.i).mono ?_
  rintro e w3 ⟨rfl, hb3⟩
  have A5 := hideIt (A4.out.below hb3)
  clear A4 hb3
  obtain ⟨L, hL⟩ : ∃ x, wantV s = x := ⟨_, rfl⟩
  rw [hL]
  have HL := hideIt hL
  clear hL
  have q0 := A5.out.cell (i := 5) rfl 0 (.int .i64 s.kd) rfl
  have q14 := A5.out.cell (i := 5) rfl 14 (.int .i64 s.lv) rfl
  have n0 := A5.out.cell (i := 0) rfl 0 (.int .i64 n.lv) rfl
  have n1 := A5.out.cell (i := 0) rfl 1 (.int .i64 n.lk) rfl
  have n2 := A5.out.cell (i := 0) rfl 2 (.int .i64 n.hi) rfl
  have n3 := A5.out.cell (i := 0) rfl 3 (.slice na n.ks.length nc) rfl
  have n4 := A5.out.cell (i := 0) rfl 4 (.slice nva n.vs.length nvc) rfl
  have hd1 : decide (s.lv < n.lv) = false := decide_eq_false (fun h => HGO.out (Or.inl h))
  have hd2 : decide (n.hi ≤ L) = false := decide_eq_false (fun h => HGO.out (Or.inr (by rw [HL.out]; exact h)))
  obtain ⟨hkb, hkc⟩ := HKK.out
  have A6 := A5.out.mvAt (pre := []) (a := [_, _, _, _, _, _]) (b := [_, _, _, _, _, _])
  simp only [List.nil_append, List.cons_append] at A6
  have HCC := hideIt (HC.out _ _ _ _ _ _ (.slice na n.ks.length nc) (.slice nva n.vs.length nvc) _ _ (by simp) (by simp) A6)
  have p0 := A5.out.cell (i := 4) rfl 0 (.int .i64 ver) rfl
  have p1 := A5.out.cell (i := 4) rfl 1 (.int .i64 0) rfl
  have p2 := A5.out.cell (i := 4) rfl 2 (.string t) rfl
  have p3 := A5.out.cell (i := 4) rfl 3 (.bool false) rfl
  clear HC A6 HKK
  rcases hkc with hkb2 | ⟨hkb2, hkb3⟩
  all_goals
    go_upto_region 13 with fail
    rcases o.is with ⟨s', rfl⟩ | ⟨er, fd, va, pt, ks, vs, cs, rfl⟩
    · go_wp2_with (refine wpList_load_row rfl 98 _ rfl _ rfl 98 _ (0, 0) _ (A5.out.block (i := 5) rfl) Tryd.underlying98 rfl infoState ?_)
      refine HCC.out.mono ?_
      rintro e w5 ⟨⟨c5, rfl, hc5⟩, hM5⟩
      have A7 := hideIt hM5
      have HC5 := hideIt hc5
      clear hc5 hM5 A5 HCC q0 q14 n0 n1 n2 n3 n4 p0 p1 p2 p3
      have r0 := A7.out.cell (i := 3) rfl 0 (.int .i64 0) rfl
      have f0 := A7.out.free (i := 3) rfl 0
      have r1 := A7.out.cell (i := 3) rfl 1 (.bool false) rfl
      have f1 := A7.out.free (i := 3) rfl 1
      have r2 := A7.out.cell (i := 3) rfl 2 (.int .i64 0) rfl
      have f2 := A7.out.free (i := 3) rfl 2
      have r3 := A7.out.cell (i := 3) rfl 3 (.int .i64 0) rfl
      have f3 := A7.out.free (i := 3) rfl 3
      have r4 := A7.out.cell (i := 3) rfl 4 (.slice none 0 0) rfl
      have f4 := A7.out.free (i := 3) rfl 4
      have r5 := A7.out.cell (i := 3) rfl 5 (.slice none 0 0) rfl
      have f5 := A7.out.free (i := 3) rfl 5
      have r6 := A7.out.cell (i := 3) rfl 6 (.slice none 0 0) rfl
      have f6 := A7.out.free (i := 3) rfl 6
      have S7 := hideIt (A7.out.store7 (i := 3) rfl (.int .i64 0) (.bool false) (.int .i64 0) (.int .i64 0) (.slice none 0 0) (.slice none 0 0) (.slice none 0 0))
      clear A7
      rw [show ans0 = #[.int .i64 0, .bool false, .int .i64 0, .int .i64 0, .slice none 0 0, .slice none 0 0, .slice none 0 0] from rfl]
      go_wp2
      refine bodyPost_ret (v := .tuple #[.string c5, .agg #[.int .i64 0, .bool false, .int .i64 0, .int .i64 0, .slice none 0 0, .slice none 0 0, .slice none 0 0], .bool false, .int .i64 0]) (by simp [results, Tryd.results90, go_sem, *]) rfl ?_
      exact ⟨⟨c5, rfl, HC5.out⟩, S7.out.sub (.cons _ (.cons _ (.cons _ (.cons _ (.cons _ (.cons _ (List.Sublist.refl _)))))))⟩
    · go_wp2_with (refine wpList_load_row rfl 98 _ rfl _ rfl 98 _ (0, 0) _ (A5.out.block (i := 5) rfl) Tryd.underlying98 rfl infoState ?_)
      refine HCC.out.mono ?_
      rintro e w5 ⟨kv5, vv5, cv5, rfl, hM5⟩
      obtain ⟨a5, b5, rfl⟩ := As.form0 (hM5.get (i := 0) rfl)
      obtain ⟨a6, b6, rfl⟩ := As.form0 (hM5.get (i := 1) rfl)
      obtain ⟨a7, b7, rfl⟩ := As.form0 (hM5.get (i := 2) rfl)
      have A7 := hideIt hM5
      clear hM5 A5 HCC q0 q14 n0 n1 n2 n3 n4 p0 p1 p2 p3
      have r0 := A7.out.cell (i := 6) rfl 0 (.int .i64 0) rfl
      have f0 := A7.out.free (i := 6) rfl 0
      have r1 := A7.out.cell (i := 6) rfl 1 (.bool false) rfl
      have f1 := A7.out.free (i := 6) rfl 1
      have r2 := A7.out.cell (i := 6) rfl 2 (.int .i64 0) rfl
      have f2 := A7.out.free (i := 6) rfl 2
      have r3 := A7.out.cell (i := 6) rfl 3 (.int .i64 0) rfl
      have f3 := A7.out.free (i := 6) rfl 3
      have r4 := A7.out.cell (i := 6) rfl 4 (.slice none 0 0) rfl
      have f4 := A7.out.free (i := 6) rfl 4
      have r5 := A7.out.cell (i := 6) rfl 5 (.slice none 0 0) rfl
      have f5 := A7.out.free (i := 6) rfl 5
      have r6 := A7.out.cell (i := 6) rfl 6 (.slice none 0 0) rfl
      have f6 := A7.out.free (i := 6) rfl 6
      have S7 := hideIt (A7.out.store7 (i := 6) rfl (.int .i64 er) (.bool fd) (.int .i64 va) (.int .i64 pt) (.slice a5 ks.length b5) (.slice a6 vs.length b6) (.slice a7 cs.length b7))
      clear A7
      go_wp2
      refine bodyPost_ret (v := .tuple #[.string ⟨#[]⟩, .agg #[.int .i64 er, .bool fd, .int .i64 va, .int .i64 pt, .slice a5 ks.length b5, .slice a6 vs.length b6, .slice a7 cs.length b7], .bool true, .int .i64 0]) (by simp [results, Tryd.results90, go_sem, *]) rfl ?_
      exact ⟨_, _, _, rfl, S7.out.sub (.cons_cons _ (.cons_cons _ (.cons_cons _ (.cons _ (.cons _ (.cons _ (.cons _ (.cons _ (.cons _ (List.Sublist.refl _))))))))))⟩

theorem tell_miss (s : St) (n : Nd) (f t : ByteArray) (ver : Int) (w : World) (htab : Tab w) (hf : f.data.toList = frT s) (hs : StOk s) (hu : Unp t.data.toList n) (hsw : s.sw = ⟨#[]⟩) (hgo : ¬ rdGo s n) (hk : s.kd = 3) (hfb : fndB n.ks s.key n.ks.length = false) :
    Calls Tryd.prog 61 #[.string f, .agg #[.int .i64 ver, .int .i64 0, .string t, .bool false]] w fun e w' => ResM (.fin 0 false (fndV n.ks n.vs s.key n.ks.length) s.step [] [] []) w w.heap.size w' [] e := by
  have hb := right_bd n hu.1
  exact tell_pass s f t ver _ w hf hs hsw fun kv vv bv pv xv yv fr W hM => tellRead_pass s n kv vv bv pv xv yv t ver fr w W _ htab rfl hs hu hgo (Or.inr hk) _ (fun kv1 vv1 bv1 pv1 xv1 yv1 ka va fr1 W1 h1 h2 hM1 => changeNode_miss s n t ver kv1 vv1 bv1 pv1 xv1 yv1 ka va fr1 w W1 _ htab rfl h1 h2 hb.2.2.2.1 hb.2.2.2.2.1 hk hfb hM1) hM
theorem tell_put_on (s : St) (n : Nd) (f t : ByteArray) (ver : Int) (w : World) (htab : Tab w) (hf : f.data.toList = frT s) (hs : StOk s) (hu : Unp t.data.toList n) (hsw : s.sw = ⟨#[]⟩) (hgo : ¬ rdGo s n) (hk : s.kd = 2) (hok : StOk (seeS s t ver)) (hp : PlOk n (seeS s t ver)) (hver : 0 ≤ ver) (hl9 : ¬ (0 < pgsN n (seeS s t ver) ∧ s.lv = 9)) (hi : StI { seeS s t ver with step := s.step + 1 }) (hst : s.step ≤ 1000000000) :
    Calls Tryd.prog 61 #[.string f, .agg #[.int .i64 ver, .int .i64 0, .string t, .bool false]] w fun e w' => ResM (.on { seeS s t ver with step := s.step + 1 }) w w.heap.size w' [] e := by
  have hb := right_bd n hu.1
  exact tell_pass s f t ver _ w hf hs hsw fun kv vv bv pv xv yv fr W hM => tellRead_pass s n kv vv bv pv xv yv t ver fr w W _ htab rfl hs hu hgo (Or.inl hk) _ (fun kv1 vv1 bv1 pv1 xv1 yv1 ka va fr1 W1 h1 h2 hM1 => changeNode_put_on s n t ver kv1 vv1 bv1 pv1 xv1 yv1 ka va fr1 w W1 _ htab rfl h1 h2 hb.2.2.2.1 hb.2.2.2.2.1 hk hok hp hver hl9 hi hst hs.step.1 hM1) hM
theorem tell_put_last (s : St) (n : Nd) (f t : ByteArray) (ver : Int) (w : World) (htab : Tab w) (hf : f.data.toList = frT s) (hs : StOk s) (hu : Unp t.data.toList n) (hsw : s.sw = ⟨#[]⟩) (hgo : ¬ rdGo s n) (hk : s.kd = 2) (hok : StOk (seeS s t ver)) (hp : PlOk n (seeS s t ver)) (hver : 0 ≤ ver) (hl9 : 0 < pgsN n (seeS s t ver) ∧ s.lv = 9) :
    Calls Tryd.prog 61 #[.string f, .agg #[.int .i64 ver, .int .i64 0, .string t, .bool false]] w fun e w' => ResM (.fin 0 false 0 s.pt [] [] []) w w.heap.size w' [] e := by
  have hb := right_bd n hu.1
  exact tell_pass s f t ver _ w hf hs hsw fun kv vv bv pv xv yv fr W hM => tellRead_pass s n kv vv bv pv xv yv t ver fr w W _ htab rfl hs hu hgo (Or.inl hk) _ (fun kv1 vv1 bv1 pv1 xv1 yv1 ka va fr1 W1 h1 h2 hM1 => changeNode_put_last s n t ver kv1 vv1 bv1 pv1 xv1 yv1 ka va fr1 w W1 _ htab rfl h1 h2 hb.2.2.2.1 hb.2.2.2.2.1 hk hok hp hver hl9 hM1) hM
theorem tell_drop_on (s : St) (n : Nd) (f t : ByteArray) (ver : Int) (w : World) (htab : Tab w) (hf : f.data.toList = frT s) (hs : StOk s) (hu : Unp t.data.toList n) (hsw : s.sw = ⟨#[]⟩) (hgo : ¬ rdGo s n) (hk : s.kd = 3) (hfb : fndB n.ks s.key n.ks.length = true) (hok : StOk (seeS s t ver)) (hp : PlOk n (seeS s t ver)) (hver : 0 ≤ ver) (hl9 : ¬ (0 < pgsN n (seeS s t ver) ∧ s.lv = 9)) (hi : StI { seeS s t ver with step := s.step + 1 }) (hst : s.step ≤ 1000000000) :
    Calls Tryd.prog 61 #[.string f, .agg #[.int .i64 ver, .int .i64 0, .string t, .bool false]] w fun e w' => ResM (.on { seeS s t ver with step := s.step + 1 }) w w.heap.size w' [] e := by
  have hb := right_bd n hu.1
  exact tell_pass s f t ver _ w hf hs hsw fun kv vv bv pv xv yv fr W hM => tellRead_pass s n kv vv bv pv xv yv t ver fr w W _ htab rfl hs hu hgo (Or.inr hk) _ (fun kv1 vv1 bv1 pv1 xv1 yv1 ka va fr1 W1 h1 h2 hM1 => changeNode_drop_on s n t ver kv1 vv1 bv1 pv1 xv1 yv1 ka va fr1 w W1 _ htab rfl h1 h2 hb.2.2.2.1 hb.2.2.2.2.1 hk hfb hok hp hver hl9 hi hst hs.step.1 hM1) hM
end Go.Proofs.YtajobgmnmbnhiaaDoor.Sap

/- WHAT IS PROVED HERE: what tree.Tell answers where a page was to be made or written. Conditions: named at each theorem. -/
namespace Go.Proofs.YtajobgmnmbnhiaaDoor.Sap
open Go.RowKit

set_option maxRecDepth 100000 in
set_option maxHeartbeats 1600000 in
theorem tell_tellFresh_pass (s : St) (n : Nd) (f rt : ByteArray) (rv rp : Int) (rd : Bool) (w : World) (htab : Tab w) (hf : f.data.toList = frT s) (hok : StOk s) (hp : PlOk n s) (hsw : s.sw ≠ ⟨#[]⟩) (hl2 : s.laid ≤ 2) (o : Res) (hC : ∀ kv vv bv pv xv yv fr1 W, M w w.heap.size W (.row 3 1 kv s.keys.length (ints s.keys) :: .row 3 1 vv s.vals.length (ints s.vals) :: .row 3 1 bv s.bel.length (ints s.bel) :: .row 3 1 pv s.pts.length (ints s.pts) :: .row 3 1 xv s.sp.length (ints s.sp) :: .row 3 1 yv s.sv.length (ints s.sv) :: fr1) → Calls Tryd.prog 91 #[.agg #[.int .i64 s.kd, .int .i64 s.key, .int .i64 s.val, .int .i64 s.step, .int .i64 s.pg, kv, vv, bv, pv, .string s.sw, .int .i64 s.ver, xv, yv, .int .i64 s.laid, .int .i64 s.lv, .int .i64 s.low, .int .i64 s.ch, .int .i64 s.pt], .int .i64 rp] W fun e w' => ResM o w w.heap.size w' fr1 e) (hw : (wrA s (pgsN n s)).1 = 3) :
    Calls Tryd.prog 61 #[.string f, .agg #[.int .i64 rv, .int .i64 rp, .string rt, .bool rd]] w fun e w' => ResM o w w.heap.size w' [] e := by
  have A0 := hideIt (((M.start w).alloc #[.int .i64 rv, .int .i64 rp, .string rt, .bool rd] 73).alloc #[.int .i64 0, .bool false, .int .i64 0, .int .i64 0, .slice none 0 0, .slice none 0 0, .slice none 0 0] 76)
  rw [alloc_size] at A0
  have CR := hideIt (fun W => readFrame_yes s f W hf hok)
  have hsb : s.sw.toList.isEmpty = false := nonempty_of hsw
  have HOK := hideIt hok
  have HP := hideIt hp
  have HT := hideIt htab
  have HC := hideIt hC
  have HW := hideIt hw
  clear hf hok hp hsw htab hC hw
  go_enter Tryd.func61, Tryd.ntmps61
  go_wp2_with fail
  refine (CR.out _).mono ?_
  rintro e w1 ⟨⟨kv, vv, bv, pv, xv, yv, hO, rfl⟩, hb⟩
  have A1 := A0.out.join (hO.m hb)
  clear hO hb CR A0
  obtain ⟨ak, ck, rfl⟩ := As.form0 (A1.get (i := 0) rfl)
  obtain ⟨av, cv, rfl⟩ := As.form0 (A1.get (i := 1) rfl)
  obtain ⟨ab, cb, rfl⟩ := As.form0 (A1.get (i := 2) rfl)
  obtain ⟨ap, cp, rfl⟩ := As.form0 (A1.get (i := 3) rfl)
  obtain ⟨ax, cx, rfl⟩ := As.form0 (A1.get (i := 4) rfl)
  obtain ⟨ay, cy, rfl⟩ := As.form0 (A1.get (i := 5) rfl)
  have A2 := hideIt (A1.alloc #[.int .i64 s.kd, .int .i64 s.key, .int .i64 s.val, .int .i64 s.step, .int .i64 s.pg, .slice ak s.keys.length ck, .slice av s.vals.length cv, .slice ab s.bel.length cb, .slice ap s.pts.length cp, .string s.sw, .int .i64 s.ver, .slice ax s.sp.length cx, .slice ay s.sv.length cy, .int .i64 s.laid, .int .i64 s.lv, .int .i64 s.low, .int .i64 s.ch, .int .i64 s.pt] 98)
  clear A1
  have q9 := A2.out.cell (i := 0) rfl 9 (.string s.sw) rfl
  have HRI : Hid (∀ l, RowsIn s (.slice ak s.keys.length ck) (.slice av s.vals.length cv) (.slice ab s.bel.length cb) (.slice ap s.pts.length cp) (.slice ax s.sp.length cx) (.slice ay s.sv.length cy) (l ++ [.row 3 1 (.slice ak s.keys.length ck) s.keys.length (ints s.keys), .row 3 1 (.slice av s.vals.length cv) s.vals.length (ints s.vals), .row 3 1 (.slice ab s.bel.length cb) s.bel.length (ints s.bel), .row 3 1 (.slice ap s.pts.length cp) s.pts.length (ints s.pts), .row 3 1 (.slice ax s.sp.length cx) s.sp.length (ints s.sp), .row 3 1 (.slice ay s.sv.length cy) s.sv.length (ints s.sv), .blk (w.heap.size + 1) #[.int .i64 0, .bool false, .int .i64 0, .int .i64 0, .slice none 0 0, .slice none 0 0, .slice none 0 0] 76, .blk w.heap.size #[.int .i64 rv, .int .i64 rp, .string rt, .bool rd] 73])) := fun l => ⟨by simp, by simp, by simp, by simp, by simp, by simp⟩
  have CP := hideIt (planned_x n s _ _ _ _ _ _ _ w _ w.heap.size HT.out rfl HOK.out HP.out A2.out (HRI.out [_]))
  go_wp2_with (refine wpList_load_row rfl 98 _ rfl _ rfl 98 _ (0, 0) _ (A2.out.block (i := 0) rfl) Tryd.underlying98 rfl infoState ?_)
  refine CP.out.mono ?_
  rintro e w3 ⟨kv3, vv3, T, rfl, -, hM3⟩
  obtain ⟨ka3, kc3, rfl⟩ := As.form0 (hM3.get (i := 0) rfl)
  obtain ⟨va3, vc3, rfl⟩ := As.form0 (hM3.get (i := 1) rfl)
  obtain ⟨pgs, hpgs⟩ : ∃ x, pgsN n s = x := ⟨_, rfl⟩
  obtain ⟨low, hlow⟩ : ∃ x, lowV n s = x := ⟨_, rfl⟩
  have A4 := hM3.alloc #[.int .i64 n.lv, .int .i64 n.lk, .int .i64 n.hi, .slice ka3 n.ks.length kc3, .slice va3 n.vs.length vc3, .int .i64 (pgsN n s), .int .i64 (lowV n s), .string T] 102
  rw [hpgs, hlow] at A4 ⊢
  rw [hpgs] at HW
  have HQ := hideIt (And.intro hpgs hlow)
  have A4 := hideIt A4
  clear CP A2 hM3 q9 hpgs hlow
  have CW := hideIt (writing_any s n pgs low T ka3 va3 n.ks.length kc3 n.vs.length vc3 _ _ _ _ _ _ _ ((HRI.out [_, _, _, _]).stv A4.out (fun a ha => by simpa using ha)) HOK.out.laid.1 hl2 HOK.out.sp2 HOK.out.spl)
  obtain ⟨ak', hak⟩ : ∃ x, (wrA s pgs).1 = x := ⟨_, rfl⟩
  obtain ⟨ap', hap⟩ : ∃ x, (wrA s pgs).2.1 = x := ⟨_, rfl⟩
  obtain ⟨av', hav⟩ : ∃ x, (wrA s pgs).2.2 = x := ⟨_, rfl⟩
  rw [hak, hap, hav] at CW
  rw [hak] at HW
  clear hak hap hav
  go_upto_region 9 with fail
  go_wp2_with (first | (refine wpList_load_row rfl 98 _ rfl _ rfl 98 _ (0, 0) _ (A4.out.block (i := 3) rfl) Tryd.underlying98 rfl infoState ?_) | (refine wpList_load_row rfl 102 _ rfl _ rfl 102 _ (0, 0) _ (A4.out.block (i := 0) rfl) Tryd.underlying102 rfl infoChange ?_))
  refine CW.out.mono ?_
  rintro e w5 ⟨rfl, hb5⟩
  have A6 := hideIt ((A4.out.below hb5).alloc #[.int .i64 ak', .int .i64 ap', .int .i64 av', .string T] 45)
  clear hb5 A4 CW
  go_upto_region 10 with fail
  generalize w5.alloc (.cells #[.int .i64 ak', .int .i64 ap', .int .i64 av', .string T] 45) = W5 at A6 ⊢
  have k0 := A6.out.cell (i := 0) rfl 0 (.int .i64 ak') rfl
  have q13 := A6.out.cell (i := 4) rfl 13 (.int .i64 s.laid) rfl
  have c5 := A6.out.cell (i := 1) rfl 5 (.int .i64 pgs) rfl
  have p1 := A6.out.cell (i := 12) rfl 1 (.int .i64 rp) rfl
  have p3 := A6.out.cell (i := 12) rfl 3 (.bool rd) rfl
  have A7 := A6.out.mvAt (pre := []) (a := [_, _, _, _, _]) (b := [_, _, _, _, _, _])
  simp only [List.nil_append, List.cons_append] at A7
  have HCC := hideIt (HC.out _ _ _ _ _ _ _ _ A7)
  clear HC A7
  have hkb : (ak' == 3) = true := by rw [HW.out]; rfl
  clear HW
  go_upto_region 11 with fail
  rcases o.is with ⟨s', rfl⟩ | ⟨er, fd, va, pt, ks, vs, cs, rfl⟩
  · go_wp2_with (refine wpList_load_row rfl 98 _ rfl _ rfl 98 _ (0, 0) _ (A6.out.block (i := 4) rfl) Tryd.underlying98 rfl infoState ?_)
    refine HCC.out.mono ?_
    rintro e w9 ⟨⟨c9, rfl, hc9⟩, hM9⟩
    have A8 := hideIt hM9
    have HC9 := hideIt hc9
    clear hc9 hM9 A6 HCC k0 q13 c5 p1 p3
    have r0 := A8.out.cell (i := 5) rfl 0 (.int .i64 0) rfl
    have f0 := A8.out.free (i := 5) rfl 0
    have r1 := A8.out.cell (i := 5) rfl 1 (.bool false) rfl
    have f1 := A8.out.free (i := 5) rfl 1
    have r2 := A8.out.cell (i := 5) rfl 2 (.int .i64 0) rfl
    have f2 := A8.out.free (i := 5) rfl 2
    have r3 := A8.out.cell (i := 5) rfl 3 (.int .i64 0) rfl
    have f3 := A8.out.free (i := 5) rfl 3
    have r4 := A8.out.cell (i := 5) rfl 4 (.slice none 0 0) rfl
    have f4 := A8.out.free (i := 5) rfl 4
    have r5 := A8.out.cell (i := 5) rfl 5 (.slice none 0 0) rfl
    have f5 := A8.out.free (i := 5) rfl 5
    have r6 := A8.out.cell (i := 5) rfl 6 (.slice none 0 0) rfl
    have f6 := A8.out.free (i := 5) rfl 6
    have S7 := hideIt (A8.out.store7 (i := 5) rfl (.int .i64 0) (.bool false) (.int .i64 0) (.int .i64 0) (.slice none 0 0) (.slice none 0 0) (.slice none 0 0))
    clear A8
    rw [show ans0 = #[.int .i64 0, .bool false, .int .i64 0, .int .i64 0, .slice none 0 0, .slice none 0 0, .slice none 0 0] from rfl]
    go_wp2
    refine bodyPost_ret (v := .tuple #[.string c9, .agg #[.int .i64 0, .bool false, .int .i64 0, .int .i64 0, .slice none 0 0, .slice none 0 0, .slice none 0 0], .bool false, .int .i64 0]) (by simp [results, Tryd.results61, go_sem, *]) rfl ?_
    exact ⟨⟨c9, rfl, HC9.out⟩, S7.out.sub (List.nil_sublist _)⟩
  · go_wp2_with (refine wpList_load_row rfl 98 _ rfl _ rfl 98 _ (0, 0) _ (A6.out.block (i := 4) rfl) Tryd.underlying98 rfl infoState ?_)
    refine HCC.out.mono ?_
    rintro e w9 ⟨kv5, vv5, cv5, rfl, hM5⟩
    obtain ⟨a5, b5, rfl⟩ := As.form0 (hM5.get (i := 0) rfl)
    obtain ⟨a6, b6, rfl⟩ := As.form0 (hM5.get (i := 1) rfl)
    obtain ⟨a7, b7, rfl⟩ := As.form0 (hM5.get (i := 2) rfl)
    have A8 := hideIt hM5
    clear hM5 A6 HCC k0 q13 c5 p1 p3
    have r0 := A8.out.cell (i := 8) rfl 0 (.int .i64 0) rfl
    have f0 := A8.out.free (i := 8) rfl 0
    have r1 := A8.out.cell (i := 8) rfl 1 (.bool false) rfl
    have f1 := A8.out.free (i := 8) rfl 1
    have r2 := A8.out.cell (i := 8) rfl 2 (.int .i64 0) rfl
    have f2 := A8.out.free (i := 8) rfl 2
    have r3 := A8.out.cell (i := 8) rfl 3 (.int .i64 0) rfl
    have f3 := A8.out.free (i := 8) rfl 3
    have r4 := A8.out.cell (i := 8) rfl 4 (.slice none 0 0) rfl
    have f4 := A8.out.free (i := 8) rfl 4
    have r5 := A8.out.cell (i := 8) rfl 5 (.slice none 0 0) rfl
    have f5 := A8.out.free (i := 8) rfl 5
    have r6 := A8.out.cell (i := 8) rfl 6 (.slice none 0 0) rfl
    have f6 := A8.out.free (i := 8) rfl 6
    have S7 := hideIt (A8.out.store7 (i := 8) rfl (.int .i64 er) (.bool fd) (.int .i64 va) (.int .i64 pt) (.slice a5 ks.length b5) (.slice a6 vs.length b6) (.slice a7 cs.length b7))
    clear A8
    go_wp2
    refine bodyPost_ret (v := .tuple #[.string ⟨#[]⟩, .agg #[.int .i64 er, .bool fd, .int .i64 va, .int .i64 pt, .slice a5 ks.length b5, .slice a6 vs.length b6, .slice a7 cs.length b7], .bool true, .int .i64 0]) (by simp [results, Tryd.results61, go_sem, *]) rfl ?_
    exact ⟨_, _, _, rfl, S7.out.sub (.cons_cons _ (.cons_cons _ (.cons_cons _ (List.nil_sublist _))))⟩

set_option maxRecDepth 100000 in
set_option maxHeartbeats 1600000 in
theorem tell_tellSpare_pass (s : St) (n : Nd) (f rt : ByteArray) (rv rp : Int) (rd : Bool) (w : World) (htab : Tab w) (hf : f.data.toList = frT s) (hok : StOk s) (hp : PlOk n s) (hsw : s.sw ≠ ⟨#[]⟩) (hl2 : s.laid ≤ 2) (o : Res) (hC : ∀ kv vv bv pv xv yv fr1 W, M w w.heap.size W (.row 3 1 kv s.keys.length (ints s.keys) :: .row 3 1 vv s.vals.length (ints s.vals) :: .row 3 1 bv s.bel.length (ints s.bel) :: .row 3 1 pv s.pts.length (ints s.pts) :: .row 3 1 xv s.sp.length (ints s.sp) :: .row 3 1 yv s.sv.length (ints s.sv) :: fr1) → Calls Tryd.prog 92 #[.agg #[.int .i64 s.kd, .int .i64 s.key, .int .i64 s.val, .int .i64 s.step, .int .i64 s.pg, kv, vv, bv, pv, .string s.sw, .int .i64 s.ver, xv, yv, .int .i64 s.laid, .int .i64 s.lv, .int .i64 s.low, .int .i64 s.ch, .int .i64 s.pt], .bool rd] W fun e w' => ResM o w w.heap.size w' fr1 e) (hw : (wrA s (pgsN n s)).1 = 2 ∧ s.laid < pgsN n s) :
    Calls Tryd.prog 61 #[.string f, .agg #[.int .i64 rv, .int .i64 rp, .string rt, .bool rd]] w fun e w' => ResM o w w.heap.size w' [] e := by
  have A0 := hideIt (((M.start w).alloc #[.int .i64 rv, .int .i64 rp, .string rt, .bool rd] 73).alloc #[.int .i64 0, .bool false, .int .i64 0, .int .i64 0, .slice none 0 0, .slice none 0 0, .slice none 0 0] 76)
  rw [alloc_size] at A0
  have CR := hideIt (fun W => readFrame_yes s f W hf hok)
  have hsb : s.sw.toList.isEmpty = false := nonempty_of hsw
  have HOK := hideIt hok
  have HP := hideIt hp
  have HT := hideIt htab
  have HC := hideIt hC
  have HW := hideIt hw
  clear hf hok hp hsw htab hC hw
  go_enter Tryd.func61, Tryd.ntmps61
  go_wp2_with fail
  refine (CR.out _).mono ?_
  rintro e w1 ⟨⟨kv, vv, bv, pv, xv, yv, hO, rfl⟩, hb⟩
  have A1 := A0.out.join (hO.m hb)
  clear hO hb CR A0
  obtain ⟨ak, ck, rfl⟩ := As.form0 (A1.get (i := 0) rfl)
  obtain ⟨av, cv, rfl⟩ := As.form0 (A1.get (i := 1) rfl)
  obtain ⟨ab, cb, rfl⟩ := As.form0 (A1.get (i := 2) rfl)
  obtain ⟨ap, cp, rfl⟩ := As.form0 (A1.get (i := 3) rfl)
  obtain ⟨ax, cx, rfl⟩ := As.form0 (A1.get (i := 4) rfl)
  obtain ⟨ay, cy, rfl⟩ := As.form0 (A1.get (i := 5) rfl)
  have A2 := hideIt (A1.alloc #[.int .i64 s.kd, .int .i64 s.key, .int .i64 s.val, .int .i64 s.step, .int .i64 s.pg, .slice ak s.keys.length ck, .slice av s.vals.length cv, .slice ab s.bel.length cb, .slice ap s.pts.length cp, .string s.sw, .int .i64 s.ver, .slice ax s.sp.length cx, .slice ay s.sv.length cy, .int .i64 s.laid, .int .i64 s.lv, .int .i64 s.low, .int .i64 s.ch, .int .i64 s.pt] 98)
  clear A1
  have q9 := A2.out.cell (i := 0) rfl 9 (.string s.sw) rfl
  have HRI : Hid (∀ l, RowsIn s (.slice ak s.keys.length ck) (.slice av s.vals.length cv) (.slice ab s.bel.length cb) (.slice ap s.pts.length cp) (.slice ax s.sp.length cx) (.slice ay s.sv.length cy) (l ++ [.row 3 1 (.slice ak s.keys.length ck) s.keys.length (ints s.keys), .row 3 1 (.slice av s.vals.length cv) s.vals.length (ints s.vals), .row 3 1 (.slice ab s.bel.length cb) s.bel.length (ints s.bel), .row 3 1 (.slice ap s.pts.length cp) s.pts.length (ints s.pts), .row 3 1 (.slice ax s.sp.length cx) s.sp.length (ints s.sp), .row 3 1 (.slice ay s.sv.length cy) s.sv.length (ints s.sv), .blk (w.heap.size + 1) #[.int .i64 0, .bool false, .int .i64 0, .int .i64 0, .slice none 0 0, .slice none 0 0, .slice none 0 0] 76, .blk w.heap.size #[.int .i64 rv, .int .i64 rp, .string rt, .bool rd] 73])) := fun l => ⟨by simp, by simp, by simp, by simp, by simp, by simp⟩
  have CP := hideIt (planned_x n s _ _ _ _ _ _ _ w _ w.heap.size HT.out rfl HOK.out HP.out A2.out (HRI.out [_]))
  go_wp2_with (refine wpList_load_row rfl 98 _ rfl _ rfl 98 _ (0, 0) _ (A2.out.block (i := 0) rfl) Tryd.underlying98 rfl infoState ?_)
  refine CP.out.mono ?_
  rintro e w3 ⟨kv3, vv3, T, rfl, -, hM3⟩
  obtain ⟨ka3, kc3, rfl⟩ := As.form0 (hM3.get (i := 0) rfl)
  obtain ⟨va3, vc3, rfl⟩ := As.form0 (hM3.get (i := 1) rfl)
  obtain ⟨pgs, hpgs⟩ : ∃ x, pgsN n s = x := ⟨_, rfl⟩
  obtain ⟨low, hlow⟩ : ∃ x, lowV n s = x := ⟨_, rfl⟩
  have A4 := hM3.alloc #[.int .i64 n.lv, .int .i64 n.lk, .int .i64 n.hi, .slice ka3 n.ks.length kc3, .slice va3 n.vs.length vc3, .int .i64 (pgsN n s), .int .i64 (lowV n s), .string T] 102
  rw [hpgs, hlow] at A4 ⊢
  rw [hpgs] at HW
  have HQ := hideIt (And.intro hpgs hlow)
  have A4 := hideIt A4
  clear CP A2 hM3 q9 hpgs hlow
  have CW := hideIt (writing_any s n pgs low T ka3 va3 n.ks.length kc3 n.vs.length vc3 _ _ _ _ _ _ _ ((HRI.out [_, _, _, _]).stv A4.out (fun a ha => by simpa using ha)) HOK.out.laid.1 hl2 HOK.out.sp2 HOK.out.spl)
  obtain ⟨ak', hak⟩ : ∃ x, (wrA s pgs).1 = x := ⟨_, rfl⟩
  obtain ⟨ap', hap⟩ : ∃ x, (wrA s pgs).2.1 = x := ⟨_, rfl⟩
  obtain ⟨av', hav⟩ : ∃ x, (wrA s pgs).2.2 = x := ⟨_, rfl⟩
  rw [hak, hap, hav] at CW
  rw [hak] at HW
  clear hak hap hav
  go_upto_region 9 with fail
  go_wp2_with (first | (refine wpList_load_row rfl 98 _ rfl _ rfl 98 _ (0, 0) _ (A4.out.block (i := 3) rfl) Tryd.underlying98 rfl infoState ?_) | (refine wpList_load_row rfl 102 _ rfl _ rfl 102 _ (0, 0) _ (A4.out.block (i := 0) rfl) Tryd.underlying102 rfl infoChange ?_))
  refine CW.out.mono ?_
  rintro e w5 ⟨rfl, hb5⟩
  have A6 := hideIt ((A4.out.below hb5).alloc #[.int .i64 ak', .int .i64 ap', .int .i64 av', .string T] 45)
  clear hb5 A4 CW
  go_upto_region 10 with fail
  generalize w5.alloc (.cells #[.int .i64 ak', .int .i64 ap', .int .i64 av', .string T] 45) = W5 at A6 ⊢
  have k0 := A6.out.cell (i := 0) rfl 0 (.int .i64 ak') rfl
  have q13 := A6.out.cell (i := 4) rfl 13 (.int .i64 s.laid) rfl
  have c5 := A6.out.cell (i := 1) rfl 5 (.int .i64 pgs) rfl
  have p1 := A6.out.cell (i := 12) rfl 1 (.int .i64 rp) rfl
  have p3 := A6.out.cell (i := 12) rfl 3 (.bool rd) rfl
  have A7 := A6.out.mvAt (pre := []) (a := [_, _, _, _, _]) (b := [_, _, _, _, _, _])
  simp only [List.nil_append, List.cons_append] at A7
  have HCC := hideIt (HC.out _ _ _ _ _ _ _ _ A7)
  clear HC A7
  have hkb : (ak' == 3) = false := by rw [HW.out.1]; rfl
  have hlp : s.laid < pgs := HW.out.2
  clear HW
  go_upto_region 13 with fail
  rcases o.is with ⟨s', rfl⟩ | ⟨er, fd, va, pt, ks, vs, cs, rfl⟩
  · go_wp2_with (refine wpList_load_row rfl 98 _ rfl _ rfl 98 _ (0, 0) _ (A6.out.block (i := 4) rfl) Tryd.underlying98 rfl infoState ?_)
    refine HCC.out.mono ?_
    rintro e w9 ⟨⟨c9, rfl, hc9⟩, hM9⟩
    have A8 := hideIt hM9
    have HC9 := hideIt hc9
    clear hc9 hM9 A6 HCC k0 q13 c5 p1 p3
    have r0 := A8.out.cell (i := 5) rfl 0 (.int .i64 0) rfl
    have f0 := A8.out.free (i := 5) rfl 0
    have r1 := A8.out.cell (i := 5) rfl 1 (.bool false) rfl
    have f1 := A8.out.free (i := 5) rfl 1
    have r2 := A8.out.cell (i := 5) rfl 2 (.int .i64 0) rfl
    have f2 := A8.out.free (i := 5) rfl 2
    have r3 := A8.out.cell (i := 5) rfl 3 (.int .i64 0) rfl
    have f3 := A8.out.free (i := 5) rfl 3
    have r4 := A8.out.cell (i := 5) rfl 4 (.slice none 0 0) rfl
    have f4 := A8.out.free (i := 5) rfl 4
    have r5 := A8.out.cell (i := 5) rfl 5 (.slice none 0 0) rfl
    have f5 := A8.out.free (i := 5) rfl 5
    have r6 := A8.out.cell (i := 5) rfl 6 (.slice none 0 0) rfl
    have f6 := A8.out.free (i := 5) rfl 6
    have S7 := hideIt (A8.out.store7 (i := 5) rfl (.int .i64 0) (.bool false) (.int .i64 0) (.int .i64 0) (.slice none 0 0) (.slice none 0 0) (.slice none 0 0))
    clear A8
    rw [show ans0 = #[.int .i64 0, .bool false, .int .i64 0, .int .i64 0, .slice none 0 0, .slice none 0 0, .slice none 0 0] from rfl]
    go_wp2
    refine bodyPost_ret (v := .tuple #[.string c9, .agg #[.int .i64 0, .bool false, .int .i64 0, .int .i64 0, .slice none 0 0, .slice none 0 0, .slice none 0 0], .bool false, .int .i64 0]) (by simp [results, Tryd.results61, go_sem, *]) rfl ?_
    exact ⟨⟨c9, rfl, HC9.out⟩, S7.out.sub (List.nil_sublist _)⟩
  · go_wp2_with (refine wpList_load_row rfl 98 _ rfl _ rfl 98 _ (0, 0) _ (A6.out.block (i := 4) rfl) Tryd.underlying98 rfl infoState ?_)
    refine HCC.out.mono ?_
    rintro e w9 ⟨kv5, vv5, cv5, rfl, hM5⟩
    obtain ⟨a5, b5, rfl⟩ := As.form0 (hM5.get (i := 0) rfl)
    obtain ⟨a6, b6, rfl⟩ := As.form0 (hM5.get (i := 1) rfl)
    obtain ⟨a7, b7, rfl⟩ := As.form0 (hM5.get (i := 2) rfl)
    have A8 := hideIt hM5
    clear hM5 A6 HCC k0 q13 c5 p1 p3
    have r0 := A8.out.cell (i := 8) rfl 0 (.int .i64 0) rfl
    have f0 := A8.out.free (i := 8) rfl 0
    have r1 := A8.out.cell (i := 8) rfl 1 (.bool false) rfl
    have f1 := A8.out.free (i := 8) rfl 1
    have r2 := A8.out.cell (i := 8) rfl 2 (.int .i64 0) rfl
    have f2 := A8.out.free (i := 8) rfl 2
    have r3 := A8.out.cell (i := 8) rfl 3 (.int .i64 0) rfl
    have f3 := A8.out.free (i := 8) rfl 3
    have r4 := A8.out.cell (i := 8) rfl 4 (.slice none 0 0) rfl
    have f4 := A8.out.free (i := 8) rfl 4
    have r5 := A8.out.cell (i := 8) rfl 5 (.slice none 0 0) rfl
    have f5 := A8.out.free (i := 8) rfl 5
    have r6 := A8.out.cell (i := 8) rfl 6 (.slice none 0 0) rfl
    have f6 := A8.out.free (i := 8) rfl 6
    have S7 := hideIt (A8.out.store7 (i := 8) rfl (.int .i64 er) (.bool fd) (.int .i64 va) (.int .i64 pt) (.slice a5 ks.length b5) (.slice a6 vs.length b6) (.slice a7 cs.length b7))
    clear A8
    go_wp2
    refine bodyPost_ret (v := .tuple #[.string ⟨#[]⟩, .agg #[.int .i64 er, .bool fd, .int .i64 va, .int .i64 pt, .slice a5 ks.length b5, .slice a6 vs.length b6, .slice a7 cs.length b7], .bool true, .int .i64 0]) (by simp [results, Tryd.results61, go_sem, *]) rfl ?_
    exact ⟨_, _, _, rfl, S7.out.sub (.cons_cons _ (.cons_cons _ (.cons_cons _ (List.nil_sublist _))))⟩

end Go.Proofs.YtajobgmnmbnhiaaDoor.Sap

/- WHAT IS PROVED HERE: what tree.Tell answers where the node itself was to be swapped. Conditions: named at each theorem. -/
namespace Go.Proofs.YtajobgmnmbnhiaaDoor.Sap
open Go.RowKit

/-- What tellSwap answers. -/
def SwR (o : Res) (e : Ending) : Prop :=
  match o with
  | .inl s' => OnR s' e
  | .inr (er, fd, va, pt, ks, vs, cs) => ks = [] ∧ vs = [] ∧ cs = [] ∧ e = .returned (.tuple #[.string ⟨#[]⟩, .agg #[.int .i64 er, .bool fd, .int .i64 va, .int .i64 pt, .slice none 0 0, .slice none 0 0, .slice none 0 0], .bool true, .int .i64 0])
theorem row_cap {w : World} {B n c : Nat} {e : TypeId} {a : Option Addr} {xs : List Value} (h : As.holds w B (.row e 1 (.slice a n c) n xs)) : n ≤ c := by
  rcases h.own.2 with ⟨h1, h2⟩ | ⟨g, cap, cur, h1, -, -, h4, -⟩
  · omega
  · injection h1 with _ _ h3; omega

set_option maxRecDepth 100000 in
set_option maxHeartbeats 1600000 in
theorem tell_swap_pass (s : St) (n : Nd) (f rt : ByteArray) (rv rp : Int) (rd : Bool) (w : World) (htab : Tab w) (hf : f.data.toList = frT s) (hok : StOk s) (hp : PlOk n s) (hsw : s.sw ≠ ⟨#[]⟩) (hl2 : s.laid ≤ 2) (o : Res) (hC : ∀ kv vv bv pv ka va ax ay kc vc cx cy T W, Tab W → StV W s kv vv bv pv (.slice ax s.sp.length cx) (.slice ay s.sv.length cy) → Rd W (.slice ka n.ks.length kc) n.ks → Rd W (.slice va n.vs.length vc) n.vs → s.sp.length ≤ cx → s.sv.length ≤ cy → Calls Tryd.prog 93 #[.agg #[.int .i64 s.kd, .int .i64 s.key, .int .i64 s.val, .int .i64 s.step, .int .i64 s.pg, kv, vv, bv, pv, .string s.sw, .int .i64 s.ver, .slice ax s.sp.length cx, .slice ay s.sv.length cy, .int .i64 s.laid, .int .i64 s.lv, .int .i64 s.low, .int .i64 s.ch, .int .i64 s.pt], .agg #[.int .i64 n.lv, .int .i64 n.lk, .int .i64 n.hi, .slice ka n.ks.length kc, .slice va n.vs.length vc, .int .i64 (pgsN n s), .int .i64 (lowV n s), .string T], .bool rd] W fun e w' => SwR o e ∧ Below W.heap.size W w') (hw : (wrA s (pgsN n s)).1 = 2 ∧ s.laid = pgsN n s) :
    Calls Tryd.prog 61 #[.string f, .agg #[.int .i64 rv, .int .i64 rp, .string rt, .bool rd]] w fun e w' => ResM o w w.heap.size w' [] e := by
  have A0 := hideIt (((M.start w).alloc #[.int .i64 rv, .int .i64 rp, .string rt, .bool rd] 73).alloc #[.int .i64 0, .bool false, .int .i64 0, .int .i64 0, .slice none 0 0, .slice none 0 0, .slice none 0 0] 76)
  rw [alloc_size] at A0
  have CR := hideIt (fun W => readFrame_yes s f W hf hok)
  have hsb : s.sw.toList.isEmpty = false := nonempty_of hsw
  have HOK := hideIt hok
  have HP := hideIt hp
  have HT := hideIt htab
  have HC := hideIt hC
  have HW := hideIt hw
  clear hf hok hp hsw htab hC hw
  go_enter Tryd.func61, Tryd.ntmps61
  go_wp2_with fail
  refine (CR.out _).mono ?_
  rintro e w1 ⟨⟨kv, vv, bv, pv, xv, yv, hO, rfl⟩, hb⟩
  have A1 := A0.out.join (hO.m hb)
  clear hO hb CR A0
  obtain ⟨ak, ck, rfl⟩ := As.form0 (A1.get (i := 0) rfl)
  obtain ⟨av, cv, rfl⟩ := As.form0 (A1.get (i := 1) rfl)
  obtain ⟨ab, cb, rfl⟩ := As.form0 (A1.get (i := 2) rfl)
  obtain ⟨ap, cp, rfl⟩ := As.form0 (A1.get (i := 3) rfl)
  obtain ⟨ax, cx, rfl⟩ := As.form0 (A1.get (i := 4) rfl)
  obtain ⟨ay, cy, rfl⟩ := As.form0 (A1.get (i := 5) rfl)
  have A2 := hideIt (A1.alloc #[.int .i64 s.kd, .int .i64 s.key, .int .i64 s.val, .int .i64 s.step, .int .i64 s.pg, .slice ak s.keys.length ck, .slice av s.vals.length cv, .slice ab s.bel.length cb, .slice ap s.pts.length cp, .string s.sw, .int .i64 s.ver, .slice ax s.sp.length cx, .slice ay s.sv.length cy, .int .i64 s.laid, .int .i64 s.lv, .int .i64 s.low, .int .i64 s.ch, .int .i64 s.pt] 98)
  clear A1
  have q9 := A2.out.cell (i := 0) rfl 9 (.string s.sw) rfl
  have HRI : Hid (∀ l, RowsIn s (.slice ak s.keys.length ck) (.slice av s.vals.length cv) (.slice ab s.bel.length cb) (.slice ap s.pts.length cp) (.slice ax s.sp.length cx) (.slice ay s.sv.length cy) (l ++ [.row 3 1 (.slice ak s.keys.length ck) s.keys.length (ints s.keys), .row 3 1 (.slice av s.vals.length cv) s.vals.length (ints s.vals), .row 3 1 (.slice ab s.bel.length cb) s.bel.length (ints s.bel), .row 3 1 (.slice ap s.pts.length cp) s.pts.length (ints s.pts), .row 3 1 (.slice ax s.sp.length cx) s.sp.length (ints s.sp), .row 3 1 (.slice ay s.sv.length cy) s.sv.length (ints s.sv), .blk (w.heap.size + 1) #[.int .i64 0, .bool false, .int .i64 0, .int .i64 0, .slice none 0 0, .slice none 0 0, .slice none 0 0] 76, .blk w.heap.size #[.int .i64 rv, .int .i64 rp, .string rt, .bool rd] 73])) := fun l => ⟨by simp, by simp, by simp, by simp, by simp, by simp⟩
  have CP := hideIt (planned_x n s _ _ _ _ _ _ _ w _ w.heap.size HT.out rfl HOK.out HP.out A2.out (HRI.out [_]))
  go_wp2_with (refine wpList_load_row rfl 98 _ rfl _ rfl 98 _ (0, 0) _ (A2.out.block (i := 0) rfl) Tryd.underlying98 rfl infoState ?_)
  refine CP.out.mono ?_
  rintro e w3 ⟨kv3, vv3, T, rfl, -, hM3⟩
  obtain ⟨ka3, kc3, rfl⟩ := As.form0 (hM3.get (i := 0) rfl)
  obtain ⟨va3, vc3, rfl⟩ := As.form0 (hM3.get (i := 1) rfl)
  obtain ⟨pgs, hpgs⟩ : ∃ x, pgsN n s = x := ⟨_, rfl⟩
  obtain ⟨low, hlow⟩ : ∃ x, lowV n s = x := ⟨_, rfl⟩
  have A4 := hM3.alloc #[.int .i64 n.lv, .int .i64 n.lk, .int .i64 n.hi, .slice ka3 n.ks.length kc3, .slice va3 n.vs.length vc3, .int .i64 (pgsN n s), .int .i64 (lowV n s), .string T] 102
  rw [hpgs, hlow] at A4 ⊢
  rw [hpgs] at HW
  have HQ := hideIt (And.intro hpgs hlow)
  have A4 := hideIt A4
  clear CP A2 hM3 q9 hpgs hlow
  have CW := hideIt (writing_any s n pgs low T ka3 va3 n.ks.length kc3 n.vs.length vc3 _ _ _ _ _ _ _ ((HRI.out [_, _, _, _]).stv A4.out (fun a ha => by simpa using ha)) HOK.out.laid.1 hl2 HOK.out.sp2 HOK.out.spl)
  obtain ⟨ak', hak⟩ : ∃ x, (wrA s pgs).1 = x := ⟨_, rfl⟩
  obtain ⟨ap', hap⟩ : ∃ x, (wrA s pgs).2.1 = x := ⟨_, rfl⟩
  obtain ⟨av', hav⟩ : ∃ x, (wrA s pgs).2.2 = x := ⟨_, rfl⟩
  rw [hak, hap, hav] at CW
  rw [hak] at HW
  clear hak hap hav
  go_upto_region 9 with fail
  go_wp2_with (first | (refine wpList_load_row rfl 98 _ rfl _ rfl 98 _ (0, 0) _ (A4.out.block (i := 3) rfl) Tryd.underlying98 rfl infoState ?_) | (refine wpList_load_row rfl 102 _ rfl _ rfl 102 _ (0, 0) _ (A4.out.block (i := 0) rfl) Tryd.underlying102 rfl infoChange ?_))
  refine CW.out.mono ?_
  rintro e w5 ⟨rfl, hb5⟩
  have A6 := hideIt ((A4.out.below hb5).alloc #[.int .i64 ak', .int .i64 ap', .int .i64 av', .string T] 45)
  clear hb5 A4 CW
  go_upto_region 10 with fail
  generalize w5.alloc (.cells #[.int .i64 ak', .int .i64 ap', .int .i64 av', .string T] 45) = W5 at A6 ⊢
  have k0 := A6.out.cell (i := 0) rfl 0 (.int .i64 ak') rfl
  have q13 := A6.out.cell (i := 4) rfl 13 (.int .i64 s.laid) rfl
  have c5 := A6.out.cell (i := 1) rfl 5 (.int .i64 pgs) rfl
  have p1 := A6.out.cell (i := 12) rfl 1 (.int .i64 rp) rfl
  have p3 := A6.out.cell (i := 12) rfl 3 (.bool rd) rfl
  have HCC := HC.out (.slice ak s.keys.length ck) (.slice av s.vals.length cv) (.slice ab s.bel.length cb) (.slice ap s.pts.length cp) ka3 va3 ax ay kc3 vc3 cx cy T W5 (HT.out.below A6.out.bl) ⟨owns_rd (A6.out.get (i := 5) rfl), owns_rd (A6.out.get (i := 6) rfl), owns_rd (A6.out.get (i := 7) rfl), owns_rd (A6.out.get (i := 8) rfl), owns_rd (A6.out.get (i := 9) rfl), owns_rd (A6.out.get (i := 10) rfl)⟩ (owns_rd (A6.out.get (i := 2) rfl)) (owns_rd (A6.out.get (i := 3) rfl)) (row_cap (A6.out.get (i := 9) rfl)) (row_cap (A6.out.get (i := 10) rfl))
  rw [HQ.out.1, HQ.out.2] at HCC
  have HCC := hideIt HCC
  have hkb : (ak' == 3) = false := by rw [HW.out.1]; rfl
  have hlp : decide (s.laid < pgs) = false := by rw [decide_eq_false_iff_not]; have := HW.out.2; omega
  clear HC HW HQ
  go_upto_region 14 with fail
  rcases o.is with ⟨s', rfl⟩ | ⟨er, fd, va, pt, ks, vs, cs, rfl⟩
  · go_wp2_with (first | (refine wpList_load_row rfl 98 _ rfl _ rfl 98 _ (0, 0) _ (A6.out.block (i := 4) rfl) Tryd.underlying98 rfl infoState ?_) | (refine wpList_load_row rfl 102 _ rfl _ rfl 102 _ (0, 0) _ (A6.out.block (i := 1) rfl) Tryd.underlying102 rfl infoChange ?_))
    refine HCC.out.mono ?_
    rintro e w9 ⟨⟨c9, rfl, hc9⟩, hb9⟩
    have A8 := hideIt (A6.out.below hb9)
    have HC9 := hideIt hc9
    clear hc9 hb9 A6 HCC k0 q13 c5 p1 p3
    have r0 := A8.out.cell (i := 11) rfl 0 (.int .i64 0) rfl
    have f0 := A8.out.free (i := 11) rfl 0
    have r1 := A8.out.cell (i := 11) rfl 1 (.bool false) rfl
    have f1 := A8.out.free (i := 11) rfl 1
    have r2 := A8.out.cell (i := 11) rfl 2 (.int .i64 0) rfl
    have f2 := A8.out.free (i := 11) rfl 2
    have r3 := A8.out.cell (i := 11) rfl 3 (.int .i64 0) rfl
    have f3 := A8.out.free (i := 11) rfl 3
    have r4 := A8.out.cell (i := 11) rfl 4 (.slice none 0 0) rfl
    have f4 := A8.out.free (i := 11) rfl 4
    have r5 := A8.out.cell (i := 11) rfl 5 (.slice none 0 0) rfl
    have f5 := A8.out.free (i := 11) rfl 5
    have r6 := A8.out.cell (i := 11) rfl 6 (.slice none 0 0) rfl
    have f6 := A8.out.free (i := 11) rfl 6
    have S7 := hideIt (A8.out.store7 (i := 11) rfl (.int .i64 0) (.bool false) (.int .i64 0) (.int .i64 0) (.slice none 0 0) (.slice none 0 0) (.slice none 0 0))
    clear A8
    rw [show ans0 = #[.int .i64 0, .bool false, .int .i64 0, .int .i64 0, .slice none 0 0, .slice none 0 0, .slice none 0 0] from rfl]
    go_wp2
    refine bodyPost_ret (v := .tuple #[.string c9, .agg #[.int .i64 0, .bool false, .int .i64 0, .int .i64 0, .slice none 0 0, .slice none 0 0, .slice none 0 0], .bool false, .int .i64 0]) (by simp [results, Tryd.results61, go_sem, *]) rfl ?_
    exact ⟨⟨c9, rfl, HC9.out⟩, S7.out.sub (List.nil_sublist _)⟩
  · go_wp2_with (first | (refine wpList_load_row rfl 98 _ rfl _ rfl 98 _ (0, 0) _ (A6.out.block (i := 4) rfl) Tryd.underlying98 rfl infoState ?_) | (refine wpList_load_row rfl 102 _ rfl _ rfl 102 _ (0, 0) _ (A6.out.block (i := 1) rfl) Tryd.underlying102 rfl infoChange ?_))
    refine HCC.out.mono ?_
    rintro e w9 ⟨⟨rfl, rfl, rfl, rfl⟩, hb9⟩
    have A8 := hideIt (A6.out.below hb9)
    clear hb9 A6 HCC k0 q13 c5 p1 p3
    have r0 := A8.out.cell (i := 11) rfl 0 (.int .i64 0) rfl
    have f0 := A8.out.free (i := 11) rfl 0
    have r1 := A8.out.cell (i := 11) rfl 1 (.bool false) rfl
    have f1 := A8.out.free (i := 11) rfl 1
    have r2 := A8.out.cell (i := 11) rfl 2 (.int .i64 0) rfl
    have f2 := A8.out.free (i := 11) rfl 2
    have r3 := A8.out.cell (i := 11) rfl 3 (.int .i64 0) rfl
    have f3 := A8.out.free (i := 11) rfl 3
    have r4 := A8.out.cell (i := 11) rfl 4 (.slice none 0 0) rfl
    have f4 := A8.out.free (i := 11) rfl 4
    have r5 := A8.out.cell (i := 11) rfl 5 (.slice none 0 0) rfl
    have f5 := A8.out.free (i := 11) rfl 5
    have r6 := A8.out.cell (i := 11) rfl 6 (.slice none 0 0) rfl
    have f6 := A8.out.free (i := 11) rfl 6
    have S7 := hideIt (A8.out.store7 (i := 11) rfl (.int .i64 er) (.bool fd) (.int .i64 va) (.int .i64 pt) (.slice none 0 0) (.slice none 0 0) (.slice none 0 0))
    clear A8
    go_wp2
    refine bodyPost_ret (v := .tuple #[.string ⟨#[]⟩, .agg #[.int .i64 er, .bool fd, .int .i64 va, .int .i64 pt, .slice none 0 0, .slice none 0 0, .slice none 0 0], .bool true, .int .i64 0]) (by simp [results, Tryd.results61, go_sem, *]) rfl ?_
    exact ⟨_, _, _, rfl, M.consNil (M.consNil (M.consNil (S7.out.sub (List.nil_sublist _))))⟩
end Go.Proofs.YtajobgmnmbnhiaaDoor.Sap
