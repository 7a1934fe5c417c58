/- WHAT IS PROVED HERE: what tree.Tell answers where a page was to be made or written. Conditions: named at each theorem. -/
import Derived.Test.YtajobgmnmbnhiaaGreatDoorPt29
import Derived.Test.YtajobgmnmbnhiaaGreatDoorPt37
namespace Go.Proofs.YtajobgmnmbnhiaaGreatDoor.Sap
open Go.RowKit
set_option maxRecDepth 100000 in
set_option maxHeartbeats 1600000 in
theorem tell_tellFresh_pass (s : St) (n : Nd) (f rt : ByteArray) (rv rp : Int) (rd : Bool) (w : World) (htab : Tab w) (hf : f.data.toList = frT s) (hok : StOk s) (hp : PlOk n s) (hsw : s.sw ≠ ⟨#[]⟩) (hl2 : s.laid ≤ 2) (o : Res) (hC : ∀ kv vv bv pv xv yv fr1 W, M w w.heap.size W (.row 3 1 kv s.keys.length (ints s.keys) :: .row 3 1 vv s.vals.length (ints s.vals) :: .row 3 1 bv s.bel.length (ints s.bel) :: .row 3 1 pv s.pts.length (ints s.pts) :: .row 3 1 xv s.sp.length (ints s.sp) :: .row 3 1 yv s.sv.length (ints s.sv) :: fr1) → Calls Tryz.prog 69 #[.agg #[.int .i64 s.kd, .int .i64 s.key, .int .i64 s.val, .int .i64 s.step, .int .i64 s.pg, kv, vv, bv, pv, .string s.sw, .int .i64 s.ver, xv, yv, .int .i64 s.laid, .int .i64 s.lv, .int .i64 s.low, .int .i64 s.ch, .int .i64 s.pt], .int .i64 rp] W fun e w' => ResM o w w.heap.size w' fr1 e) (hw : (wrA s (pgsN n s)).1 = 3) :
    Calls Tryz.prog 47 #[.string f, .agg #[.int .i64 rv, .int .i64 rp, .string rt, .bool rd]] w fun e w' => ResM o w w.heap.size w' [] e := by
  have A0 := hideIt (((M.start w).alloc #[.int .i64 rv, .int .i64 rp, .string rt, .bool rd] 99).alloc #[.int .i64 0, .bool false, .int .i64 0, .int .i64 0, .slice none 0 0, .slice none 0 0, .slice none 0 0] 46)
  rw [alloc_size] at A0
  have CR := hideIt (fun W => readFrame_yes s f W hf hok)
  have hsb : s.sw.toList.isEmpty = false := nonempty_of hsw
  have HOK := hideIt hok
  have HP := hideIt hp
  have HT := hideIt htab
  have HC := hideIt hC
  have HW := hideIt hw
  clear hf hok hp hsw htab hC hw
  go_enter Tryz.func47, Tryz.ntmps47
  go_wp2_with fail
  refine (CR.out _).mono ?_
  rintro e w1 ⟨⟨kv, vv, bv, pv, xv, yv, hO, rfl⟩, hb⟩
  have A1 := A0.out.join (hO.m hb)
  clear hO hb CR A0
  obtain ⟨ak, ck, rfl⟩ := As.form0 (A1.get (i := 0) rfl)
  obtain ⟨av, cv, rfl⟩ := As.form0 (A1.get (i := 1) rfl)
  obtain ⟨ab, cb, rfl⟩ := As.form0 (A1.get (i := 2) rfl)
  obtain ⟨ap, cp, rfl⟩ := As.form0 (A1.get (i := 3) rfl)
  obtain ⟨ax, cx, rfl⟩ := As.form0 (A1.get (i := 4) rfl)
  obtain ⟨ay, cy, rfl⟩ := As.form0 (A1.get (i := 5) rfl)
  have A2 := hideIt (A1.alloc #[.int .i64 s.kd, .int .i64 s.key, .int .i64 s.val, .int .i64 s.step, .int .i64 s.pg, .slice ak s.keys.length ck, .slice av s.vals.length cv, .slice ab s.bel.length cb, .slice ap s.pts.length cp, .string s.sw, .int .i64 s.ver, .slice ax s.sp.length cx, .slice ay s.sv.length cy, .int .i64 s.laid, .int .i64 s.lv, .int .i64 s.low, .int .i64 s.ch, .int .i64 s.pt] 92)
  clear A1
  have q9 := A2.out.cell (i := 0) rfl 9 (.string s.sw) rfl
  have HRI : Hid (∀ l, RowsIn s (.slice ak s.keys.length ck) (.slice av s.vals.length cv) (.slice ab s.bel.length cb) (.slice ap s.pts.length cp) (.slice ax s.sp.length cx) (.slice ay s.sv.length cy) (l ++ [.row 3 1 (.slice ak s.keys.length ck) s.keys.length (ints s.keys), .row 3 1 (.slice av s.vals.length cv) s.vals.length (ints s.vals), .row 3 1 (.slice ab s.bel.length cb) s.bel.length (ints s.bel), .row 3 1 (.slice ap s.pts.length cp) s.pts.length (ints s.pts), .row 3 1 (.slice ax s.sp.length cx) s.sp.length (ints s.sp), .row 3 1 (.slice ay s.sv.length cy) s.sv.length (ints s.sv), .blk (w.heap.size + 1) #[.int .i64 0, .bool false, .int .i64 0, .int .i64 0, .slice none 0 0, .slice none 0 0, .slice none 0 0] 46, .blk w.heap.size #[.int .i64 rv, .int .i64 rp, .string rt, .bool rd] 99])) := fun l => ⟨by simp, by simp, by simp, by simp, by simp, by simp⟩
  have CP := hideIt (planned_x n s _ _ _ _ _ _ _ w _ w.heap.size HT.out rfl HOK.out HP.out A2.out (HRI.out [_]))
  go_wp2_with (refine wpList_load_row rfl 92 _ rfl _ rfl 92 _ (0, 0) _ (A2.out.block (i := 0) rfl) Tryz.underlying92 rfl infoState ?_)
  refine CP.out.mono ?_
  rintro e w3 ⟨kv3, vv3, T, rfl, -, hM3⟩
  obtain ⟨ka3, kc3, rfl⟩ := As.form0 (hM3.get (i := 0) rfl)
  obtain ⟨va3, vc3, rfl⟩ := As.form0 (hM3.get (i := 1) rfl)
  obtain ⟨pgs, hpgs⟩ : ∃ x, pgsN n s = x := ⟨_, rfl⟩
  obtain ⟨low, hlow⟩ : ∃ x, lowV n s = x := ⟨_, rfl⟩
  have A4 := hM3.alloc #[.int .i64 n.lv, .int .i64 n.lk, .int .i64 n.hi, .slice ka3 n.ks.length kc3, .slice va3 n.vs.length vc3, .int .i64 (pgsN n s), .int .i64 (lowV n s), .string T] 120
  rw [hpgs, hlow] at A4 ⊢
  rw [hpgs] at HW
  have HQ := hideIt (And.intro hpgs hlow)
  have A4 := hideIt A4
  clear CP A2 hM3 q9 hpgs hlow
  have CW := hideIt (writing_any s n pgs low T ka3 va3 n.ks.length kc3 n.vs.length vc3 _ _ _ _ _ _ _ ((HRI.out [_, _, _, _]).stv A4.out (fun a ha => by simpa using ha)) HOK.out.laid.1 hl2 HOK.out.sp2 HOK.out.spl)
  obtain ⟨ak', hak⟩ : ∃ x, (wrA s pgs).1 = x := ⟨_, rfl⟩
  obtain ⟨ap', hap⟩ : ∃ x, (wrA s pgs).2.1 = x := ⟨_, rfl⟩
  obtain ⟨av', hav⟩ : ∃ x, (wrA s pgs).2.2 = x := ⟨_, rfl⟩
  rw [hak, hap, hav] at CW
  rw [hak] at HW
  clear hak hap hav
  go_upto_region 9 with fail
  go_wp2_with (first | (refine wpList_load_row rfl 92 _ rfl _ rfl 92 _ (0, 0) _ (A4.out.block (i := 3) rfl) Tryz.underlying92 rfl infoState ?_) | (refine wpList_load_row rfl 120 _ rfl _ rfl 120 _ (0, 0) _ (A4.out.block (i := 0) rfl) Tryz.underlying120 rfl infoChange ?_))
  refine CW.out.mono ?_
  rintro e w5 ⟨rfl, hb5⟩
  have A6 := hideIt ((A4.out.below hb5).alloc #[.int .i64 ak', .int .i64 ap', .int .i64 av', .string T] 94)
  clear hb5 A4 CW
  go_upto_region 10 with fail
  generalize w5.alloc (.cells #[.int .i64 ak', .int .i64 ap', .int .i64 av', .string T] 94) = W5 at A6 ⊢
  have k0 := A6.out.cell (i := 0) rfl 0 (.int .i64 ak') rfl
  have q13 := A6.out.cell (i := 4) rfl 13 (.int .i64 s.laid) rfl
  have c5 := A6.out.cell (i := 1) rfl 5 (.int .i64 pgs) rfl
  have p1 := A6.out.cell (i := 12) rfl 1 (.int .i64 rp) rfl
  have p3 := A6.out.cell (i := 12) rfl 3 (.bool rd) rfl
  have A7 := A6.out.mvAt (pre := []) (a := [_, _, _, _, _]) (b := [_, _, _, _, _, _])
  simp only [List.nil_append, List.cons_append] at A7
  have HCC := hideIt (HC.out _ _ _ _ _ _ _ _ A7)
  clear HC A7
  have hkb : (ak' == 3) = true := by rw [HW.out]; rfl
  clear HW
  go_upto_region 11 with fail
  rcases o.is with ⟨s', rfl⟩ | ⟨er, fd, va, pt, ks, vs, cs, rfl⟩
  · go_wp2_with (refine wpList_load_row rfl 92 _ rfl _ rfl 92 _ (0, 0) _ (A6.out.block (i := 4) rfl) Tryz.underlying92 rfl infoState ?_)
    refine HCC.out.mono ?_
    rintro e w9 ⟨⟨c9, rfl, hc9⟩, hM9⟩
    have A8 := hideIt hM9
    have HC9 := hideIt hc9
    clear hc9 hM9 A6 HCC k0 q13 c5 p1 p3
    have r0 := A8.out.cell (i := 5) rfl 0 (.int .i64 0) rfl
    have f0 := A8.out.free (i := 5) rfl 0
    have r1 := A8.out.cell (i := 5) rfl 1 (.bool false) rfl
    have f1 := A8.out.free (i := 5) rfl 1
    have r2 := A8.out.cell (i := 5) rfl 2 (.int .i64 0) rfl
    have f2 := A8.out.free (i := 5) rfl 2
    have r3 := A8.out.cell (i := 5) rfl 3 (.int .i64 0) rfl
    have f3 := A8.out.free (i := 5) rfl 3
    have r4 := A8.out.cell (i := 5) rfl 4 (.slice none 0 0) rfl
    have f4 := A8.out.free (i := 5) rfl 4
    have r5 := A8.out.cell (i := 5) rfl 5 (.slice none 0 0) rfl
    have f5 := A8.out.free (i := 5) rfl 5
    have r6 := A8.out.cell (i := 5) rfl 6 (.slice none 0 0) rfl
    have f6 := A8.out.free (i := 5) rfl 6
    have S7 := hideIt (A8.out.store7 (i := 5) rfl (.int .i64 0) (.bool false) (.int .i64 0) (.int .i64 0) (.slice none 0 0) (.slice none 0 0) (.slice none 0 0))
    clear A8
    rw [show ans0 = #[.int .i64 0, .bool false, .int .i64 0, .int .i64 0, .slice none 0 0, .slice none 0 0, .slice none 0 0] from rfl]
    go_wp2
    refine bodyPost_ret (v := .tuple #[.string c9, .agg #[.int .i64 0, .bool false, .int .i64 0, .int .i64 0, .slice none 0 0, .slice none 0 0, .slice none 0 0], .bool false, .int .i64 0]) (by simp [results, Tryz.results47, go_sem, *]) rfl ?_
    exact ⟨⟨c9, rfl, HC9.out⟩, S7.out.sub (List.nil_sublist _)⟩
  · go_wp2_with (refine wpList_load_row rfl 92 _ rfl _ rfl 92 _ (0, 0) _ (A6.out.block (i := 4) rfl) Tryz.underlying92 rfl infoState ?_)
    refine HCC.out.mono ?_
    rintro e w9 ⟨kv5, vv5, cv5, rfl, hM5⟩
    obtain ⟨a5, b5, rfl⟩ := As.form0 (hM5.get (i := 0) rfl)
    obtain ⟨a6, b6, rfl⟩ := As.form0 (hM5.get (i := 1) rfl)
    obtain ⟨a7, b7, rfl⟩ := As.form0 (hM5.get (i := 2) rfl)
    have A8 := hideIt hM5
    clear hM5 A6 HCC k0 q13 c5 p1 p3
    have r0 := A8.out.cell (i := 8) rfl 0 (.int .i64 0) rfl
    have f0 := A8.out.free (i := 8) rfl 0
    have r1 := A8.out.cell (i := 8) rfl 1 (.bool false) rfl
    have f1 := A8.out.free (i := 8) rfl 1
    have r2 := A8.out.cell (i := 8) rfl 2 (.int .i64 0) rfl
    have f2 := A8.out.free (i := 8) rfl 2
    have r3 := A8.out.cell (i := 8) rfl 3 (.int .i64 0) rfl
    have f3 := A8.out.free (i := 8) rfl 3
    have r4 := A8.out.cell (i := 8) rfl 4 (.slice none 0 0) rfl
    have f4 := A8.out.free (i := 8) rfl 4
    have r5 := A8.out.cell (i := 8) rfl 5 (.slice none 0 0) rfl
    have f5 := A8.out.free (i := 8) rfl 5
    have r6 := A8.out.cell (i := 8) rfl 6 (.slice none 0 0) rfl
    have f6 := A8.out.free (i := 8) rfl 6
    have S7 := hideIt (A8.out.store7 (i := 8) rfl (.int .i64 er) (.bool fd) (.int .i64 va) (.int .i64 pt) (.slice a5 ks.length b5) (.slice a6 vs.length b6) (.slice a7 cs.length b7))
    clear A8
    go_wp2
    refine bodyPost_ret (v := .tuple #[.string ⟨#[]⟩, .agg #[.int .i64 er, .bool fd, .int .i64 va, .int .i64 pt, .slice a5 ks.length b5, .slice a6 vs.length b6, .slice a7 cs.length b7], .bool true, .int .i64 0]) (by simp [results, Tryz.results47, go_sem, *]) rfl ?_
    exact ⟨_, _, _, rfl, S7.out.sub (.cons_cons _ (.cons_cons _ (.cons_cons _ (List.nil_sublist _))))⟩
set_option maxRecDepth 100000 in
set_option maxHeartbeats 1600000 in
theorem tell_tellSpare_pass (s : St) (n : Nd) (f rt : ByteArray) (rv rp : Int) (rd : Bool) (w : World) (htab : Tab w) (hf : f.data.toList = frT s) (hok : StOk s) (hp : PlOk n s) (hsw : s.sw ≠ ⟨#[]⟩) (hl2 : s.laid ≤ 2) (o : Res) (hC : ∀ kv vv bv pv xv yv fr1 W, M w w.heap.size W (.row 3 1 kv s.keys.length (ints s.keys) :: .row 3 1 vv s.vals.length (ints s.vals) :: .row 3 1 bv s.bel.length (ints s.bel) :: .row 3 1 pv s.pts.length (ints s.pts) :: .row 3 1 xv s.sp.length (ints s.sp) :: .row 3 1 yv s.sv.length (ints s.sv) :: fr1) → Calls Tryz.prog 70 #[.agg #[.int .i64 s.kd, .int .i64 s.key, .int .i64 s.val, .int .i64 s.step, .int .i64 s.pg, kv, vv, bv, pv, .string s.sw, .int .i64 s.ver, xv, yv, .int .i64 s.laid, .int .i64 s.lv, .int .i64 s.low, .int .i64 s.ch, .int .i64 s.pt], .bool rd] W fun e w' => ResM o w w.heap.size w' fr1 e) (hw : (wrA s (pgsN n s)).1 = 2 ∧ s.laid < pgsN n s) :
    Calls Tryz.prog 47 #[.string f, .agg #[.int .i64 rv, .int .i64 rp, .string rt, .bool rd]] w fun e w' => ResM o w w.heap.size w' [] e := by
  have A0 := hideIt (((M.start w).alloc #[.int .i64 rv, .int .i64 rp, .string rt, .bool rd] 99).alloc #[.int .i64 0, .bool false, .int .i64 0, .int .i64 0, .slice none 0 0, .slice none 0 0, .slice none 0 0] 46)
  rw [alloc_size] at A0
  have CR := hideIt (fun W => readFrame_yes s f W hf hok)
  have hsb : s.sw.toList.isEmpty = false := nonempty_of hsw
  have HOK := hideIt hok
  have HP := hideIt hp
  have HT := hideIt htab
  have HC := hideIt hC
  have HW := hideIt hw
  clear hf hok hp hsw htab hC hw
  go_enter Tryz.func47, Tryz.ntmps47
  go_wp2_with fail
  refine (CR.out _).mono ?_
  rintro e w1 ⟨⟨kv, vv, bv, pv, xv, yv, hO, rfl⟩, hb⟩
  have A1 := A0.out.join (hO.m hb)
  clear hO hb CR A0
  obtain ⟨ak, ck, rfl⟩ := As.form0 (A1.get (i := 0) rfl)
  obtain ⟨av, cv, rfl⟩ := As.form0 (A1.get (i := 1) rfl)
  obtain ⟨ab, cb, rfl⟩ := As.form0 (A1.get (i := 2) rfl)
  obtain ⟨ap, cp, rfl⟩ := As.form0 (A1.get (i := 3) rfl)
  obtain ⟨ax, cx, rfl⟩ := As.form0 (A1.get (i := 4) rfl)
  obtain ⟨ay, cy, rfl⟩ := As.form0 (A1.get (i := 5) rfl)
  have A2 := hideIt (A1.alloc #[.int .i64 s.kd, .int .i64 s.key, .int .i64 s.val, .int .i64 s.step, .int .i64 s.pg, .slice ak s.keys.length ck, .slice av s.vals.length cv, .slice ab s.bel.length cb, .slice ap s.pts.length cp, .string s.sw, .int .i64 s.ver, .slice ax s.sp.length cx, .slice ay s.sv.length cy, .int .i64 s.laid, .int .i64 s.lv, .int .i64 s.low, .int .i64 s.ch, .int .i64 s.pt] 92)
  clear A1
  have q9 := A2.out.cell (i := 0) rfl 9 (.string s.sw) rfl
  have HRI : Hid (∀ l, RowsIn s (.slice ak s.keys.length ck) (.slice av s.vals.length cv) (.slice ab s.bel.length cb) (.slice ap s.pts.length cp) (.slice ax s.sp.length cx) (.slice ay s.sv.length cy) (l ++ [.row 3 1 (.slice ak s.keys.length ck) s.keys.length (ints s.keys), .row 3 1 (.slice av s.vals.length cv) s.vals.length (ints s.vals), .row 3 1 (.slice ab s.bel.length cb) s.bel.length (ints s.bel), .row 3 1 (.slice ap s.pts.length cp) s.pts.length (ints s.pts), .row 3 1 (.slice ax s.sp.length cx) s.sp.length (ints s.sp), .row 3 1 (.slice ay s.sv.length cy) s.sv.length (ints s.sv), .blk (w.heap.size + 1) #[.int .i64 0, .bool false, .int .i64 0, .int .i64 0, .slice none 0 0, .slice none 0 0, .slice none 0 0] 46, .blk w.heap.size #[.int .i64 rv, .int .i64 rp, .string rt, .bool rd] 99])) := fun l => ⟨by simp, by simp, by simp, by simp, by simp, by simp⟩
  have CP := hideIt (planned_x n s _ _ _ _ _ _ _ w _ w.heap.size HT.out rfl HOK.out HP.out A2.out (HRI.out [_]))
  go_wp2_with (refine wpList_load_row rfl 92 _ rfl _ rfl 92 _ (0, 0) _ (A2.out.block (i := 0) rfl) Tryz.underlying92 rfl infoState ?_)
  refine CP.out.mono ?_
  rintro e w3 ⟨kv3, vv3, T, rfl, -, hM3⟩
  obtain ⟨ka3, kc3, rfl⟩ := As.form0 (hM3.get (i := 0) rfl)
  obtain ⟨va3, vc3, rfl⟩ := As.form0 (hM3.get (i := 1) rfl)
  obtain ⟨pgs, hpgs⟩ : ∃ x, pgsN n s = x := ⟨_, rfl⟩
  obtain ⟨low, hlow⟩ : ∃ x, lowV n s = x := ⟨_, rfl⟩
  have A4 := hM3.alloc #[.int .i64 n.lv, .int .i64 n.lk, .int .i64 n.hi, .slice ka3 n.ks.length kc3, .slice va3 n.vs.length vc3, .int .i64 (pgsN n s), .int .i64 (lowV n s), .string T] 120
  rw [hpgs, hlow] at A4 ⊢
  rw [hpgs] at HW
  have HQ := hideIt (And.intro hpgs hlow)
  have A4 := hideIt A4
  clear CP A2 hM3 q9 hpgs hlow
  have CW := hideIt (writing_any s n pgs low T ka3 va3 n.ks.length kc3 n.vs.length vc3 _ _ _ _ _ _ _ ((HRI.out [_, _, _, _]).stv A4.out (fun a ha => by simpa using ha)) HOK.out.laid.1 hl2 HOK.out.sp2 HOK.out.spl)
  obtain ⟨ak', hak⟩ : ∃ x, (wrA s pgs).1 = x := ⟨_, rfl⟩
  obtain ⟨ap', hap⟩ : ∃ x, (wrA s pgs).2.1 = x := ⟨_, rfl⟩
  obtain ⟨av', hav⟩ : ∃ x, (wrA s pgs).2.2 = x := ⟨_, rfl⟩
  rw [hak, hap, hav] at CW
  rw [hak] at HW
  clear hak hap hav
  go_upto_region 9 with fail
  go_wp2_with (first | (refine wpList_load_row rfl 92 _ rfl _ rfl 92 _ (0, 0) _ (A4.out.block (i := 3) rfl) Tryz.underlying92 rfl infoState ?_) | (refine wpList_load_row rfl 120 _ rfl _ rfl 120 _ (0, 0) _ (A4.out.block (i := 0) rfl) Tryz.underlying120 rfl infoChange ?_))
  refine CW.out.mono ?_
  rintro e w5 ⟨rfl, hb5⟩
  have A6 := hideIt ((A4.out.below hb5).alloc #[.int .i64 ak', .int .i64 ap', .int .i64 av', .string T] 94)
  clear hb5 A4 CW
  go_upto_region 10 with fail
  generalize w5.alloc (.cells #[.int .i64 ak', .int .i64 ap', .int .i64 av', .string T] 94) = W5 at A6 ⊢
  have k0 := A6.out.cell (i := 0) rfl 0 (.int .i64 ak') rfl
  have q13 := A6.out.cell (i := 4) rfl 13 (.int .i64 s.laid) rfl
  have c5 := A6.out.cell (i := 1) rfl 5 (.int .i64 pgs) rfl
  have p1 := A6.out.cell (i := 12) rfl 1 (.int .i64 rp) rfl
  have p3 := A6.out.cell (i := 12) rfl 3 (.bool rd) rfl
  have A7 := A6.out.mvAt (pre := []) (a := [_, _, _, _, _]) (b := [_, _, _, _, _, _])
  simp only [List.nil_append, List.cons_append] at A7
  have HCC := hideIt (HC.out _ _ _ _ _ _ _ _ A7)
  clear HC A7
  have hkb : (ak' == 3) = false := by rw [HW.out.1]; rfl
  have hlp : s.laid < pgs := HW.out.2
  clear HW
  go_upto_region 13 with fail
  rcases o.is with ⟨s', rfl⟩ | ⟨er, fd, va, pt, ks, vs, cs, rfl⟩
  · go_wp2_with (refine wpList_load_row rfl 92 _ rfl _ rfl 92 _ (0, 0) _ (A6.out.block (i := 4) rfl) Tryz.underlying92 rfl infoState ?_)
    refine HCC.out.mono ?_
    rintro e w9 ⟨⟨c9, rfl, hc9⟩, hM9⟩
    have A8 := hideIt hM9
    have HC9 := hideIt hc9
    clear hc9 hM9 A6 HCC k0 q13 c5 p1 p3
    have r0 := A8.out.cell (i := 5) rfl 0 (.int .i64 0) rfl
    have f0 := A8.out.free (i := 5) rfl 0
    have r1 := A8.out.cell (i := 5) rfl 1 (.bool false) rfl
    have f1 := A8.out.free (i := 5) rfl 1
    have r2 := A8.out.cell (i := 5) rfl 2 (.int .i64 0) rfl
    have f2 := A8.out.free (i := 5) rfl 2
    have r3 := A8.out.cell (i := 5) rfl 3 (.int .i64 0) rfl
    have f3 := A8.out.free (i := 5) rfl 3
    have r4 := A8.out.cell (i := 5) rfl 4 (.slice none 0 0) rfl
    have f4 := A8.out.free (i := 5) rfl 4
    have r5 := A8.out.cell (i := 5) rfl 5 (.slice none 0 0) rfl
    have f5 := A8.out.free (i := 5) rfl 5
    have r6 := A8.out.cell (i := 5) rfl 6 (.slice none 0 0) rfl
    have f6 := A8.out.free (i := 5) rfl 6
    have S7 := hideIt (A8.out.store7 (i := 5) rfl (.int .i64 0) (.bool false) (.int .i64 0) (.int .i64 0) (.slice none 0 0) (.slice none 0 0) (.slice none 0 0))
    clear A8
    rw [show ans0 = #[.int .i64 0, .bool false, .int .i64 0, .int .i64 0, .slice none 0 0, .slice none 0 0, .slice none 0 0] from rfl]
    go_wp2
    refine bodyPost_ret (v := .tuple #[.string c9, .agg #[.int .i64 0, .bool false, .int .i64 0, .int .i64 0, .slice none 0 0, .slice none 0 0, .slice none 0 0], .bool false, .int .i64 0]) (by simp [results, Tryz.results47, go_sem, *]) rfl ?_
    exact ⟨⟨c9, rfl, HC9.out⟩, S7.out.sub (List.nil_sublist _)⟩
  · go_wp2_with (refine wpList_load_row rfl 92 _ rfl _ rfl 92 _ (0, 0) _ (A6.out.block (i := 4) rfl) Tryz.underlying92 rfl infoState ?_)
    refine HCC.out.mono ?_
    rintro e w9 ⟨kv5, vv5, cv5, rfl, hM5⟩
    obtain ⟨a5, b5, rfl⟩ := As.form0 (hM5.get (i := 0) rfl)
    obtain ⟨a6, b6, rfl⟩ := As.form0 (hM5.get (i := 1) rfl)
    obtain ⟨a7, b7, rfl⟩ := As.form0 (hM5.get (i := 2) rfl)
    have A8 := hideIt hM5
    clear hM5 A6 HCC k0 q13 c5 p1 p3
    have r0 := A8.out.cell (i := 8) rfl 0 (.int .i64 0) rfl
    have f0 := A8.out.free (i := 8) rfl 0
    have r1 := A8.out.cell (i := 8) rfl 1 (.bool false) rfl
    have f1 := A8.out.free (i := 8) rfl 1
    have r2 := A8.out.cell (i := 8) rfl 2 (.int .i64 0) rfl
    have f2 := A8.out.free (i := 8) rfl 2
    have r3 := A8.out.cell (i := 8) rfl 3 (.int .i64 0) rfl
    have f3 := A8.out.free (i := 8) rfl 3
    have r4 := A8.out.cell (i := 8) rfl 4 (.slice none 0 0) rfl
    have f4 := A8.out.free (i := 8) rfl 4
    have r5 := A8.out.cell (i := 8) rfl 5 (.slice none 0 0) rfl
    have f5 := A8.out.free (i := 8) rfl 5
    have r6 := A8.out.cell (i := 8) rfl 6 (.slice none 0 0) rfl
    have f6 := A8.out.free (i := 8) rfl 6
    have S7 := hideIt (A8.out.store7 (i := 8) rfl (.int .i64 er) (.bool fd) (.int .i64 va) (.int .i64 pt) (.slice a5 ks.length b5) (.slice a6 vs.length b6) (.slice a7 cs.length b7))
    clear A8
    go_wp2
    refine bodyPost_ret (v := .tuple #[.string ⟨#[]⟩, .agg #[.int .i64 er, .bool fd, .int .i64 va, .int .i64 pt, .slice a5 ks.length b5, .slice a6 vs.length b6, .slice a7 cs.length b7], .bool true, .int .i64 0]) (by simp [results, Tryz.results47, go_sem, *]) rfl ?_
    exact ⟨_, _, _, rfl, S7.out.sub (.cons_cons _ (.cons_cons _ (.cons_cons _ (List.nil_sublist _))))⟩
def SwR (o : Res) (e : Ending) : Prop :=
  match o with
  | .inl s' => OnR s' e
  | .inr (er, fd, va, pt, ks, vs, cs) => ks = [] ∧ vs = [] ∧ cs = [] ∧ e = .returned (.tuple #[.string ⟨#[]⟩, .agg #[.int .i64 er, .bool fd, .int .i64 va, .int .i64 pt, .slice none 0 0, .slice none 0 0, .slice none 0 0], .bool true, .int .i64 0])
theorem row_cap {w : World} {B n c : Nat} {e : TypeId} {a : Option Addr} {xs : List Value} (h : As.holds w B (.row e 1 (.slice a n c) n xs)) : n ≤ c := by
  rcases h.own.2 with ⟨h1, h2⟩ | ⟨g, cap, cur, h1, -, -, h4, -⟩
  · omega
  · injection h1 with _ _ h3; omega
set_option maxRecDepth 100000 in
set_option maxHeartbeats 1600000 in
theorem tell_swap_pass (s : St) (n : Nd) (f rt : ByteArray) (rv rp : Int) (rd : Bool) (w : World) (htab : Tab w) (hf : f.data.toList = frT s) (hok : StOk s) (hp : PlOk n s) (hsw : s.sw ≠ ⟨#[]⟩) (hl2 : s.laid ≤ 2) (o : Res) (hC : ∀ kv vv bv pv ka va ax ay kc vc cx cy T W, Tab W → StV W s kv vv bv pv (.slice ax s.sp.length cx) (.slice ay s.sv.length cy) → Rd W (.slice ka n.ks.length kc) n.ks → Rd W (.slice va n.vs.length vc) n.vs → s.sp.length ≤ cx → s.sv.length ≤ cy → Calls Tryz.prog 71 #[.agg #[.int .i64 s.kd, .int .i64 s.key, .int .i64 s.val, .int .i64 s.step, .int .i64 s.pg, kv, vv, bv, pv, .string s.sw, .int .i64 s.ver, .slice ax s.sp.length cx, .slice ay s.sv.length cy, .int .i64 s.laid, .int .i64 s.lv, .int .i64 s.low, .int .i64 s.ch, .int .i64 s.pt], .agg #[.int .i64 n.lv, .int .i64 n.lk, .int .i64 n.hi, .slice ka n.ks.length kc, .slice va n.vs.length vc, .int .i64 (pgsN n s), .int .i64 (lowV n s), .string T], .bool rd] W fun e w' => SwR o e ∧ Below W.heap.size W w') (hw : (wrA s (pgsN n s)).1 = 2 ∧ s.laid = pgsN n s) :
    Calls Tryz.prog 47 #[.string f, .agg #[.int .i64 rv, .int .i64 rp, .string rt, .bool rd]] w fun e w' => ResM o w w.heap.size w' [] e := by
  have A0 := hideIt (((M.start w).alloc #[.int .i64 rv, .int .i64 rp, .string rt, .bool rd] 99).alloc #[.int .i64 0, .bool false, .int .i64 0, .int .i64 0, .slice none 0 0, .slice none 0 0, .slice none 0 0] 46)
  rw [alloc_size] at A0
  have CR := hideIt (fun W => readFrame_yes s f W hf hok)
  have hsb : s.sw.toList.isEmpty = false := nonempty_of hsw
  have HOK := hideIt hok
  have HP := hideIt hp
  have HT := hideIt htab
  have HC := hideIt hC
  have HW := hideIt hw
  clear hf hok hp hsw htab hC hw
  go_enter Tryz.func47, Tryz.ntmps47
  go_wp2_with fail
  refine (CR.out _).mono ?_
  rintro e w1 ⟨⟨kv, vv, bv, pv, xv, yv, hO, rfl⟩, hb⟩
  have A1 := A0.out.join (hO.m hb)
  clear hO hb CR A0
  obtain ⟨ak, ck, rfl⟩ := As.form0 (A1.get (i := 0) rfl)
  obtain ⟨av, cv, rfl⟩ := As.form0 (A1.get (i := 1) rfl)
  obtain ⟨ab, cb, rfl⟩ := As.form0 (A1.get (i := 2) rfl)
  obtain ⟨ap, cp, rfl⟩ := As.form0 (A1.get (i := 3) rfl)
  obtain ⟨ax, cx, rfl⟩ := As.form0 (A1.get (i := 4) rfl)
  obtain ⟨ay, cy, rfl⟩ := As.form0 (A1.get (i := 5) rfl)
  have A2 := hideIt (A1.alloc #[.int .i64 s.kd, .int .i64 s.key, .int .i64 s.val, .int .i64 s.step, .int .i64 s.pg, .slice ak s.keys.length ck, .slice av s.vals.length cv, .slice ab s.bel.length cb, .slice ap s.pts.length cp, .string s.sw, .int .i64 s.ver, .slice ax s.sp.length cx, .slice ay s.sv.length cy, .int .i64 s.laid, .int .i64 s.lv, .int .i64 s.low, .int .i64 s.ch, .int .i64 s.pt] 92)
  clear A1
  have q9 := A2.out.cell (i := 0) rfl 9 (.string s.sw) rfl
  have HRI : Hid (∀ l, RowsIn s (.slice ak s.keys.length ck) (.slice av s.vals.length cv) (.slice ab s.bel.length cb) (.slice ap s.pts.length cp) (.slice ax s.sp.length cx) (.slice ay s.sv.length cy) (l ++ [.row 3 1 (.slice ak s.keys.length ck) s.keys.length (ints s.keys), .row 3 1 (.slice av s.vals.length cv) s.vals.length (ints s.vals), .row 3 1 (.slice ab s.bel.length cb) s.bel.length (ints s.bel), .row 3 1 (.slice ap s.pts.length cp) s.pts.length (ints s.pts), .row 3 1 (.slice ax s.sp.length cx) s.sp.length (ints s.sp), .row 3 1 (.slice ay s.sv.length cy) s.sv.length (ints s.sv), .blk (w.heap.size + 1) #[.int .i64 0, .bool false, .int .i64 0, .int .i64 0, .slice none 0 0, .slice none 0 0, .slice none 0 0] 46, .blk w.heap.size #[.int .i64 rv, .int .i64 rp, .string rt, .bool rd] 99])) := fun l => ⟨by simp, by simp, by simp, by simp, by simp, by simp⟩
  have CP := hideIt (planned_x n s _ _ _ _ _ _ _ w _ w.heap.size HT.out rfl HOK.out HP.out A2.out (HRI.out [_]))
  go_wp2_with (refine wpList_load_row rfl 92 _ rfl _ rfl 92 _ (0, 0) _ (A2.out.block (i := 0) rfl) Tryz.underlying92 rfl infoState ?_)
  refine CP.out.mono ?_
  rintro e w3 ⟨kv3, vv3, T, rfl, -, hM3⟩
  obtain ⟨ka3, kc3, rfl⟩ := As.form0 (hM3.get (i := 0) rfl)
  obtain ⟨va3, vc3, rfl⟩ := As.form0 (hM3.get (i := 1) rfl)
  obtain ⟨pgs, hpgs⟩ : ∃ x, pgsN n s = x := ⟨_, rfl⟩
  obtain ⟨low, hlow⟩ : ∃ x, lowV n s = x := ⟨_, rfl⟩
  have A4 := hM3.alloc #[.int .i64 n.lv, .int .i64 n.lk, .int .i64 n.hi, .slice ka3 n.ks.length kc3, .slice va3 n.vs.length vc3, .int .i64 (pgsN n s), .int .i64 (lowV n s), .string T] 120
  rw [hpgs, hlow] at A4 ⊢
  rw [hpgs] at HW
  have HQ := hideIt (And.intro hpgs hlow)
  have A4 := hideIt A4
  clear CP A2 hM3 q9 hpgs hlow
  have CW := hideIt (writing_any s n pgs low T ka3 va3 n.ks.length kc3 n.vs.length vc3 _ _ _ _ _ _ _ ((HRI.out [_, _, _, _]).stv A4.out (fun a ha => by simpa using ha)) HOK.out.laid.1 hl2 HOK.out.sp2 HOK.out.spl)
  obtain ⟨ak', hak⟩ : ∃ x, (wrA s pgs).1 = x := ⟨_, rfl⟩
  obtain ⟨ap', hap⟩ : ∃ x, (wrA s pgs).2.1 = x := ⟨_, rfl⟩
  obtain ⟨av', hav⟩ : ∃ x, (wrA s pgs).2.2 = x := ⟨_, rfl⟩
  rw [hak, hap, hav] at CW
  rw [hak] at HW
  clear hak hap hav
  go_upto_region 9 with fail
  go_wp2_with (first | (refine wpList_load_row rfl 92 _ rfl _ rfl 92 _ (0, 0) _ (A4.out.block (i := 3) rfl) Tryz.underlying92 rfl infoState ?_) | (refine wpList_load_row rfl 120 _ rfl _ rfl 120 _ (0, 0) _ (A4.out.block (i := 0) rfl) Tryz.underlying120 rfl infoChange ?_))
  refine CW.out.mono ?_
  rintro e w5 ⟨rfl, hb5⟩
  have A6 := hideIt ((A4.out.below hb5).alloc #[.int .i64 ak', .int .i64 ap', .int .i64 av', .string T] 94)
  clear hb5 A4 CW
  go_upto_region 10 with fail
  generalize w5.alloc (.cells #[.int .i64 ak', .int .i64 ap', .int .i64 av', .string T] 94) = W5 at A6 ⊢
  have k0 := A6.out.cell (i := 0) rfl 0 (.int .i64 ak') rfl
  have q13 := A6.out.cell (i := 4) rfl 13 (.int .i64 s.laid) rfl
  have c5 := A6.out.cell (i := 1) rfl 5 (.int .i64 pgs) rfl
  have p1 := A6.out.cell (i := 12) rfl 1 (.int .i64 rp) rfl
  have p3 := A6.out.cell (i := 12) rfl 3 (.bool rd) rfl
  have HCC := HC.out (.slice ak s.keys.length ck) (.slice av s.vals.length cv) (.slice ab s.bel.length cb) (.slice ap s.pts.length cp) ka3 va3 ax ay kc3 vc3 cx cy T W5 (HT.out.below A6.out.bl) ⟨owns_rd (A6.out.get (i := 5) rfl), owns_rd (A6.out.get (i := 6) rfl), owns_rd (A6.out.get (i := 7) rfl), owns_rd (A6.out.get (i := 8) rfl), owns_rd (A6.out.get (i := 9) rfl), owns_rd (A6.out.get (i := 10) rfl)⟩ (owns_rd (A6.out.get (i := 2) rfl)) (owns_rd (A6.out.get (i := 3) rfl)) (row_cap (A6.out.get (i := 9) rfl)) (row_cap (A6.out.get (i := 10) rfl))
  rw [HQ.out.1, HQ.out.2] at HCC
  have HCC := hideIt HCC
  have hkb : (ak' == 3) = false := by rw [HW.out.1]; rfl
  have hlp : decide (s.laid < pgs) = false := by rw [decide_eq_false_iff_not]; have := HW.out.2; omega
  clear HC HW HQ
  go_upto_region 14 with fail
  rcases o.is with ⟨s', rfl⟩ | ⟨er, fd, va, pt, ks, vs, cs, rfl⟩
  · go_wp2_with (first | (refine wpList_load_row rfl 92 _ rfl _ rfl 92 _ (0, 0) _ (A6.out.block (i := 4) rfl) Tryz.underlying92 rfl infoState ?_) | (refine wpList_load_row rfl 120 _ rfl _ rfl 120 _ (0, 0) _ (A6.out.block (i := 1) rfl) Tryz.underlying120 rfl infoChange ?_))
    refine HCC.out.mono ?_
    rintro e w9 ⟨⟨c9, rfl, hc9⟩, hb9⟩
    have A8 := hideIt (A6.out.below hb9)
    have HC9 := hideIt hc9
    clear hc9 hb9 A6 HCC k0 q13 c5 p1 p3
    have r0 := A8.out.cell (i := 11) rfl 0 (.int .i64 0) rfl
    have f0 := A8.out.free (i := 11) rfl 0
    have r1 := A8.out.cell (i := 11) rfl 1 (.bool false) rfl
    have f1 := A8.out.free (i := 11) rfl 1
    have r2 := A8.out.cell (i := 11) rfl 2 (.int .i64 0) rfl
    have f2 := A8.out.free (i := 11) rfl 2
    have r3 := A8.out.cell (i := 11) rfl 3 (.int .i64 0) rfl
    have f3 := A8.out.free (i := 11) rfl 3
    have r4 := A8.out.cell (i := 11) rfl 4 (.slice none 0 0) rfl
    have f4 := A8.out.free (i := 11) rfl 4
    have r5 := A8.out.cell (i := 11) rfl 5 (.slice none 0 0) rfl
    have f5 := A8.out.free (i := 11) rfl 5
    have r6 := A8.out.cell (i := 11) rfl 6 (.slice none 0 0) rfl
    have f6 := A8.out.free (i := 11) rfl 6
    have S7 := hideIt (A8.out.store7 (i := 11) rfl (.int .i64 0) (.bool false) (.int .i64 0) (.int .i64 0) (.slice none 0 0) (.slice none 0 0) (.slice none 0 0))
    clear A8
    rw [show ans0 = #[.int .i64 0, .bool false, .int .i64 0, .int .i64 0, .slice none 0 0, .slice none 0 0, .slice none 0 0] from rfl]
    go_wp2
    refine bodyPost_ret (v := .tuple #[.string c9, .agg #[.int .i64 0, .bool false, .int .i64 0, .int .i64 0, .slice none 0 0, .slice none 0 0, .slice none 0 0], .bool false, .int .i64 0]) (by simp [results, Tryz.results47, go_sem, *]) rfl ?_
    exact ⟨⟨c9, rfl, HC9.out⟩, S7.out.sub (List.nil_sublist _)⟩
  · go_wp2_with (first | (refine wpList_load_row rfl 92 _ rfl _ rfl 92 _ (0, 0) _ (A6.out.block (i := 4) rfl) Tryz.underlying92 rfl infoState ?_) | (refine wpList_load_row rfl 120 _ rfl _ rfl 120 _ (0, 0) _ (A6.out.block (i := 1) rfl) Tryz.underlying120 rfl infoChange ?_))
    refine HCC.out.mono ?_
    rintro e w9 ⟨⟨rfl, rfl, rfl, rfl⟩, hb9⟩
    have A8 := hideIt (A6.out.below hb9)
    clear hb9 A6 HCC k0 q13 c5 p1 p3
    have r0 := A8.out.cell (i := 11) rfl 0 (.int .i64 0) rfl
    have f0 := A8.out.free (i := 11) rfl 0
    have r1 := A8.out.cell (i := 11) rfl 1 (.bool false) rfl
    have f1 := A8.out.free (i := 11) rfl 1
    have r2 := A8.out.cell (i := 11) rfl 2 (.int .i64 0) rfl
    have f2 := A8.out.free (i := 11) rfl 2
    have r3 := A8.out.cell (i := 11) rfl 3 (.int .i64 0) rfl
    have f3 := A8.out.free (i := 11) rfl 3
    have r4 := A8.out.cell (i := 11) rfl 4 (.slice none 0 0) rfl
    have f4 := A8.out.free (i := 11) rfl 4
    have r5 := A8.out.cell (i := 11) rfl 5 (.slice none 0 0) rfl
    have f5 := A8.out.free (i := 11) rfl 5
    have r6 := A8.out.cell (i := 11) rfl 6 (.slice none 0 0) rfl
    have f6 := A8.out.free (i := 11) rfl 6
    have S7 := hideIt (A8.out.store7 (i := 11) rfl (.int .i64 er) (.bool fd) (.int .i64 va) (.int .i64 pt) (.slice none 0 0) (.slice none 0 0) (.slice none 0 0))
    clear A8
    go_wp2
    refine bodyPost_ret (v := .tuple #[.string ⟨#[]⟩, .agg #[.int .i64 er, .bool fd, .int .i64 va, .int .i64 pt, .slice none 0 0, .slice none 0 0, .slice none 0 0], .bool true, .int .i64 0]) (by simp [results, Tryz.results47, go_sem, *]) rfl ?_
    exact ⟨_, _, _, rfl, M.consNil (M.consNil (M.consNil (S7.out.sub (List.nil_sublist _))))⟩
def cg (n : Nd) (k key v : Int) : Nd := ⟨n.lv, n.lk, n.hi, chK n k key, chV n k key v⟩
structure ChI (n : Nd) (k key v : Int) : Prop where
  rt : rightB n = true
  kd : k = 2 ∨ k = 3
  k1 : 1 ≤ key
  kh : key < n.hi
  v0 : n.lv = 0 → k = 2 → 0 ≤ v ∧ v ≤ 9999
  v1 : 0 < n.lv → k = 2 ∧ 1 ≤ v ∧ v ≤ 63
theorem head_min {l : List Int} {a : Int} (hp : l.Pairwise (· < ·)) (ha : a ∈ l) (hm : ∀ x ∈ l, a ≤ x) : l.head? = some a := by
  cases l with
  | nil => cases ha
  | cons x r =>
    rcases List.mem_cons.1 ha with rfl | h
    · rfl
    · have h1 := (List.pairwise_cons.1 hp).1 a h
      have h2 := hm x (by simp)
      omega
theorem right_least (n : Nd) (h : rightB n = true) : ∀ k ∈ n.ks, least n.lv ≤ k ∧ k < n.hi := by
  unfold rightB at h
  simp only [Bool.and_eq_true, decide_eq_true_eq] at h
  exact keysOk_all _ _ _ h.2.2.2.2.2.1
theorem cg_len {n : Nd} {k key v : Int} (h : ChI n k key v) : (cg n k key v).ks.length = (cg n k key v).vs.length := (ch_zip n k key v (right_bd n h.rt).2.2.2.1).1
theorem cg_ent {n : Nd} {k key v : Int} (h : ChI n k key v) {e : Int × Int} (he : e ∈ ent (cg n k key v)) : e ∈ ent n ∨ (k = 2 ∧ e = (key, v)) := by
  unfold ent cg at he
  simp only at he
  rw [(ch_zip n k key v (right_bd n h.rt).2.2.2.1).2] at he
  rcases List.mem_append.1 he with he | he
  · rcases List.mem_append.1 he with he | he
    · exact Or.inl (List.mem_filter.1 he).1
    · split at he
      · rename_i hk; rw [List.mem_singleton] at he; exact Or.inr ⟨hk, he⟩
      · cases he
  · exact Or.inl (List.mem_filter.1 he).1
theorem cg_ks {n : Nd} {k key v : Int} (h : ChI n k key v) (q : Int) : q ∈ (cg n k key v).ks ↔ (q ∈ n.ks ∧ q ≠ key) ∨ (k = 2 ∧ q = key) := by
  have hb := right_kb n h.rt
  show q ∈ chK n k key ↔ _
  rw [chK_eq n k key v (right_bd n h.rt).2.2.2.1, List.mem_append, List.mem_append, List.mem_filter, List.mem_filter]
  simp only [Bool.and_eq_true, decide_eq_true_eq]
  constructor
  · rintro ((⟨h1, h2⟩ | h1) | ⟨h1, h2⟩)
    · exact Or.inl ⟨h1, by omega⟩
    · split at h1
      · rename_i hk; rw [List.mem_singleton] at h1; exact Or.inr ⟨hk, h1⟩
      · cases h1
    · exact Or.inl ⟨h1, by omega⟩
  · rintro (⟨h1, h2⟩ | ⟨h1, h2⟩)
    · have := hb q h1
      by_cases hq : q < key
      · exact Or.inl (Or.inl ⟨h1, by omega⟩)
      · exact Or.inr ⟨h1, by omega⟩
    · exact Or.inl (Or.inr (by rw [if_pos h1]; simp [h2]))
theorem cg_pw {n : Nd} {k key v : Int} (h : ChI n k key v) : (cg n k key v).ks.Pairwise (· < ·) := by
  have hpw := right_pw n h.rt
  show (chK n k key).Pairwise _
  rw [chK_eq n k key v (right_bd n h.rt).2.2.2.1, List.pairwise_append, List.pairwise_append]
  refine ⟨⟨hpw.filter _, by split <;> simp, fun a ha b hb => ?_⟩, hpw.filter _, fun a ha b hb => ?_⟩
  · have := (List.mem_filter.1 ha).2
    simp only [Bool.and_eq_true, decide_eq_true_eq] at this
    split at hb
    · rw [List.mem_singleton] at hb; omega
    · cases hb
  · have h8 := (List.mem_filter.1 hb).2
    simp only [Bool.and_eq_true, decide_eq_true_eq] at h8
    rcases List.mem_append.1 ha with ha | ha
    · have := (List.mem_filter.1 ha).2
      simp only [Bool.and_eq_true, decide_eq_true_eq] at this
      omega
    · split at ha
      · rw [List.mem_singleton] at ha; omega
      · cases ha
theorem cg_count {n : Nd} {k key v : Int} (h : ChI n k key v) : (cg n k key v).ks.length ≤ n.ks.length + 1 ∧ (key ∈ n.ks ∨ k = 3 → (cg n k key v).ks.length ≤ n.ks.length) := by
  have hc := cnt3 n.ks key n.hi
  show (chK n k key).length ≤ _ ∧ (_ → (chK n k key).length ≤ _)
  rw [chK_eq n k key v (right_bd n h.rt).2.2.2.1, List.length_append, List.length_append]
  have h1 : (if k = 2 then [key] else []).length ≤ 1 := by split <;> simp
  refine ⟨by omega, fun hh => ?_⟩
  rcases hh with hm | hk
  · have : 0 < (n.ks.filter (fun q => decide (q = key))).length := List.length_pos_of_mem (List.mem_filter.2 ⟨hm, by simp⟩)
    omega
  · have : (if k = 2 then [key] else []).length = 0 := by rw [if_neg (by omega)]; rfl
    omega
theorem cg_bd {n : Nd} {k key v : Int} (h : ChI n k key v) : ∀ q ∈ (cg n k key v).ks, least n.lv ≤ q ∧ q < n.hi := by
  intro q hq
  have h1 := h.k1
  have h2 := h.kh
  have h3 : least n.lv ≤ 1 := by unfold least; split <;> omega
  rcases (cg_ks h q).1 hq with ⟨h4, -⟩ | ⟨-, rfl⟩
  · exact right_least n h.rt q h4
  · omega
theorem right_vals (n : Nd) (h : rightB n = true) : ∀ x ∈ n.vs, valOk n.lv x = true := by
  unfold rightB at h
  simp only [Bool.and_eq_true, decide_eq_true_eq] at h
  exact (valsOk_iff _ _).1 h.2.2.2.2.2.2
theorem zip_val {ks vs : List Int} (hl : ks.length = vs.length) {x : Int} (hx : x ∈ vs) : ∃ q, (q, x) ∈ ks.zip vs := by
  obtain ⟨i, hi, rfl⟩ := List.mem_iff_getElem.1 hx
  exact ⟨ks[i]'(by omega), List.mem_iff_getElem.2 ⟨i, by simp; omega, by simp⟩⟩
theorem cg_val {n : Nd} {k key v : Int} (h : ChI n k key v) {e : Int × Int} (he : e ∈ ent (cg n k key v)) : valOk n.lv e.2 = true := by
  rcases cg_ent h he with h1 | ⟨hk, rfl⟩
  · exact right_vals n h.rt _ (ent_key h1).2
  · unfold valOk
    have hl0 := (right_bd n h.rt).1
    split
    · rename_i h0
      have := h.v0 h0 hk
      simp; omega
    · rename_i h0
      have := h.v1 (by omega)
      unfold pageOk
      simp; omega
theorem right_mk {n : Nd} (h0 : 0 ≤ n.lv) (h9 : n.lv ≤ 9) (he : endOk n.lk n.hi = true) (hl : n.ks.length = n.vs.length) (hc : cntOk n.lv n.ks.length = true) (hp : n.ks.Pairwise (· < ·)) (hb : ∀ q ∈ n.ks, least n.lv ≤ q ∧ q < n.hi) (hv : ∀ e ∈ ent n, valOk n.lv e.2 = true) : rightB n = true := by
  unfold rightB
  simp only [Bool.and_eq_true, decide_eq_true_eq]
  refine ⟨h0, h9, he, hl, hc, keysOk_mk _ _ _ hp hb, (valsOk_iff _ _).2 fun x hx => ?_⟩
  obtain ⟨q, hq⟩ := zip_val hl hx
  exact hv (q, x) hq
theorem right_end (n : Nd) (h : rightB n = true) : endOk n.lk n.hi = true := by
  unfold rightB at h
  simp only [Bool.and_eq_true, decide_eq_true_eq] at h
  exact h.2.2.1
theorem cg_right {n : Nd} {k key v : Int} (h : ChI n k key v) (hc : crowd n.lv (cg n k key v).ks.length = false) : rightB (cg n k key v) = true := by
  have hb := right_bd n h.rt
  refine right_mk hb.1 hb.2.1 (right_end n h.rt) (cg_len h) ?_ (cg_pw h) (cg_bd h) fun e he => cg_val h he
  show cntOk n.lv ((cg n k key v).ks.length : Int) = true
  unfold crowd at hc
  unfold cntOk
  by_cases h0 : n.lv = 0
  · rw [if_pos h0] at hc ⊢
    have := of_decide_eq_false hc
    simp; omega
  · rw [if_neg h0] at hc ⊢
    have := of_decide_eq_false hc
    have hv := h.v1 (by omega)
    have : 0 < (cg n k key v).ks.length := List.length_pos_of_mem ((cg_ks h key).2 (Or.inr ⟨hv.1, rfl⟩))
    simp; omega
theorem cg_look {n : Nd} {k key v : Int} (h : ChI n k key v) (q : Int) : lmap (cg n k key v) q = upd k key v (lmap n) q :=
  ch_look n k key v (right_bd n h.rt).2.2.2.1 (right_kb n h.rt) h.kd q
theorem crowd_len {n : Nd} {k key v : Int} (h : ChI n k key v) (hc : crowd n.lv (cg n k key v).ks.length = true) : (n.lv = 0 → (cg n k key v).ks.length = 6) ∧ (n.lv ≠ 0 → (cg n k key v).ks.length = 7) ∧ key ∉ n.ks ∧ k = 2 := by
  have h1 := cg_count h
  have hb := right_bd n h.rt
  unfold crowd at hc
  have key' : ∀ m, m < (cg n k key v).ks.length → n.ks.length ≤ m → key ∉ n.ks ∧ k = 2 := fun m h2 h3 => by
    refine ⟨fun h4 => ?_, ?_⟩
    · have := h1.2 (Or.inl h4); omega
    · rcases h.kd with h4 | h4
      · exact h4
      · have := h1.2 (Or.inr h4); omega
  by_cases h0 : n.lv = 0
  · rw [if_pos h0] at hc
    have h2 := of_decide_eq_true hc
    have h3 := hb.2.2.2.2.2.1 h0
    exact ⟨fun _ => by omega, fun h4 => absurd h0 h4, key' 5 h2 h3⟩
  · rw [if_neg h0] at hc
    have h2 := of_decide_eq_true hc
    have h3 := hb.2.2.2.2.1
    exact ⟨fun h4 => absurd h4 h0, fun _ => by omega, key' 6 h2 h3⟩
theorem tk_ks (ks vs : List Int) (l h : Int) (hl : ks.length = vs.length) : tkK ks l h [] ks.length = ks.filter (fun q => decide (l ≤ q) && decide (q < h)) := by
  obtain ⟨h1, h2⟩ := tk_zip ks vs l h [] [] rfl hl ks.length (Nat.le_refl _)
  have h3 := congrArg (List.map Prod.fst) h2
  rw [List.map_fst_zip (by omega), List.take_of_length_le (by simp; omega)] at h3
  rw [h3]
  simp only [List.zip_nil_left, List.nil_append]
  have : ks = (ks.zip vs).map Prod.fst := (List.map_fst_zip (by omega)).symm
  conv => rhs; rw [this]
  rw [List.filter_map]; rfl
theorem tk_en (ks vs : List Int) (l h : Int) (hl : ks.length = vs.length) : (tkK ks l h [] ks.length).length = (tkV ks vs l h [] ks.length).length ∧ (tkK ks l h [] ks.length).zip (tkV ks vs l h [] ks.length) = (ks.zip vs).filter (fun x => (fun q => decide (l ≤ q) && decide (q < h)) x.1) := by
  obtain ⟨h1, h2⟩ := tk_zip ks vs l h [] [] rfl hl ks.length (Nat.le_refl _)
  rw [List.take_of_length_le (by simp; omega)] at h2
  exact ⟨h1, by simpa using h2⟩
theorem filter_lt {l : List Int} {P : Int → Bool} {a : Int} (ha : a ∈ l) (hp : P a = false) : (l.filter P).length < l.length := by
  rcases Nat.lt_or_ge (l.filter P).length l.length with h | h
  · exact h
  · have h1 : l.filter P = l := List.filter_sublist.eq_of_length_le h
    have h2 := List.filter_eq_self.1 h1 a ha
    rw [hp] at h2; cases h2
structure Halves (n : Nd) (k key v low : Int) : Prop where
  i : ChI n k key v
  cr : crowd n.lv (cg n k key v).ks.length = true
  lw : ∃ j, 0 < j ∧ (cg n k key v).ks[j]? = some low
theorem Halves.mem {n : Nd} {k key v low : Int} (h : Halves n k key v low) : low ∈ (cg n k key v).ks ∧ (∃ a ∈ (cg n k key v).ks, a < low) ∧ 1 ≤ low ∧ low < n.hi := by
  obtain ⟨j, hj, hl⟩ := h.lw
  obtain ⟨hj1, hj2⟩ := List.getElem?_eq_some_iff.1 hl
  have h0 := List.pairwise_iff_getElem.1 (cg_pw h.i) 0 j (by omega) hj1 hj
  rw [hj2] at h0
  have h1 : (cg n k key v).ks[0]'(by omega) ∈ (cg n k key v).ks := List.getElem_mem _
  have h2 := cg_bd h.i _ h1
  have hm : low ∈ (cg n k key v).ks := List.mem_of_getElem? hl
  have h3 := cg_bd h.i _ hm
  have h4 : 0 ≤ least n.lv := by unfold least; split <;> omega
  exact ⟨hm, ⟨_, h1, h0⟩, by omega, h3.2⟩
theorem Halves.cnt {n : Nd} {k key v low : Int} (h : Halves n k key v low) {P : Int → Bool} {a b : Int} (ha : a ∈ (cg n k key v).ks) (hpa : P a = false) (hb : b ∈ (cg n k key v).ks) (hpb : P b = true) : cntOk n.lv (((cg n k key v).ks.filter P).length : Int) = true := by
  have h1 := filter_lt ha hpa
  have h2 : 0 < ((cg n k key v).ks.filter P).length := List.length_pos_of_mem (List.mem_filter.2 ⟨hb, hpb⟩)
  obtain ⟨h3, h4, -⟩ := crowd_len h.i h.cr
  unfold cntOk
  by_cases h0 : n.lv = 0
  · rw [if_pos h0]; have := h3 h0; simp; omega
  · rw [if_neg h0]; have := h4 h0; simp; omega
theorem Halves.ksR {n : Nd} {k key v low : Int} (h : Halves n k key v low) : (rgtN (cg n k key v) low).ks = (cg n k key v).ks.filter (fun q => decide (low ≤ q) && decide (q < n.hi)) := tk_ks _ _ _ _ (cg_len h.i)
theorem Halves.ksL {n : Nd} {k key v low : Int} (h : Halves n k key v low) (r : Int) : (lftN (cg n k key v) low r).ks = (cg n k key v).ks.filter (fun q => decide (0 ≤ q) && decide (q < low)) := tk_ks _ _ _ _ (cg_len h.i)
theorem Halves.enR {n : Nd} {k key v low : Int} (h : Halves n k key v low) : ent (rgtN (cg n k key v) low) = (ent (cg n k key v)).filter (fun x => (fun q => decide (low ≤ q) && decide (q < n.hi)) x.1) := (tk_en _ _ _ _ (cg_len h.i)).2
theorem Halves.enL {n : Nd} {k key v low : Int} (h : Halves n k key v low) (r : Int) : ent (lftN (cg n k key v) low r) = (ent (cg n k key v)).filter (fun x => (fun q => decide (0 ≤ q) && decide (q < low)) x.1) := (tk_en _ _ _ _ (cg_len h.i)).2
theorem Halves.rtR {n : Nd} {k key v low : Int} (h : Halves n k key v low) : rightB (rgtN (cg n k key v) low) = true := by
  have hb := right_bd n h.i.rt
  obtain ⟨hm, ⟨a, ha, hal⟩, h1, h2⟩ := h.mem
  refine right_mk hb.1 hb.2.1 (right_end n h.i.rt) (tk_en _ _ _ _ (cg_len h.i)).1 ?_ ?_ ?_ fun e he => ?_
  · rw [h.ksR]
    refine h.cnt ha ?_ hm ?_
    · simp; omega
    · simp; omega
  · rw [h.ksR]; exact (cg_pw h.i).filter _
  · rw [h.ksR]; exact fun q hq => cg_bd h.i q (List.mem_filter.1 hq).1
  · rw [h.enR] at he
    exact cg_val h.i (List.mem_filter.1 he).1
theorem Halves.rtL {n : Nd} {k key v low : Int} (h : Halves n k key v low) {r : Int} (hr1 : 1 ≤ r) (hr2 : r ≤ 63) : rightB (lftN (cg n k key v) low r) = true := by
  have hb := right_bd n h.i.rt
  obtain ⟨hm, ⟨a, ha, hal⟩, h1, h2⟩ := h.mem
  have hh := right_hi n h.i.rt
  have ha0 := cg_bd h.i a ha
  have h4 : 0 ≤ least n.lv := by unfold least; split <;> omega
  refine right_mk hb.1 hb.2.1 ?_ (tk_en _ _ _ _ (cg_len h.i)).1 ?_ ?_ ?_ fun e he => ?_
  · show endOk r low = true
    unfold endOk pageOk
    rw [if_neg (by omega)]
    simp; omega
  · rw [h.ksL]
    refine h.cnt hm ?_ ha ?_
    · simp
    · simp; omega
  · rw [h.ksL]; exact (cg_pw h.i).filter _
  · rw [h.ksL]
    intro q hq
    obtain ⟨h5, h6⟩ := List.mem_filter.1 hq
    simp only [Bool.and_eq_true, decide_eq_true_eq] at h6
    exact ⟨(cg_bd h.i q h5).1, h6.2⟩
  · rw [h.enL] at he
    exact cg_val h.i (List.mem_filter.1 he).1
theorem Halves.rtT {n : Nd} {k key v low : Int} (h : Halves n k key v low) (h9 : n.lv < 9) {l r : Int} (hl1 : 1 ≤ l) (hl2 : l ≤ 63) (hr1 : 1 ≤ r) (hr2 : r ≤ 63) : rightB (topN (cg n k key v) low l r) = true := by
  have hb := right_bd n h.i.rt
  obtain ⟨hm, -, h1, h2⟩ := h.mem
  have hh := right_hi n h.i.rt
  have hlv : (topN (cg n k key v) low l r).lv = n.lv + 1 := rfl
  have hle : least (n.lv + 1) = 0 := by unfold least; rw [if_neg (by omega)]
  refine right_mk (by rw [hlv]; omega) (by rw [hlv]; omega) rfl rfl ?_ ?_ ?_ fun e he => ?_
  · show cntOk (n.lv + 1) 2 = true
    unfold cntOk; rw [if_neg (by omega)]; rfl
  · show [0, low].Pairwise _
    simp; omega
  · show ∀ q ∈ [0, low], least (n.lv + 1) ≤ q ∧ q < 10000
    rw [hle]
    intro q hq
    simp at hq
    omega
  · show valOk (n.lv + 1) e.2 = true
    have he2 : e ∈ [(0, l), (low, r)] := he
    unfold valOk pageOk
    rw [if_neg (by omega)]
    simp at he2
    rcases he2 with rfl | rfl <;> simp <;> omega
theorem Halves.lkR {n : Nd} {k key v low : Int} (h : Halves n k key v low) (q : Int) (hq : low ≤ q) : lmap (rgtN (cg n k key v) low) q = upd k key v (lmap n) q := by
  rw [← cg_look h.i]
  show look (ent (rgtN (cg n k key v) low)) q = look (ent (cg n k key v)) q
  rw [h.enR, look_filter (fun q => decide (low ≤ q) && decide (q < n.hi))]
  by_cases hh : q < n.hi
  · rw [if_pos (by simp; omega)]
  · rw [if_neg (by simp; omega)]
    exact (look_none fun x hx e => hh (by rw [← e]; exact (cg_bd h.i _ (ent_key hx).1).2)).symm
theorem Halves.lkL {n : Nd} {k key v low : Int} (h : Halves n k key v low) (r : Int) (q : Int) (hq : q < low) : lmap (lftN (cg n k key v) low r) q = upd k key v (lmap n) q := by
  rw [← cg_look h.i]
  show look (ent (lftN (cg n k key v) low r)) q = look (ent (cg n k key v)) q
  rw [h.enL, look_filter (fun q => decide (0 ≤ q) && decide (q < low))]
  by_cases hh : 0 ≤ q
  · rw [if_pos (by simp; omega)]
  · rw [if_neg (by simp; omega)]
    refine (look_none fun x hx e => hh ?_).symm
    have h4 : 0 ≤ least n.lv := by unfold least; split <;> omega
    have := (cg_bd h.i _ (ent_key hx).1).1
    omega
structure CgAt (t : Tre) (p : Nat) (k key v : Int) : Prop where
  inn : t.inn p
  i : ChI (t.nd p) k key v
  lo : t.low p ≤ key
  kid : 0 < (t.nd p).lv → t.kid (t.nd p).lv (key, v)
theorem CgAt.ge {t : Tre} {p : Nat} {k key v : Int} (h : CgAt t p k key v) (T : t.Ok) : ∀ q ∈ (cg (t.nd p) k key v).ks, t.low p ≤ q := fun q hq => by
  rcases (cg_ks h.i q).1 hq with ⟨h1, -⟩ | ⟨-, rfl⟩
  · exact T.ks p h.inn q h1
  · exact h.lo
theorem CgAt.fst {t : Tre} {p : Nat} {k key v : Int} (h : CgAt t p k key v) (T : t.Ok) (h0 : 0 < (t.nd p).lv) : t.low p ∈ (cg (t.nd p) k key v).ks := by
  have h1 := T.fst p h.inn h0
  have h2 : t.low p ∈ (t.nd p).ks := List.mem_of_head? h1
  rw [cg_ks h.i]
  by_cases e : t.low p = key
  · exact Or.inr ⟨(h.i.v1 h0).1, e⟩
  · exact Or.inl ⟨h2, e⟩
theorem CgAt.chd {t : Tre} {p : Nat} {k key v : Int} (h : CgAt t p k key v) (T : t.Ok) (h0 : 0 < (t.nd p).lv) : ∀ e ∈ ent (cg (t.nd p) k key v), t.kid (t.nd p).lv e := fun e he => by
  rcases cg_ent h.i he with h1 | ⟨-, rfl⟩
  · exact T.chd p h.inn h0 e h1
  · exact h.kid h0
theorem CgAt.putOk {t : Tre} {p : Nat} {k key v : Int} (h : CgAt t p k key v) (T : t.Ok) (hc : crowd (t.nd p).lv (cg (t.nd p) k key v).ks.length = false) : t.PutOk p (cg (t.nd p) k key v) :=
  ⟨h.inn, rfl, rfl, rfl, cg_right h.i hc, h.ge T, fun h0 => head_min (cg_pw h.i) (h.fst T h0) (h.ge T), h.chd T⟩
theorem CgAt.splitOk {t : Tre} {p r : Nat} {k key v low : Int} (h : CgAt t p k key v) (T : t.Ok) (hv : Halves (t.nd p) k key v low) (p0 : p ≠ 0) (hr : ¬ t.inn r) (r1 : 1 ≤ r) (r64 : r < 64) : t.SplitOk p r (lftN (cg (t.nd p) k key v) low r) (rgtN (cg (t.nd p) k key v) low) low := by
  obtain ⟨hm, ⟨a, ha, hal⟩, h1, h2⟩ := hv.mem
  have hla := h.ge T a ha
  have hl0 := (T.lo p h.inn).1
  refine ⟨p0, h.inn, hr, r64, rfl, rfl, rfl, rfl, rfl, rfl, by omega, h2, hv.rtL (by omega) (by omega), hv.rtR, fun q hq => ?_, fun q hq => ?_, fun h0 => ?_, fun h0 => ?_, fun h0 e he => ?_, fun h0 e he => ?_⟩
  · rw [hv.ksL] at hq; exact h.ge T q (List.mem_filter.1 hq).1
  · rw [hv.ksR] at hq
    have := (List.mem_filter.1 hq).2
    simp only [Bool.and_eq_true, decide_eq_true_eq] at this
    exact this.1
  · rw [hv.ksL]
    refine head_min ((cg_pw h.i).filter _) (List.mem_filter.2 ⟨h.fst T h0, by simp; omega⟩) fun x hx => h.ge T x (List.mem_filter.1 hx).1
  · rw [hv.ksR]
    refine head_min ((cg_pw h.i).filter _) (List.mem_filter.2 ⟨hm, by simp; omega⟩) fun x hx => ?_
    have := (List.mem_filter.1 hx).2
    simp only [Bool.and_eq_true, decide_eq_true_eq] at this
    exact this.1
  · rw [hv.enL] at he
    exact h.chd T h0 e (List.mem_filter.1 he).1
  · rw [hv.enR] at he
    exact h.chd T h0 e (List.mem_filter.1 he).1
def aft (lv k key v : Int) (mp : Int → Option Int) : Int → Option Int := if lv = 0 then upd k key v mp else mp
structure Turn (t t' : Tre) (p : Nat) (n : Nd) (N : Nat → Nd → Prop) (mp mp' : Int → Option Int) : Prop where
  ok : t'.Ok
  gr : Grows t t'
  lf : Leafs t mp → Leafs t' mp'
  at_ : t'.nd p = n
  old : ∀ q, t.inn q → q ≠ p → t'.nd q = t.nd q
  new : ∀ q, t'.inn q → t.inn q ∨ N q (t'.nd q)
  lvp : p ≠ 0 → n.lv = (t.nd p).lv
theorem turn_put {t : Tre} {p : Nat} {k key v : Int} (h : CgAt t p k key v) (T : t.Ok) (hc : crowd (t.nd p).lv (cg (t.nd p) k key v).ks.length = false) (mp : Int → Option Int) :
    Turn t (t.put p (cg (t.nd p) k key v)) p (cg (t.nd p) k key v) (fun _ _ => False) mp (aft (t.nd p).lv k key v mp) := by
  obtain ⟨h1, h2⟩ := T.put (h.putOk T hc)
  refine ⟨h1, h2, fun L => ?_, t.put_self _ _, fun q _ hq => t.put_ne _ hq, fun q hq => Or.inl hq, fun _ => rfl⟩
  unfold aft
  split
  · rename_i h0
    exact L.put T h.inn rfl rfl h0 (cg_look h.i) h.lo h.i.kh
  · rename_i h0
    exact L.putN rfl h0
theorem turn_split {t : Tre} {p r : Nat} {k key v low : Int} (h : CgAt t p k key v) (T : t.Ok) (hv : Halves (t.nd p) k key v low) (p0 : p ≠ 0) (hr : ¬ t.inn r) (r1 : 1 ≤ r) (r64 : r < 64) (mp : Int → Option Int) :
    Turn t (t.split p r (lftN (cg (t.nd p) k key v) low r) (rgtN (cg (t.nd p) k key v) low) low) p (lftN (cg (t.nd p) k key v) low r) (fun q n => q = r ∧ n = rgtN (cg (t.nd p) k key v) low) mp (aft (t.nd p).lv k key v mp) := by
  have S := h.splitOk T hv p0 hr r1 r64
  obtain ⟨h1, h2⟩ := T.split S
  have hrp : r ≠ p := fun e => hr (e ▸ h.inn)
  refine ⟨h1, h2, fun L => ?_, ?_, fun q hq hqp => ?_, fun q hq => ?_, fun _ => rfl⟩
  · unfold aft
    split
    · rename_i h0
      exact L.split T S h0 (fun q hq => hv.lkL _ q hq) (fun q hq => hv.lkR q hq) h.lo h.i.kh
    · rename_i h0
      exact L.splitN S h0
  · show (if p = r then _ else if p = p then _ else t.nd p) = _
    rw [if_neg (Ne.symm hrp), if_pos rfl]
  · show (if q = r then _ else if q = p then _ else t.nd q) = _
    rw [if_neg (show q ≠ r from fun e => hr (e ▸ hq)), if_neg hqp]
  · by_cases e : q = r
    · refine Or.inr ⟨e, ?_⟩
      show (if q = r then _ else if q = p then _ else t.nd q) = _
      rw [if_pos e]
    · rcases hq with hq | hq
      · exact Or.inl hq
      · exact absurd hq e
theorem lift_cg {t : Tre} {l : Nat} {k key v : Int} (h : CgAt t 0 k key v) (hl : ¬ t.inn l) : CgAt (t.lift l) l k key v := by
  have nl : (t.lift l).nd l = t.nd 0 := if_pos rfl
  have ll : (t.lift l).low l = 0 := if_pos rfl
  refine ⟨Or.inr rfl, by rw [nl]; exact h.i, by rw [ll]; have := h.i.k1; omega, ?_⟩
  rw [nl]
  intro h0
  obtain ⟨q, h1, h2, h3, h4⟩ := h.kid h0
  have hql : q ≠ l := fun e => hl (e ▸ h2)
  have hq0 : q ≠ 0 := fun e => by subst e; omega
  refine ⟨q, h1, Or.inl h2, ?_, ?_⟩
  · show (if q = l then (0 : Int) else t.low q) = _
    rw [if_neg hql]; exact h3
  · show (if q = l then t.nd 0 else if q = 0 then _ else t.nd q : Nd).lv + 1 = _
    rw [if_neg hql, if_neg hq0]; exact h4
def Tre.grow (t : Tre) (l r : Nat) (k key v low : Int) : Tre :=
  ((t.lift l).split l r (lftN (cg (t.nd 0) k key v) low r) (rgtN (cg (t.nd 0) k key v) low) low).put 0 (topN (cg (t.nd 0) k key v) low l r)
theorem turn_grow {t : Tre} {l r : Nat} {k key v low : Int} (h : CgAt t 0 k key v) (T : t.Ok) (hv : Halves (t.nd 0) k key v low) (hr : ¬ t.inn r) (r1 : 1 ≤ r) (r64 : r < 64) (hl : ¬ t.inn l) (l1 : 1 ≤ l) (l64 : l < 64) (hlr : l ≠ r) (h9 : (t.nd 0).lv < 9) (mp : Int → Option Int) :
    Turn t (t.grow l r k key v low) 0 (topN (cg (t.nd 0) k key v) low l r) (fun q n => (q = r ∧ n = rgtN (cg (t.nd 0) k key v) low) ∨ (q = l ∧ n = lftN (cg (t.nd 0) k key v) low r)) mp (aft (t.nd 0).lv k key v mp) := by
  obtain ⟨A1, A2⟩ := T.lift hl l64 h9
  have nl : (t.lift l).nd l = t.nd 0 := if_pos rfl
  have C := lift_cg h hl
  have hr1 : ¬ (t.lift l).inn r := fun e => by
    rcases e with e | e
    · exact hr e
    · exact hlr e.symm
  have B := turn_split C A1 (by rw [nl]; exact hv) (by omega) hr1 r1 r64 mp
  rw [nl] at B
  obtain ⟨t2, ht2⟩ : ∃ t2, (t.lift l).split l r (lftN (cg (t.nd 0) k key v) low r) (rgtN (cg (t.nd 0) k key v) low) low = t2 := ⟨_, rfl⟩
  have hg : t.grow l r k key v low = t2.put 0 (topN (cg (t.nd 0) k key v) low l r) := by unfold Tre.grow; rw [ht2]
  have l0 : (0 : Nat) ≠ l := by omega
  have r0 : (0 : Nat) ≠ r := by omega
  have n0 : t2.nd 0 = ⟨(t.nd 0).lv + 1, -1, 10000, [0], [(l : Int)]⟩ := by
    rw [← ht2]
    show (if 0 = r then _ else if 0 = l then _ else (t.lift l).nd 0) = _
    rw [if_neg r0, if_neg l0]
    show (if 0 = l then _ else if 0 = 0 then _ else _) = _
    rw [if_neg l0, if_pos rfl]
  have n2l : t2.nd l = lftN (cg (t.nd 0) k key v) low r := by rw [← ht2]; exact B.at_
  have n2r : t2.nd r = rgtN (cg (t.nd 0) k key v) low := by rw [← ht2]; exact if_pos rfl
  have i2l : t2.inn l := by rw [← ht2]; exact Or.inl (Or.inr rfl)
  have i2r : t2.inn r := by rw [← ht2]; exact Or.inr rfl
  have w2l : t2.low l = 0 := by
    rw [← ht2]
    show (if l = r then low else (t.lift l).low l) = 0
    rw [if_neg hlr]; exact if_pos rfl
  have w2r : t2.low r = low := by rw [← ht2]; exact if_pos rfl
  have w20 : t2.low 0 = 0 := by
    rw [← ht2]
    show (if 0 = r then low else (t.lift l).low 0) = 0
    rw [if_neg r0]
    show (if 0 = l then 0 else t.low 0) = 0
    rw [if_neg l0]; exact T.l0
  have i2 : ∀ q, t2.inn q ↔ (t.inn q ∨ q = l) ∨ q = r := fun q => by rw [← ht2]; exact Iff.rfl
  rw [ht2] at B
  obtain ⟨hm, -, hm1, hm2⟩ := hv.mem
  have P : t2.PutOk 0 (topN (cg (t.nd 0) k key v) low l r) := by
    refine ⟨(i2 0).2 (Or.inl (Or.inl T.r0)), by rw [n0]; rfl, by rw [n0]; rfl, by rw [n0]; rfl, hv.rtT h9 (by omega) (by omega) (by omega) (by omega), fun q hq => ?_, fun _ => ?_, fun _ e he => ?_⟩
    · replace hq : q ∈ [0, low] := hq
      rw [w20]
      simp at hq
      omega
    · rw [w20]; rfl
    · replace he : e ∈ [((0 : Int), (l : Int)), (low, (r : Int))] := he
      simp at he
      rcases he with rfl | rfl
      · exact ⟨l, rfl, i2l, w2l, by rw [n2l]; rfl⟩
      · exact ⟨r, rfl, i2r, w2r, by rw [n2r]; rfl⟩
  obtain ⟨Q1, Q2⟩ := B.ok.put P
  rw [hg]
  refine ⟨Q1, (A2.trans B.gr).trans Q2, fun L => ?_, t2.put_self _ _, fun q hq hq0 => ?_, fun q hq => ?_, fun e => absurd rfl e⟩
  · have L2 := B.lf (L.lift T hl)
    exact L2.putN (by rw [n0]; rfl) (by rw [n0]; have := (right_bd _ (T.rt 0 T.r0)).1; show (t.nd 0).lv + 1 ≠ 0; omega)
  · rw [t2.put_ne _ hq0]
    have hql : q ≠ l := fun e => hl (e ▸ hq)
    have hqr : q ≠ r := fun e => hr (e ▸ hq)
    rw [← ht2]
    show (if q = r then _ else if q = l then _ else (t.lift l).nd q) = _
    rw [if_neg hqr, if_neg hql]
    show (if q = l then _ else if q = 0 then _ else t.nd q) = _
    rw [if_neg hql, if_neg hq0]
  · replace hq : t2.inn q := hq
    rcases (i2 q).1 hq with (h1 | rfl) | rfl
    · exact Or.inl h1
    · refine Or.inr (Or.inr ⟨rfl, ?_⟩)
      rw [t2.put_ne _ (by omega)]; exact n2l
    · refine Or.inr (Or.inl ⟨rfl, ?_⟩)
      rw [t2.put_ne _ (by omega)]; exact n2r
end Go.Proofs.YtajobgmnmbnhiaaGreatDoor.Sap
