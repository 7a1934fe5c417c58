/- WHAT IS PROVED HERE: what tree.Tell answers to a Put or a Drop at the leaf of its key, and to the reply of a Swap. Conditions: named at each theorem. -/
import Derived.Test.YtjpgldeeopmbgaaDoorV4
import Derived.Test.YtjpgldeeopmbgaaDoorL7
namespace Go.Proofs.YtjpgldeeopmbgaaDoor.Sap
open Go.RowKit

set_option maxRecDepth 100000 in
set_option maxHeartbeats 1600000 in
theorem tell_swap_done (s : St) (f : ByteArray) (w : World) (htab : Tab w) (hf : f.data.toList = frT s) (hs : StOk s) (hsw : s.sw ≠ ⟨#[]⟩) (hst : s.step ≤ 1000000000) :
    Calls Tryd.prog 70 #[.string f, .agg #[.int .i64 0, .int .i64 0, .string ⟨#[]⟩, .bool true]] w fun e w' => FinR 0 s.fnd s.va s.step [] [] [] w w' e := by
  have hsb : s.sw.toList.isEmpty = false := nonempty_of hsw
  have A0 := hideIt (((M.start w).alloc #[.int .i64 0, .int .i64 0, .string ⟨#[]⟩, .bool true] 86).alloc #[.int .i64 0, .bool false, .int .i64 0, .int .i64 0, .slice none 0 0, .slice none 0 0, .slice none 0 0] 66)
  rw [alloc_size] at A0
  have CR := hideIt (fun W => readFrame_yes s f W hf hs)
  have HT : Hid (∀ W l, M w w.heap.size W l → Tab W) := fun W l hm => htab.below hm.bl
  have HS := hideIt hs
  have hst0 := hs.step.1
  have hpg0 := hs.pg.1
  clear hf hs htab hsw
  go_enter Tryd.func70, Tryd.ntmps70
  go_wp2_with fail
  refine (CR.out _).mono ?_
  rintro e w1 ⟨⟨kv, vv, bv, pv, hO, rfl⟩, hb⟩
  have A1 := A0.out.join (hO.m hb)
  clear hO hb CR
  obtain ⟨ak, ck, rfl⟩ := As.form0 (A1.get (i := 0) rfl)
  obtain ⟨av, cv, rfl⟩ := As.form0 (A1.get (i := 1) rfl)
  obtain ⟨ab, cb, rfl⟩ := As.form0 (A1.get (i := 2) rfl)
  obtain ⟨ap, cp, rfl⟩ := As.form0 (A1.get (i := 3) rfl)
  have A2 := hideIt (A1.alloc #[.int .i64 s.kd, .int .i64 s.key, .int .i64 s.val, .int .i64 s.step, .int .i64 s.pg, .slice ak s.keys.length ck, .slice av s.vals.length cv, .slice ab s.bel.length cb, .slice ap s.pts.length cp, .string s.sw, .int .i64 s.ver, .bool s.fnd, .int .i64 s.va] 104)
  clear A0 A1
  have q0 := A2.out.cell (i := 0) rfl 0 (.int .i64 s.kd) rfl
  have q1 := A2.out.cell (i := 0) rfl 1 (.int .i64 s.key) rfl
  have q2 := A2.out.cell (i := 0) rfl 2 (.int .i64 s.val) rfl
  have q3 := A2.out.cell (i := 0) rfl 3 (.int .i64 s.step) rfl
  have q4 := A2.out.cell (i := 0) rfl 4 (.int .i64 s.pg) rfl
  have q5 := A2.out.cell (i := 0) rfl 5 (.slice ak s.keys.length ck) rfl
  have q6 := A2.out.cell (i := 0) rfl 6 (.slice av s.vals.length cv) rfl
  have q7 := A2.out.cell (i := 0) rfl 7 (.slice ab s.bel.length cb) rfl
  have q8 := A2.out.cell (i := 0) rfl 8 (.slice ap s.pts.length cp) rfl
  have q9 := A2.out.cell (i := 0) rfl 9 (.string s.sw) rfl
  have q10 := A2.out.cell (i := 0) rfl 10 (.int .i64 s.ver) rfl
  have q11 := A2.out.cell (i := 0) rfl 11 (.bool s.fnd) rfl
  have q12 := A2.out.cell (i := 0) rfl 12 (.int .i64 s.va) rfl
  have p3 := A2.out.cell (i := 6) rfl 3 (.bool true) rfl
  have CT := hideIt (tellSwap_done s (.slice ak s.keys.length ck) (.slice av s.vals.length cv) (.slice ab s.bel.length cb) (.slice ap s.pts.length cp) _ ⟨owns_rd (A2.out.get (i := 1) rfl).own, owns_rd (A2.out.get (i := 2) rfl).own, owns_rd (A2.out.get (i := 3) rfl).own, owns_rd (A2.out.get (i := 4) rfl).own⟩)
  go_wp2_with fail
  refine CT.out.mono ?_
  rintro e w5 ⟨rfl, hb5⟩
  clear q0 q1 q2 q3 q4 q5 q6 q7 q8 q9 q10 q11 q12 p3
  have A7 := hideIt (A2.out.below hb5)
  clear hb5 A2 CT
  have r0 := A7.out.cell (i := 5) rfl 0 (.int .i64 0) rfl
  have f0 := A7.out.free (i := 5) rfl 0
  have r1 := A7.out.cell (i := 5) rfl 1 (.bool false) rfl
  have f1 := A7.out.free (i := 5) rfl 1
  have r2 := A7.out.cell (i := 5) rfl 2 (.int .i64 0) rfl
  have f2 := A7.out.free (i := 5) rfl 2
  have r3 := A7.out.cell (i := 5) rfl 3 (.int .i64 0) rfl
  have f3 := A7.out.free (i := 5) rfl 3
  have r4 := A7.out.cell (i := 5) rfl 4 (.slice none 0 0) rfl
  have f4 := A7.out.free (i := 5) rfl 4
  have r5 := A7.out.cell (i := 5) rfl 5 (.slice none 0 0) rfl
  have f5 := A7.out.free (i := 5) rfl 5
  have r6 := A7.out.cell (i := 5) rfl 6 (.slice none 0 0) rfl
  have f6 := A7.out.free (i := 5) rfl 6
  have hla := A7.out.lt (i := 5) rfl
  have S7 := hideIt (A7.out.store7 (i := 5) rfl (.int .i64 0) (.bool s.fnd) (.int .i64 s.va) (.int .i64 s.step) (.slice none 0 0) (.slice none 0 0) (.slice none 0 0))
  clear A7
  go_wp2
  refine bodyPost_ret (v := .tuple #[.string ⟨#[]⟩, .agg #[.int .i64 0, .bool s.fnd, .int .i64 s.va, .int .i64 s.step, .slice none 0 0, .slice none 0 0, .slice none 0 0], .bool true, .int .i64 0]) (by simp [results, Tryd.results70, go_sem, *]) rfl ?_
  exact ⟨_, _, _, rfl, M.consNil (M.consNil (M.consNil (S7.out.sub (List.nil_sublist _))))⟩

set_option maxRecDepth 100000 in
set_option maxHeartbeats 1600000 in
theorem tell_swap_not (s : St) (f : ByteArray) (w : World) (htab : Tab w) (hf : f.data.toList = frT s) (hs : StOk s) (hsw : s.sw ≠ ⟨#[]⟩) (hst : s.step ≤ 1000000000) :
    Calls Tryd.prog 70 #[.string f, .agg #[.int .i64 0, .int .i64 0, .string ⟨#[]⟩, .bool false]] w fun e w' => GoR (fun c => c.data.toList = frT { stAgain s with pg := s.pg, step := s.step + 1 }) w w' e := by
  have hsb : s.sw.toList.isEmpty = false := nonempty_of hsw
  have A0 := hideIt (((M.start w).alloc #[.int .i64 0, .int .i64 0, .string ⟨#[]⟩, .bool false] 86).alloc #[.int .i64 0, .bool false, .int .i64 0, .int .i64 0, .slice none 0 0, .slice none 0 0, .slice none 0 0] 66)
  rw [alloc_size] at A0
  have CR := hideIt (fun W => readFrame_yes s f W hf hs)
  have HT : Hid (∀ W l, M w w.heap.size W l → Tab W) := fun W l hm => htab.below hm.bl
  have HS := hideIt hs
  have hst0 := hs.step.1
  have hpg0 := hs.pg.1
  clear hf hs htab hsw
  go_enter Tryd.func70, Tryd.ntmps70
  go_wp2_with fail
  refine (CR.out _).mono ?_
  rintro e w1 ⟨⟨kv, vv, bv, pv, hO, rfl⟩, hb⟩
  have A1 := A0.out.join (hO.m hb)
  clear hO hb CR
  obtain ⟨ak, ck, rfl⟩ := As.form0 (A1.get (i := 0) rfl)
  obtain ⟨av, cv, rfl⟩ := As.form0 (A1.get (i := 1) rfl)
  obtain ⟨ab, cb, rfl⟩ := As.form0 (A1.get (i := 2) rfl)
  obtain ⟨ap, cp, rfl⟩ := As.form0 (A1.get (i := 3) rfl)
  have A2 := hideIt (A1.alloc #[.int .i64 s.kd, .int .i64 s.key, .int .i64 s.val, .int .i64 s.step, .int .i64 s.pg, .slice ak s.keys.length ck, .slice av s.vals.length cv, .slice ab s.bel.length cb, .slice ap s.pts.length cp, .string s.sw, .int .i64 s.ver, .bool s.fnd, .int .i64 s.va] 104)
  clear A0 A1
  have q0 := A2.out.cell (i := 0) rfl 0 (.int .i64 s.kd) rfl
  have q1 := A2.out.cell (i := 0) rfl 1 (.int .i64 s.key) rfl
  have q2 := A2.out.cell (i := 0) rfl 2 (.int .i64 s.val) rfl
  have q3 := A2.out.cell (i := 0) rfl 3 (.int .i64 s.step) rfl
  have q4 := A2.out.cell (i := 0) rfl 4 (.int .i64 s.pg) rfl
  have q5 := A2.out.cell (i := 0) rfl 5 (.slice ak s.keys.length ck) rfl
  have q6 := A2.out.cell (i := 0) rfl 6 (.slice av s.vals.length cv) rfl
  have q7 := A2.out.cell (i := 0) rfl 7 (.slice ab s.bel.length cb) rfl
  have q8 := A2.out.cell (i := 0) rfl 8 (.slice ap s.pts.length cp) rfl
  have q9 := A2.out.cell (i := 0) rfl 9 (.string s.sw) rfl
  have q10 := A2.out.cell (i := 0) rfl 10 (.int .i64 s.ver) rfl
  have q11 := A2.out.cell (i := 0) rfl 11 (.bool s.fnd) rfl
  have q12 := A2.out.cell (i := 0) rfl 12 (.int .i64 s.va) rfl
  have p3 := A2.out.cell (i := 6) rfl 3 (.bool false) rfl
  have CT := hideIt (tellSwap_not s (.slice ak s.keys.length ck) (.slice av s.vals.length cv) (.slice ab s.bel.length cb) (.slice ap s.pts.length cp) _ (HT.out _ _ A2.out) ⟨owns_rd (A2.out.get (i := 1) rfl).own, owns_rd (A2.out.get (i := 2) rfl).own, owns_rd (A2.out.get (i := 3) rfl).own, owns_rd (A2.out.get (i := 4) rfl).own⟩ HS.out.i hst hst0 hpg0)
  go_wp2_with fail
  refine CT.out.mono ?_
  rintro e w5 ⟨⟨c5, rfl, hc5⟩, hb5⟩
  clear q0 q1 q2 q3 q4 q5 q6 q7 q8 q9 q10 q11 q12 p3
  have A7 := hideIt (A2.out.below hb5)
  have HC5 := hideIt hc5
  clear hb5 hc5 A2 CT
  have r0 := A7.out.cell (i := 5) rfl 0 (.int .i64 0) rfl
  have f0 := A7.out.free (i := 5) rfl 0
  have r1 := A7.out.cell (i := 5) rfl 1 (.bool false) rfl
  have f1 := A7.out.free (i := 5) rfl 1
  have r2 := A7.out.cell (i := 5) rfl 2 (.int .i64 0) rfl
  have f2 := A7.out.free (i := 5) rfl 2
  have r3 := A7.out.cell (i := 5) rfl 3 (.int .i64 0) rfl
  have f3 := A7.out.free (i := 5) rfl 3
  have r4 := A7.out.cell (i := 5) rfl 4 (.slice none 0 0) rfl
  have f4 := A7.out.free (i := 5) rfl 4
  have r5 := A7.out.cell (i := 5) rfl 5 (.slice none 0 0) rfl
  have f5 := A7.out.free (i := 5) rfl 5
  have r6 := A7.out.cell (i := 5) rfl 6 (.slice none 0 0) rfl
  have f6 := A7.out.free (i := 5) rfl 6
  have hla := A7.out.lt (i := 5) rfl
  have S7 := hideIt (A7.out.store7 (i := 5) rfl (.int .i64 0) (.bool false) (.int .i64 0) (.int .i64 0) (.slice none 0 0) (.slice none 0 0) (.slice none 0 0))
  clear A7
  rw [show ans0 = #[.int .i64 0, .bool false, .int .i64 0, .int .i64 0, .slice none 0 0, .slice none 0 0, .slice none 0 0] from rfl]
  go_wp2
  refine bodyPost_ret (v := .tuple #[.string c5, .agg #[.int .i64 0, .bool false, .int .i64 0, .int .i64 0, .slice none 0 0, .slice none 0 0, .slice none 0 0], .bool false, .int .i64 0]) (by simp [results, Tryd.results70, go_sem, *]) rfl ?_
  exact ⟨c5, rfl, HC5.out, S7.out.bl⟩

set_option maxRecDepth 100000 in
set_option maxHeartbeats 1600000 in
theorem tell_drop (s : St) (n : Nd) (f t : ByteArray) (ver : Int) (w : World) (htab : Tab w) (hf : f.data.toList = frT s) (hs : StOk s) (hu : Unp t.data.toList n) (hsw : s.sw = ⟨#[]⟩) (hlv : n.lv = 0) (hlt : s.key < n.hi) (hkd : s.kd = 2 ∨ s.kd = 3) (hk3 : s.kd = 3) (hfb : fndB n.ks s.key n.ks.length = false) :
    Calls Tryd.prog 70 #[.string f, .agg #[.int .i64 ver, .int .i64 0, .string t, .bool false]] w fun e w' => FinR 0 false (fndV n.ks n.vs s.key n.ks.length) s.step [] [] [] w w' e := by
  have htl := size_of_unp ⟨n, hu⟩
  have hr := right_bd n hu.1
  have HR := hideIt hr
  have HU := hideIt hu
  have hsb : s.sw.toList.isEmpty = true := by rw [hsw, ByteArray.toList_eq]; rfl
  have hk4 : (s.kd == 4) = false := by rcases hkd with h | h <;> rw [h] <;> rfl
  have hwant : wantV s = s.key := by
    rcases hs.seen with h | ⟨-, -, h, -⟩
    · rcases hkd with k | k <;> rw [k] at h <;> cases h
    · unfold wantV; rw [h]; rfl
  have HW := hideIt hwant
  have hd1 : decide (0 < n.lv) = false := by rw [decide_eq_false_iff_not]; omega
  have hd2 : decide (n.hi ≤ s.key) = false := by rw [decide_eq_false_iff_not]; omega
  have CU := hideIt (fun W => unpack_any t W (by omega))
  have HKD := hideIt hkd
  have HK3 := hideIt hk3
  have HFB := hideIt hfb
  clear hk3 hfb hkd
  have A0 := hideIt (((M.start w).alloc #[.int .i64 ver, .int .i64 0, .string t, .bool false] 86).alloc #[.int .i64 0, .bool false, .int .i64 0, .int .i64 0, .slice none 0 0, .slice none 0 0, .slice none 0 0] 66)
  rw [alloc_size] at A0
  have CR := hideIt (fun W => readFrame_yes s f W hf hs)
  have HT : Hid (∀ W l, M w w.heap.size W l → Tab W) := fun W l hm => htab.below hm.bl
  have HS := hideIt hs
  have hst0 := hs.step.1
  have HLV := hideIt hlv
  clear hf hs hu htab hsw hr hlv hlt hwant
  go_enter Tryd.func70, Tryd.ntmps70
  go_wp2_with fail
  refine (CR.out _).mono ?_
  rintro e w1 ⟨⟨kv, vv, bv, pv, hO, rfl⟩, hb⟩
  have A1 := A0.out.join (hO.m hb)
  clear hO hb CR
  obtain ⟨ak, ck, rfl⟩ := As.form0 (A1.get (i := 0) rfl)
  obtain ⟨av, cv, rfl⟩ := As.form0 (A1.get (i := 1) rfl)
  obtain ⟨ab, cb, rfl⟩ := As.form0 (A1.get (i := 2) rfl)
  obtain ⟨ap, cp, rfl⟩ := As.form0 (A1.get (i := 3) rfl)
  have A2 := hideIt (A1.alloc #[.int .i64 s.kd, .int .i64 s.key, .int .i64 s.val, .int .i64 s.step, .int .i64 s.pg, .slice ak s.keys.length ck, .slice av s.vals.length cv, .slice ab s.bel.length cb, .slice ap s.pts.length cp, .string s.sw, .int .i64 s.ver, .bool s.fnd, .int .i64 s.va] 104)
  clear A0 A1
  have rt := A2.out.cell (i := 6) rfl 2 (.string t) rfl
  go_wp2_with fail
  refine (CU.out _).mono ?_
  rintro e w2 ⟨hR, hb⟩
  refine Or.elim hR (fun h1 => ?_) (fun h1 => absurd HU.out (h1.1 n))
  clear hR
  obtain ⟨n', kv2, vv2, hu', hO2, rfl⟩ := h1
  obtain rfl : n' = n := hu'.uniq HU.out
  have A3 := A2.out.join (Own.m2 hO2 hb)
  clear hO2 hb CU A2 rt hu'
  obtain ⟨na, nc, rfl⟩ := As.form0 (A3.get (i := 0) rfl)
  obtain ⟨nva, nvc, rfl⟩ := As.form0 (A3.get (i := 1) rfl)
  have A4 := hideIt (A3.alloc #[.int .i64 n'.lv, .int .i64 n'.lk, .int .i64 n'.hi, .slice na n'.ks.length nc, .slice nva n'.vs.length nvc] 24)
  clear A3
  have q0 := A4.out.cell (i := 3) rfl 0 (.int .i64 s.kd) rfl
  have q1 := A4.out.cell (i := 3) rfl 1 (.int .i64 s.key) rfl
  have q2 := A4.out.cell (i := 3) rfl 2 (.int .i64 s.val) rfl
  have q3 := A4.out.cell (i := 3) rfl 3 (.int .i64 s.step) rfl
  have q4 := A4.out.cell (i := 3) rfl 4 (.int .i64 s.pg) rfl
  have q5 := A4.out.cell (i := 3) rfl 5 (.slice ak s.keys.length ck) rfl
  have q6 := A4.out.cell (i := 3) rfl 6 (.slice av s.vals.length cv) rfl
  have q7 := A4.out.cell (i := 3) rfl 7 (.slice ab s.bel.length cb) rfl
  have q8 := A4.out.cell (i := 3) rfl 8 (.slice ap s.pts.length cp) rfl
  have q9 := A4.out.cell (i := 3) rfl 9 (.string s.sw) rfl
  have q10 := A4.out.cell (i := 3) rfl 10 (.int .i64 s.ver) rfl
  have q11 := A4.out.cell (i := 3) rfl 11 (.bool s.fnd) rfl
  have q12 := A4.out.cell (i := 3) rfl 12 (.int .i64 s.va) rfl
  go_wp2_with fail
  refine (wanted_any s _ _ _ _ _ ⟨owns_rd (A4.out.get (i := 4) rfl).own, owns_rd (A4.out.get (i := 5) rfl).own, owns_rd (A4.out.get (i := 6) rfl).own, owns_rd (A4.out.get (i := 7) rfl).own⟩ HS.out.i).mono ?_
  rintro e w3 ⟨rfl, hb3⟩
  rw [HW.out]
  have A5 := hideIt (A4.out.below hb3)
  clear A4 hb3 q0 q1 q2 q3 q4 q5 q6 q7 q8 q9 q10 q11 q12
  have q0 := A5.out.cell (i := 3) rfl 0 (.int .i64 s.kd) rfl
  have q1 := A5.out.cell (i := 3) rfl 1 (.int .i64 s.key) rfl
  have q2 := A5.out.cell (i := 3) rfl 2 (.int .i64 s.val) rfl
  have q3 := A5.out.cell (i := 3) rfl 3 (.int .i64 s.step) rfl
  have q4 := A5.out.cell (i := 3) rfl 4 (.int .i64 s.pg) rfl
  have q5 := A5.out.cell (i := 3) rfl 5 (.slice ak s.keys.length ck) rfl
  have q6 := A5.out.cell (i := 3) rfl 6 (.slice av s.vals.length cv) rfl
  have q7 := A5.out.cell (i := 3) rfl 7 (.slice ab s.bel.length cb) rfl
  have q8 := A5.out.cell (i := 3) rfl 8 (.slice ap s.pts.length cp) rfl
  have q9 := A5.out.cell (i := 3) rfl 9 (.string s.sw) rfl
  have q10 := A5.out.cell (i := 3) rfl 10 (.int .i64 s.ver) rfl
  have q11 := A5.out.cell (i := 3) rfl 11 (.bool s.fnd) rfl
  have q12 := A5.out.cell (i := 3) rfl 12 (.int .i64 s.va) rfl
  have n0 := A5.out.cell (i := 0) rfl 0 (.int .i64 n'.lv) rfl
  have n1 := A5.out.cell (i := 0) rfl 1 (.int .i64 n'.lk) rfl
  have n2 := A5.out.cell (i := 0) rfl 2 (.int .i64 n'.hi) rfl
  have n3 := A5.out.cell (i := 0) rfl 3 (.slice na n'.ks.length nc) rfl
  have n4 := A5.out.cell (i := 0) rfl 4 (.slice nva n'.vs.length nvc) rfl
  have p0 := A5.out.cell (i := 9) rfl 0 (.int .i64 ver) rfl
  have CC := hideIt (changeLeaf_drop s n' ver (.slice ak s.keys.length ck) (.slice av s.vals.length cv) (.slice ab s.bel.length cb) (.slice ap s.pts.length cp) (.slice na n'.ks.length nc) (.slice nva n'.vs.length nvc) _ w _ w.heap.size HS.out.i HK3.out HFB.out A5.out (.tail _ (.tail _ (.tail _ (.tail _ (.head _))))) (.tail _ (.tail _ (.tail _ (.tail _ (.tail _ (.head _)))))) (.tail _ (.tail _ (.tail _ (.tail _ (.tail _ (.tail _ (.head _))))))) (.tail _ (.tail _ (.tail _ (.tail _ (.tail _ (.tail _ (.tail _ (.head _)))))))) (.tail _ (.head _)) (.tail _ (.tail _ (.head _))) HR.out.2.2.2.1 HR.out.2.2.2.2.1)
  have HA5 := A5
  rcases HKD.out with h2 | h3
  all_goals
    first
      | have hk2 : (s.kd == 2) = true := by rw [h2]; rfl
      | (have hk2 : (s.kd == 2) = false := by rw [h3]; rfl
         have hk3 : (s.kd == 3) = true := by rw [h3]; rfl)
    try clear h2
    try clear h3
    go_wp2_with fail
    refine CC.out.mono ?_
    rintro e w5 ⟨rfl, hM5⟩
    clear A5 CC q0 q1 q2 q3 q4 q5 q6 q7 q8 q9 q10 q11 q12 n0 n1 n2 n3 n4 p0
    have A7 := hideIt hM5
    clear hM5 HA5
    have r0 := A7.out.cell (i := 8) rfl 0 (.int .i64 0) rfl
    have f0 := A7.out.free (i := 8) rfl 0
    have r1 := A7.out.cell (i := 8) rfl 1 (.bool false) rfl
    have f1 := A7.out.free (i := 8) rfl 1
    have r2 := A7.out.cell (i := 8) rfl 2 (.int .i64 0) rfl
    have f2 := A7.out.free (i := 8) rfl 2
    have r3 := A7.out.cell (i := 8) rfl 3 (.int .i64 0) rfl
    have f3 := A7.out.free (i := 8) rfl 3
    have r4 := A7.out.cell (i := 8) rfl 4 (.slice none 0 0) rfl
    have f4 := A7.out.free (i := 8) rfl 4
    have r5 := A7.out.cell (i := 8) rfl 5 (.slice none 0 0) rfl
    have f5 := A7.out.free (i := 8) rfl 5
    have r6 := A7.out.cell (i := 8) rfl 6 (.slice none 0 0) rfl
    have f6 := A7.out.free (i := 8) rfl 6
    have hla := A7.out.lt (i := 8) rfl
    have S7 := hideIt (A7.out.store7 (i := 8) rfl (.int .i64 0) (.bool false) (.int .i64 (fndV n'.ks n'.vs s.key n'.ks.length)) (.int .i64 s.step) (.slice none 0 0) (.slice none 0 0) (.slice none 0 0))
    clear A7
    go_wp2
    refine bodyPost_ret (v := .tuple #[.string ⟨#[]⟩, .agg #[.int .i64 0, .bool false, .int .i64 (fndV n'.ks n'.vs s.key n'.ks.length), .int .i64 s.step, .slice none 0 0, .slice none 0 0, .slice none 0 0], .bool true, .int .i64 0]) (by simp [results, Tryd.results70, go_sem, *]) rfl ?_
    exact ⟨_, _, _, rfl, M.consNil (M.consNil (M.consNil (S7.out.sub (List.nil_sublist _))))⟩

set_option maxRecDepth 100000 in
set_option maxHeartbeats 1600000 in
theorem tell_full (s : St) (n : Nd) (f t : ByteArray) (ver : Int) (w : World) (htab : Tab w) (hf : f.data.toList = frT s) (hs : StOk s) (hu : Unp t.data.toList n) (hsw : s.sw = ⟨#[]⟩) (hlv : n.lv = 0) (hlt : s.key < n.hi) (hkd : s.kd = 2 ∨ s.kd = 3) (hk3 : s.kd = 2) (hfb : fndB n.ks s.key n.ks.length = false) (h5 : 5 ≤ n.ks.length) :
    Calls Tryd.prog 70 #[.string f, .agg #[.int .i64 ver, .int .i64 0, .string t, .bool false]] w fun e w' => FinR 4 false 0 0 [] [] [] w w' e := by
  have htl := size_of_unp ⟨n, hu⟩
  have hr := right_bd n hu.1
  have HR := hideIt hr
  have HU := hideIt hu
  have hsb : s.sw.toList.isEmpty = true := by rw [hsw, ByteArray.toList_eq]; rfl
  have hk4 : (s.kd == 4) = false := by rcases hkd with h | h <;> rw [h] <;> rfl
  have hwant : wantV s = s.key := by
    rcases hs.seen with h | ⟨-, -, h, -⟩
    · rcases hkd with k | k <;> rw [k] at h <;> cases h
    · unfold wantV; rw [h]; rfl
  have HW := hideIt hwant
  have hd1 : decide (0 < n.lv) = false := by rw [decide_eq_false_iff_not]; omega
  have hd2 : decide (n.hi ≤ s.key) = false := by rw [decide_eq_false_iff_not]; omega
  have CU := hideIt (fun W => unpack_any t W (by omega))
  have HKD := hideIt hkd
  have HK3 := hideIt hk3
  have HFB := hideIt hfb
  clear hk3 hfb hkd
  have A0 := hideIt (((M.start w).alloc #[.int .i64 ver, .int .i64 0, .string t, .bool false] 86).alloc #[.int .i64 0, .bool false, .int .i64 0, .int .i64 0, .slice none 0 0, .slice none 0 0, .slice none 0 0] 66)
  rw [alloc_size] at A0
  have CR := hideIt (fun W => readFrame_yes s f W hf hs)
  have HT : Hid (∀ W l, M w w.heap.size W l → Tab W) := fun W l hm => htab.below hm.bl
  have HS := hideIt hs
  have hst0 := hs.step.1
  have HLV := hideIt hlv
  clear hf hs hu htab hsw hr hlv hlt hwant
  go_enter Tryd.func70, Tryd.ntmps70
  go_wp2_with fail
  refine (CR.out _).mono ?_
  rintro e w1 ⟨⟨kv, vv, bv, pv, hO, rfl⟩, hb⟩
  have A1 := A0.out.join (hO.m hb)
  clear hO hb CR
  obtain ⟨ak, ck, rfl⟩ := As.form0 (A1.get (i := 0) rfl)
  obtain ⟨av, cv, rfl⟩ := As.form0 (A1.get (i := 1) rfl)
  obtain ⟨ab, cb, rfl⟩ := As.form0 (A1.get (i := 2) rfl)
  obtain ⟨ap, cp, rfl⟩ := As.form0 (A1.get (i := 3) rfl)
  have A2 := hideIt (A1.alloc #[.int .i64 s.kd, .int .i64 s.key, .int .i64 s.val, .int .i64 s.step, .int .i64 s.pg, .slice ak s.keys.length ck, .slice av s.vals.length cv, .slice ab s.bel.length cb, .slice ap s.pts.length cp, .string s.sw, .int .i64 s.ver, .bool s.fnd, .int .i64 s.va] 104)
  clear A0 A1
  have rt := A2.out.cell (i := 6) rfl 2 (.string t) rfl
  go_wp2_with fail
  refine (CU.out _).mono ?_
  rintro e w2 ⟨hR, hb⟩
  refine Or.elim hR (fun h1 => ?_) (fun h1 => absurd HU.out (h1.1 n))
  clear hR
  obtain ⟨n', kv2, vv2, hu', hO2, rfl⟩ := h1
  obtain rfl : n' = n := hu'.uniq HU.out
  have A3 := A2.out.join (Own.m2 hO2 hb)
  clear hO2 hb CU A2 rt hu'
  obtain ⟨na, nc, rfl⟩ := As.form0 (A3.get (i := 0) rfl)
  obtain ⟨nva, nvc, rfl⟩ := As.form0 (A3.get (i := 1) rfl)
  have A4 := hideIt (A3.alloc #[.int .i64 n'.lv, .int .i64 n'.lk, .int .i64 n'.hi, .slice na n'.ks.length nc, .slice nva n'.vs.length nvc] 24)
  clear A3
  have q0 := A4.out.cell (i := 3) rfl 0 (.int .i64 s.kd) rfl
  have q1 := A4.out.cell (i := 3) rfl 1 (.int .i64 s.key) rfl
  have q2 := A4.out.cell (i := 3) rfl 2 (.int .i64 s.val) rfl
  have q3 := A4.out.cell (i := 3) rfl 3 (.int .i64 s.step) rfl
  have q4 := A4.out.cell (i := 3) rfl 4 (.int .i64 s.pg) rfl
  have q5 := A4.out.cell (i := 3) rfl 5 (.slice ak s.keys.length ck) rfl
  have q6 := A4.out.cell (i := 3) rfl 6 (.slice av s.vals.length cv) rfl
  have q7 := A4.out.cell (i := 3) rfl 7 (.slice ab s.bel.length cb) rfl
  have q8 := A4.out.cell (i := 3) rfl 8 (.slice ap s.pts.length cp) rfl
  have q9 := A4.out.cell (i := 3) rfl 9 (.string s.sw) rfl
  have q10 := A4.out.cell (i := 3) rfl 10 (.int .i64 s.ver) rfl
  have q11 := A4.out.cell (i := 3) rfl 11 (.bool s.fnd) rfl
  have q12 := A4.out.cell (i := 3) rfl 12 (.int .i64 s.va) rfl
  go_wp2_with fail
  refine (wanted_any s _ _ _ _ _ ⟨owns_rd (A4.out.get (i := 4) rfl).own, owns_rd (A4.out.get (i := 5) rfl).own, owns_rd (A4.out.get (i := 6) rfl).own, owns_rd (A4.out.get (i := 7) rfl).own⟩ HS.out.i).mono ?_
  rintro e w3 ⟨rfl, hb3⟩
  rw [HW.out]
  have A5 := hideIt (A4.out.below hb3)
  clear A4 hb3 q0 q1 q2 q3 q4 q5 q6 q7 q8 q9 q10 q11 q12
  have q0 := A5.out.cell (i := 3) rfl 0 (.int .i64 s.kd) rfl
  have q1 := A5.out.cell (i := 3) rfl 1 (.int .i64 s.key) rfl
  have q2 := A5.out.cell (i := 3) rfl 2 (.int .i64 s.val) rfl
  have q3 := A5.out.cell (i := 3) rfl 3 (.int .i64 s.step) rfl
  have q4 := A5.out.cell (i := 3) rfl 4 (.int .i64 s.pg) rfl
  have q5 := A5.out.cell (i := 3) rfl 5 (.slice ak s.keys.length ck) rfl
  have q6 := A5.out.cell (i := 3) rfl 6 (.slice av s.vals.length cv) rfl
  have q7 := A5.out.cell (i := 3) rfl 7 (.slice ab s.bel.length cb) rfl
  have q8 := A5.out.cell (i := 3) rfl 8 (.slice ap s.pts.length cp) rfl
  have q9 := A5.out.cell (i := 3) rfl 9 (.string s.sw) rfl
  have q10 := A5.out.cell (i := 3) rfl 10 (.int .i64 s.ver) rfl
  have q11 := A5.out.cell (i := 3) rfl 11 (.bool s.fnd) rfl
  have q12 := A5.out.cell (i := 3) rfl 12 (.int .i64 s.va) rfl
  have n0 := A5.out.cell (i := 0) rfl 0 (.int .i64 n'.lv) rfl
  have n1 := A5.out.cell (i := 0) rfl 1 (.int .i64 n'.lk) rfl
  have n2 := A5.out.cell (i := 0) rfl 2 (.int .i64 n'.hi) rfl
  have n3 := A5.out.cell (i := 0) rfl 3 (.slice na n'.ks.length nc) rfl
  have n4 := A5.out.cell (i := 0) rfl 4 (.slice nva n'.vs.length nvc) rfl
  have p0 := A5.out.cell (i := 9) rfl 0 (.int .i64 ver) rfl
  have CC := hideIt (changeLeaf_full s n' ver (.slice ak s.keys.length ck) (.slice av s.vals.length cv) (.slice ab s.bel.length cb) (.slice ap s.pts.length cp) (.slice na n'.ks.length nc) (.slice nva n'.vs.length nvc) _ w _ w.heap.size HS.out.i HK3.out HFB.out h5 A5.out (.tail _ (.tail _ (.tail _ (.tail _ (.head _))))) (.tail _ (.tail _ (.tail _ (.tail _ (.tail _ (.head _)))))) (.tail _ (.tail _ (.tail _ (.tail _ (.tail _ (.tail _ (.head _))))))) (.tail _ (.tail _ (.tail _ (.tail _ (.tail _ (.tail _ (.tail _ (.head _)))))))) (.tail _ (.head _)) (.tail _ (.tail _ (.head _))) HR.out.2.2.2.1 HR.out.2.2.2.2.1)
  have HA5 := A5
  rcases HKD.out with h2 | h3
  all_goals
    first
      | have hk2 : (s.kd == 2) = true := by rw [h2]; rfl
      | (have hk2 : (s.kd == 2) = false := by rw [h3]; rfl
         have hk3 : (s.kd == 3) = true := by rw [h3]; rfl)
    try clear h2
    try clear h3
    go_wp2_with fail
    refine CC.out.mono ?_
    rintro e w5 ⟨rfl, hM5⟩
    clear A5 CC q0 q1 q2 q3 q4 q5 q6 q7 q8 q9 q10 q11 q12 n0 n1 n2 n3 n4 p0
    have A7 := hideIt hM5
    clear hM5 HA5
    have r0 := A7.out.cell (i := 8) rfl 0 (.int .i64 0) rfl
    have f0 := A7.out.free (i := 8) rfl 0
    have r1 := A7.out.cell (i := 8) rfl 1 (.bool false) rfl
    have f1 := A7.out.free (i := 8) rfl 1
    have r2 := A7.out.cell (i := 8) rfl 2 (.int .i64 0) rfl
    have f2 := A7.out.free (i := 8) rfl 2
    have r3 := A7.out.cell (i := 8) rfl 3 (.int .i64 0) rfl
    have f3 := A7.out.free (i := 8) rfl 3
    have r4 := A7.out.cell (i := 8) rfl 4 (.slice none 0 0) rfl
    have f4 := A7.out.free (i := 8) rfl 4
    have r5 := A7.out.cell (i := 8) rfl 5 (.slice none 0 0) rfl
    have f5 := A7.out.free (i := 8) rfl 5
    have r6 := A7.out.cell (i := 8) rfl 6 (.slice none 0 0) rfl
    have f6 := A7.out.free (i := 8) rfl 6
    have hla := A7.out.lt (i := 8) rfl
    have S7 := hideIt (A7.out.store7 (i := 8) rfl (.int .i64 4) (.bool false) (.int .i64 0) (.int .i64 0) (.slice none 0 0) (.slice none 0 0) (.slice none 0 0))
    clear A7
    go_wp2
    refine bodyPost_ret (v := .tuple #[.string ⟨#[]⟩, .agg #[.int .i64 4, .bool false, .int .i64 0, .int .i64 0, .slice none 0 0, .slice none 0 0, .slice none 0 0], .bool true, .int .i64 0]) (by simp [results, Tryd.results70, go_sem, *]) rfl ?_
    exact ⟨_, _, _, rfl, M.consNil (M.consNil (M.consNil (S7.out.sub (List.nil_sublist _))))⟩

set_option maxRecDepth 100000 in
set_option maxHeartbeats 1600000 in
theorem tell_on (s : St) (n : Nd) (f t : ByteArray) (ver : Int) (w : World) (htab : Tab w) (hf : f.data.toList = frT s) (hs : StOk s) (hu : Unp t.data.toList n) (hsw : s.sw = ⟨#[]⟩) (hlv : n.lv = 0) (hlt : s.key < n.hi) (hkd : s.kd = 2 ∨ s.kd = 3) (hk3 : fndB n.ks s.key n.ks.length = true ∨ (s.kd = 2 ∧ n.ks.length < 5)) (hver : 0 ≤ ver) (hver2 : ver ≤ 100000000000000000) (hst : s.step ≤ 1000000000) (hR : rightB ⟨n.lv, n.lk, n.hi, chK n s.kd s.key, chV n s.kd s.key s.val⟩ = true) (ht6 : (tkK n.ks 0 s.key [] n.ks.length).length ≤ 6) (hfv : I64 (fndV n.ks n.vs s.key n.ks.length)) :
    Calls Tryd.prog 70 #[.string f, .agg #[.int .i64 ver, .int .i64 0, .string t, .bool false]] w fun e w' => GoR (fun c => ∃ T : ByteArray, Unp T.data.toList ⟨n.lv, n.lk, n.hi, chK n s.kd s.key, chV n s.kd s.key s.val⟩ ∧ c.data.toList = frT { s with sw := T, ver := ver, fnd := fndB n.ks s.key n.ks.length, va := fndV n.ks n.vs s.key n.ks.length, step := s.step + 1 }) w w' e := by
  have htl := size_of_unp ⟨n, hu⟩
  have hr := right_bd n hu.1
  have HR := hideIt hr
  have HU := hideIt hu
  have hsb : s.sw.toList.isEmpty = true := by rw [hsw, ByteArray.toList_eq]; rfl
  have hk4 : (s.kd == 4) = false := by rcases hkd with h | h <;> rw [h] <;> rfl
  have hwant : wantV s = s.key := by
    rcases hs.seen with h | ⟨-, -, h, -⟩
    · rcases hkd with k | k <;> rw [k] at h <;> cases h
    · unfold wantV; rw [h]; rfl
  have HW := hideIt hwant
  have hd1 : decide (0 < n.lv) = false := by rw [decide_eq_false_iff_not]; omega
  have hd2 : decide (n.hi ≤ s.key) = false := by rw [decide_eq_false_iff_not]; omega
  have CU := hideIt (fun W => unpack_any t W (by omega))
  have HKD := hideIt hkd
  have HK3 := hideIt hk3
  have HRR := hideIt hR
  have HFV := hideIt hfv
  clear hk3 hR hfv hkd
  have A0 := hideIt (((M.start w).alloc #[.int .i64 ver, .int .i64 0, .string t, .bool false] 86).alloc #[.int .i64 0, .bool false, .int .i64 0, .int .i64 0, .slice none 0 0, .slice none 0 0, .slice none 0 0] 66)
  rw [alloc_size] at A0
  have CR := hideIt (fun W => readFrame_yes s f W hf hs)
  have HT : Hid (∀ W l, M w w.heap.size W l → Tab W) := fun W l hm => htab.below hm.bl
  have HS := hideIt hs
  have hst0 := hs.step.1
  have HLV := hideIt hlv
  clear hf hs hu htab hsw hr hlv hlt hwant
  go_enter Tryd.func70, Tryd.ntmps70
  go_wp2_with fail
  refine (CR.out _).mono ?_
  rintro e w1 ⟨⟨kv, vv, bv, pv, hO, rfl⟩, hb⟩
  have A1 := A0.out.join (hO.m hb)
  clear hO hb CR
  obtain ⟨ak, ck, rfl⟩ := As.form0 (A1.get (i := 0) rfl)
  obtain ⟨av, cv, rfl⟩ := As.form0 (A1.get (i := 1) rfl)
  obtain ⟨ab, cb, rfl⟩ := As.form0 (A1.get (i := 2) rfl)
  obtain ⟨ap, cp, rfl⟩ := As.form0 (A1.get (i := 3) rfl)
  have A2 := hideIt (A1.alloc #[.int .i64 s.kd, .int .i64 s.key, .int .i64 s.val, .int .i64 s.step, .int .i64 s.pg, .slice ak s.keys.length ck, .slice av s.vals.length cv, .slice ab s.bel.length cb, .slice ap s.pts.length cp, .string s.sw, .int .i64 s.ver, .bool s.fnd, .int .i64 s.va] 104)
  clear A0 A1
  have rt := A2.out.cell (i := 6) rfl 2 (.string t) rfl
  go_wp2_with fail
  refine (CU.out _).mono ?_
  rintro e w2 ⟨hR, hb⟩
  refine Or.elim hR (fun h1 => ?_) (fun h1 => absurd HU.out (h1.1 n))
  clear hR
  obtain ⟨n', kv2, vv2, hu', hO2, rfl⟩ := h1
  obtain rfl : n' = n := hu'.uniq HU.out
  have A3 := A2.out.join (Own.m2 hO2 hb)
  clear hO2 hb CU A2 rt hu'
  obtain ⟨na, nc, rfl⟩ := As.form0 (A3.get (i := 0) rfl)
  obtain ⟨nva, nvc, rfl⟩ := As.form0 (A3.get (i := 1) rfl)
  have A4 := hideIt (A3.alloc #[.int .i64 n'.lv, .int .i64 n'.lk, .int .i64 n'.hi, .slice na n'.ks.length nc, .slice nva n'.vs.length nvc] 24)
  clear A3
  have q0 := A4.out.cell (i := 3) rfl 0 (.int .i64 s.kd) rfl
  have q1 := A4.out.cell (i := 3) rfl 1 (.int .i64 s.key) rfl
  have q2 := A4.out.cell (i := 3) rfl 2 (.int .i64 s.val) rfl
  have q3 := A4.out.cell (i := 3) rfl 3 (.int .i64 s.step) rfl
  have q4 := A4.out.cell (i := 3) rfl 4 (.int .i64 s.pg) rfl
  have q5 := A4.out.cell (i := 3) rfl 5 (.slice ak s.keys.length ck) rfl
  have q6 := A4.out.cell (i := 3) rfl 6 (.slice av s.vals.length cv) rfl
  have q7 := A4.out.cell (i := 3) rfl 7 (.slice ab s.bel.length cb) rfl
  have q8 := A4.out.cell (i := 3) rfl 8 (.slice ap s.pts.length cp) rfl
  have q9 := A4.out.cell (i := 3) rfl 9 (.string s.sw) rfl
  have q10 := A4.out.cell (i := 3) rfl 10 (.int .i64 s.ver) rfl
  have q11 := A4.out.cell (i := 3) rfl 11 (.bool s.fnd) rfl
  have q12 := A4.out.cell (i := 3) rfl 12 (.int .i64 s.va) rfl
  go_wp2_with fail
  refine (wanted_any s _ _ _ _ _ ⟨owns_rd (A4.out.get (i := 4) rfl).own, owns_rd (A4.out.get (i := 5) rfl).own, owns_rd (A4.out.get (i := 6) rfl).own, owns_rd (A4.out.get (i := 7) rfl).own⟩ HS.out.i).mono ?_
  rintro e w3 ⟨rfl, hb3⟩
  rw [HW.out]
  have A5 := hideIt (A4.out.below hb3)
  clear A4 hb3 q0 q1 q2 q3 q4 q5 q6 q7 q8 q9 q10 q11 q12
  have q0 := A5.out.cell (i := 3) rfl 0 (.int .i64 s.kd) rfl
  have q1 := A5.out.cell (i := 3) rfl 1 (.int .i64 s.key) rfl
  have q2 := A5.out.cell (i := 3) rfl 2 (.int .i64 s.val) rfl
  have q3 := A5.out.cell (i := 3) rfl 3 (.int .i64 s.step) rfl
  have q4 := A5.out.cell (i := 3) rfl 4 (.int .i64 s.pg) rfl
  have q5 := A5.out.cell (i := 3) rfl 5 (.slice ak s.keys.length ck) rfl
  have q6 := A5.out.cell (i := 3) rfl 6 (.slice av s.vals.length cv) rfl
  have q7 := A5.out.cell (i := 3) rfl 7 (.slice ab s.bel.length cb) rfl
  have q8 := A5.out.cell (i := 3) rfl 8 (.slice ap s.pts.length cp) rfl
  have q9 := A5.out.cell (i := 3) rfl 9 (.string s.sw) rfl
  have q10 := A5.out.cell (i := 3) rfl 10 (.int .i64 s.ver) rfl
  have q11 := A5.out.cell (i := 3) rfl 11 (.bool s.fnd) rfl
  have q12 := A5.out.cell (i := 3) rfl 12 (.int .i64 s.va) rfl
  have n0 := A5.out.cell (i := 0) rfl 0 (.int .i64 n'.lv) rfl
  have n1 := A5.out.cell (i := 0) rfl 1 (.int .i64 n'.lk) rfl
  have n2 := A5.out.cell (i := 0) rfl 2 (.int .i64 n'.hi) rfl
  have n3 := A5.out.cell (i := 0) rfl 3 (.slice na n'.ks.length nc) rfl
  have n4 := A5.out.cell (i := 0) rfl 4 (.slice nva n'.vs.length nvc) rfl
  have p0 := A5.out.cell (i := 9) rfl 0 (.int .i64 ver) rfl
  have CC := hideIt (changeLeaf_on s n' ver (fndB n'.ks s.key n'.ks.length) (.slice ak s.keys.length ck) (.slice av s.vals.length cv) (.slice ab s.bel.length cb) (.slice ap s.pts.length cp) (.slice na n'.ks.length nc) (.slice nva n'.vs.length nvc) _ w _ w.heap.size HS.out.i (HT.out w [] (M.start w)) rfl HKD.out HK3.out HS.out.rng.2.2.1 HS.out.rng.2.2.2 hver hver2 hst0 hst HRR.out ht6 HFV.out rfl A5.out (.tail _ (.tail _ (.tail _ (.tail _ (.head _))))) (.tail _ (.tail _ (.tail _ (.tail _ (.tail _ (.head _)))))) (.tail _ (.tail _ (.tail _ (.tail _ (.tail _ (.tail _ (.head _))))))) (.tail _ (.tail _ (.tail _ (.tail _ (.tail _ (.tail _ (.tail _ (.head _)))))))) (.tail _ (.head _)) (.tail _ (.tail _ (.head _))) HR.out.2.2.2.1 HR.out.2.2.2.2.1)
  have HA5 := A5
  rcases HKD.out with h2 | h3
  all_goals
    first
      | have hk2 : (s.kd == 2) = true := by rw [h2]; rfl
      | (have hk2 : (s.kd == 2) = false := by rw [h3]; rfl
         have hk3 : (s.kd == 3) = true := by rw [h3]; rfl)
    try clear h2
    try clear h3
    go_wp2_with fail
    refine CC.out.mono ?_
    rintro e w5 ⟨⟨T, hT, c5, rfl, hc5⟩, hM5⟩
    clear A5 CC q0 q1 q2 q3 q4 q5 q6 q7 q8 q9 q10 q11 q12 n0 n1 n2 n3 n4 p0
    have A7 := hideIt hM5
    have HC5 := hideIt hc5
    have HTT := hideIt hT
    clear hM5 HA5 hc5 hT
    have r0 := A7.out.cell (i := 8) rfl 0 (.int .i64 0) rfl
    have f0 := A7.out.free (i := 8) rfl 0
    have r1 := A7.out.cell (i := 8) rfl 1 (.bool false) rfl
    have f1 := A7.out.free (i := 8) rfl 1
    have r2 := A7.out.cell (i := 8) rfl 2 (.int .i64 0) rfl
    have f2 := A7.out.free (i := 8) rfl 2
    have r3 := A7.out.cell (i := 8) rfl 3 (.int .i64 0) rfl
    have f3 := A7.out.free (i := 8) rfl 3
    have r4 := A7.out.cell (i := 8) rfl 4 (.slice none 0 0) rfl
    have f4 := A7.out.free (i := 8) rfl 4
    have r5 := A7.out.cell (i := 8) rfl 5 (.slice none 0 0) rfl
    have f5 := A7.out.free (i := 8) rfl 5
    have r6 := A7.out.cell (i := 8) rfl 6 (.slice none 0 0) rfl
    have f6 := A7.out.free (i := 8) rfl 6
    have hla := A7.out.lt (i := 8) rfl
    have S7 := hideIt (A7.out.store7 (i := 8) rfl (.int .i64 0) (.bool false) (.int .i64 0) (.int .i64 0) (.slice none 0 0) (.slice none 0 0) (.slice none 0 0))
    clear A7
    rw [show ans0 = #[.int .i64 0, .bool false, .int .i64 0, .int .i64 0, .slice none 0 0, .slice none 0 0, .slice none 0 0] from rfl]
    go_wp2
    refine bodyPost_ret (v := .tuple #[.string c5, .agg #[.int .i64 0, .bool false, .int .i64 0, .int .i64 0, .slice none 0 0, .slice none 0 0, .slice none 0 0], .bool false, .int .i64 0]) (by simp [results, Tryd.results70, go_sem, *]) rfl ?_
    exact ⟨c5, rfl, ⟨T, HTT.out, HC5.out⟩, S7.out.bl⟩

end Go.Proofs.YtjpgldeeopmbgaaDoor.Sap
