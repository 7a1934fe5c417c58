/- WHAT IS PROVED HERE: what tree.tellSwap answers. Conditions: named at each theorem. -/
import Derived.Test.YtajobgmnmbnhiaaGreatDoorPt28
namespace Go.Proofs.YtajobgmnmbnhiaaGreatDoor.Sap
open Go.RowKit
def clrS (s : St) : St := { s with sw := ⟨#[]⟩, ver := 0, laid := 0 }
set_option maxRecDepth 100000 in
set_option maxHeartbeats 800000 in
theorem tellSwap_not (s : St) (n : Nd) (pgs low : Int) (T : ByteArray) (kv vv bv pv : Value) (ka va ax ay : Option Addr) (kc vc cx cy : Nat) (w : World) (htab : Tab w) (hv : StV w s kv vv bv pv (.slice ax s.sp.length cx) (.slice ay s.sv.length cy)) (hi : StI { clrS s with pg := s.pg, step := s.step + 1 }) (hs : s.step ≤ 1000000000) (hs0 : 0 ≤ s.step) (hp : 0 ≤ s.pg) :
    Calls Tryz.prog 71 #[.agg #[.int .i64 s.kd, .int .i64 s.key, .int .i64 s.val, .int .i64 s.step, .int .i64 s.pg, kv, vv, bv, pv, .string s.sw, .int .i64 s.ver, .slice ax s.sp.length cx, .slice ay s.sv.length cy, .int .i64 s.laid, .int .i64 s.lv, .int .i64 s.low, .int .i64 s.ch, .int .i64 s.pt], .agg #[.int .i64 n.lv, .int .i64 n.lk, .int .i64 n.hi, .slice ka n.ks.length kc, .slice va n.vs.length vc, .int .i64 pgs, .int .i64 low, .string T], .bool false] w fun e w' => OnR { clrS s with pg := s.pg, step := s.step + 1 } e ∧ Below w.heap.size w w' := by
  obtain ⟨ak, ck, rfl⟩ := hv.keys.len
  obtain ⟨av, cv, rfl⟩ := hv.vals.len
  obtain ⟨ab, cb, rfl⟩ := hv.bel.len
  obtain ⟨ap, cp, rfl⟩ := hv.pts.len
  have A0 := (((M.start w).alloc #[.int .i64 s.kd, .int .i64 s.key, .int .i64 s.val, .int .i64 s.step, .int .i64 s.pg, .slice ak s.keys.length ck, .slice av s.vals.length cv, .slice ab s.bel.length cb, .slice ap s.pts.length cp, .string s.sw, .int .i64 s.ver, .slice ax s.sp.length cx, .slice ay s.sv.length cy, .int .i64 s.laid, .int .i64 s.lv, .int .i64 s.low, .int .i64 s.ch, .int .i64 s.pt] 92).alloc #[.int .i64 n.lv, .int .i64 n.lk, .int .i64 n.hi, .slice ka n.ks.length kc, .slice va n.vs.length vc, .int .i64 pgs, .int .i64 low, .string T] 120).alloc #[.int .i64 0, .bool false, .int .i64 0, .int .i64 0, .slice none 0 0, .slice none 0 0, .slice none 0 0] 46
  rw [alloc_size, alloc_size] at A0
  have HT := hideIt htab
  have HV := hideIt hv
  have C := hideIt (fun W (hb : Below w.heap.size w W) => readOn_any (clrS s) s.pg _ _ _ _ _ _ W (htab.below hb) ⟨HV.out.keys.below hb, HV.out.vals.below hb, HV.out.bel.below hb, HV.out.pts.below hb, HV.out.sp.below hb, HV.out.sv.below hb⟩ hi hs hs0 hp)
  clear hv hi htab hs hs0 hp
  go_enter Tryz.func71, Tryz.ntmps71
  go_upto_region 1 with fail
  generalize ((w.alloc (.cells #[.int .i64 s.kd, .int .i64 s.key, .int .i64 s.val, .int .i64 s.step, .int .i64 s.pg, .slice ak s.keys.length ck, .slice av s.vals.length cv, .slice ab s.bel.length cb, .slice ap s.pts.length cp, .string s.sw, .int .i64 s.ver, .slice ax s.sp.length cx, .slice ay s.sv.length cy, .int .i64 s.laid, .int .i64 s.lv, .int .i64 s.low, .int .i64 s.ch, .int .i64 s.pt] 92)).alloc (.cells #[.int .i64 n.lv, .int .i64 n.lk, .int .i64 n.hi, .slice ka n.ks.length kc, .slice va n.vs.length vc, .int .i64 pgs, .int .i64 low, .string T] 120)).alloc (.cells #[.int .i64 0, .bool false, .int .i64 0, .int .i64 0, .slice none 0 0, .slice none 0 0, .slice none 0 0] 46) = W at A0 ⊢
  obtain ⟨g0, hg0⟩ : ∃ g, w.heap.size = g := ⟨_, rfl⟩
  have HG0 := hideIt hg0
  rw [hg0] at A0 C ⊢
  clear hg0
  have A1 := hideIt A0
  clear A0
  have q9 := A1.out.cell (i := 2) rfl 9 (.string s.sw) rfl
  have f9 := A1.out.free (i := 2) rfl 9
  have A2 := hideIt (A1.out.store (i := 2) (j := 9) rfl (.string ⟨#[]⟩) (c' := #[.int .i64 s.kd, .int .i64 s.key, .int .i64 s.val, .int .i64 s.step, .int .i64 s.pg, .slice ak s.keys.length ck, .slice av s.vals.length cv, .slice ab s.bel.length cb, .slice ap s.pts.length cp, .string ⟨#[]⟩, .int .i64 s.ver, .slice ax s.sp.length cx, .slice ay s.sv.length cy, .int .i64 s.laid, .int .i64 s.lv, .int .i64 s.low, .int .i64 s.ch, .int .i64 s.pt]) rfl)
  have q10 := A2.out.cell (i := 2) rfl 10 (.int .i64 s.ver) rfl
  have f10 := A2.out.free (i := 2) rfl 10
  have A3 := hideIt (A2.out.store (i := 2) (j := 10) rfl (.int .i64 0) (c' := #[.int .i64 s.kd, .int .i64 s.key, .int .i64 s.val, .int .i64 s.step, .int .i64 s.pg, .slice ak s.keys.length ck, .slice av s.vals.length cv, .slice ab s.bel.length cb, .slice ap s.pts.length cp, .string ⟨#[]⟩, .int .i64 0, .slice ax s.sp.length cx, .slice ay s.sv.length cy, .int .i64 s.laid, .int .i64 s.lv, .int .i64 s.low, .int .i64 s.ch, .int .i64 s.pt]) rfl)
  have q13 := A3.out.cell (i := 2) rfl 13 (.int .i64 s.laid) rfl
  have f13 := A3.out.free (i := 2) rfl 13
  have A4 := hideIt (A3.out.store (i := 2) (j := 13) rfl (.int .i64 0) (c' := #[.int .i64 s.kd, .int .i64 s.key, .int .i64 s.val, .int .i64 s.step, .int .i64 s.pg, .slice ak s.keys.length ck, .slice av s.vals.length cv, .slice ab s.bel.length cb, .slice ap s.pts.length cp, .string ⟨#[]⟩, .int .i64 0, .slice ax s.sp.length cx, .slice ay s.sv.length cy, .int .i64 0, .int .i64 s.lv, .int .i64 s.low, .int .i64 s.ch, .int .i64 s.pt]) rfl)
  have q4 := A4.out.cell (i := 2) rfl 4 (.int .i64 s.pg) rfl
  go_upto_region 5 with fail
  go_wp2_with (refine wpList_load_row rfl 92 _ rfl _ rfl 92 _ (0, 0) _ (A4.out.block (i := 2) rfl) Tryz.underlying92 rfl infoState ?_)
  refine (C.out _ A4.out.bl).mono ?_
  rintro e w1 ⟨⟨c, rfl, hc⟩, hb⟩
  have HC := hideIt hc
  have A6 := hideIt (A4.out.below hb)
  clear A1 A2 A3 q9 q10 q13 f9 f10 f13 A4 q4 hc hb C
  have r0 := A6.out.cell (i := 0) rfl 0 (.int .i64 0) rfl
  have f0 := A6.out.free (i := 0) rfl 0
  have r1 := A6.out.cell (i := 0) rfl 1 (.bool false) rfl
  have f1 := A6.out.free (i := 0) rfl 1
  have r2 := A6.out.cell (i := 0) rfl 2 (.int .i64 0) rfl
  have f2 := A6.out.free (i := 0) rfl 2
  have r3 := A6.out.cell (i := 0) rfl 3 (.int .i64 0) rfl
  have f3 := A6.out.free (i := 0) rfl 3
  have r4 := A6.out.cell (i := 0) rfl 4 (.slice none 0 0) rfl
  have f4 := A6.out.free (i := 0) rfl 4
  have r5 := A6.out.cell (i := 0) rfl 5 (.slice none 0 0) rfl
  have f5 := A6.out.free (i := 0) rfl 5
  have r6 := A6.out.cell (i := 0) rfl 6 (.slice none 0 0) rfl
  have f6 := A6.out.free (i := 0) rfl 6
  have BL := hideIt A6.out.bl
  clear A6
  rw [show ans0 = #[.int .i64 0, .bool false, .int .i64 0, .int .i64 0, .slice none 0 0, .slice none 0 0, .slice none 0 0] from rfl]
  go_wp2
  refine bodyPost_ret (v := .tuple #[.string c, .agg #[.int .i64 0, .bool false, .int .i64 0, .int .i64 0, .slice none 0 0, .slice none 0 0, .slice none 0 0], .bool false, .int .i64 0]) (by simp [results, Tryz.results71, go_sem, *]) rfl ⟨⟨c, rfl, HC.out⟩, ?_⟩
  rw [HG0.out]
  repeat (refine Below.setCell ?_ (show g0 ≤ g0 + 1 + 1 by omega) _)
  exact BL.out
set_option maxRecDepth 100000 in
set_option maxHeartbeats 800000 in
theorem tellSwap_finN (s : St) (n : Nd) (pgs low : Int) (T : ByteArray) (kv vv bv pv : Value) (ka va ax ay : Option Addr) (kc vc cx cy : Nat) (w : World) (htab : Tab w) (hv : StV w s kv vv bv pv (.slice ax s.sp.length cx) (.slice ay s.sv.length cy)) (hlv : s.lv ≠ 0) (hpg : pgs ≠ 1) :
    Calls Tryz.prog 71 #[.agg #[.int .i64 s.kd, .int .i64 s.key, .int .i64 s.val, .int .i64 s.step, .int .i64 s.pg, kv, vv, bv, pv, .string s.sw, .int .i64 s.ver, .slice ax s.sp.length cx, .slice ay s.sv.length cy, .int .i64 s.laid, .int .i64 s.lv, .int .i64 s.low, .int .i64 s.ch, .int .i64 s.pt], .agg #[.int .i64 n.lv, .int .i64 n.lk, .int .i64 n.hi, .slice ka n.ks.length kc, .slice va n.vs.length vc, .int .i64 pgs, .int .i64 low, .string T], .bool true] w fun e w' => e = .returned (.tuple #[.string ⟨#[]⟩, .agg (ansG false 0 s.pt), .bool true, .int .i64 0]) ∧ Below w.heap.size w w' := by
  obtain ⟨ak, ck, rfl⟩ := hv.keys.len
  obtain ⟨av, cv, rfl⟩ := hv.vals.len
  obtain ⟨ab, cb, rfl⟩ := hv.bel.len
  obtain ⟨ap, cp, rfl⟩ := hv.pts.len
  have A0 := (((M.start w).alloc #[.int .i64 s.kd, .int .i64 s.key, .int .i64 s.val, .int .i64 s.step, .int .i64 s.pg, .slice ak s.keys.length ck, .slice av s.vals.length cv, .slice ab s.bel.length cb, .slice ap s.pts.length cp, .string s.sw, .int .i64 s.ver, .slice ax s.sp.length cx, .slice ay s.sv.length cy, .int .i64 s.laid, .int .i64 s.lv, .int .i64 s.low, .int .i64 s.ch, .int .i64 s.pt] 92).alloc #[.int .i64 n.lv, .int .i64 n.lk, .int .i64 n.hi, .slice ka n.ks.length kc, .slice va n.vs.length vc, .int .i64 pgs, .int .i64 low, .string T] 120).alloc #[.int .i64 0, .bool false, .int .i64 0, .int .i64 0, .slice none 0 0, .slice none 0 0, .slice none 0 0] 46
  rw [alloc_size, alloc_size] at A0
  have HT := hideIt htab
  have HV := hideIt hv
  have hlvb : (s.lv == 0) = false := by simp [hlv]
  have hpgb : (pgs != 1) = true := by simp [hpg]
  clear hv htab hlv hpg
  go_enter Tryz.func71, Tryz.ntmps71
  go_upto_region 1 with fail
  generalize ((w.alloc (.cells #[.int .i64 s.kd, .int .i64 s.key, .int .i64 s.val, .int .i64 s.step, .int .i64 s.pg, .slice ak s.keys.length ck, .slice av s.vals.length cv, .slice ab s.bel.length cb, .slice ap s.pts.length cp, .string s.sw, .int .i64 s.ver, .slice ax s.sp.length cx, .slice ay s.sv.length cy, .int .i64 s.laid, .int .i64 s.lv, .int .i64 s.low, .int .i64 s.ch, .int .i64 s.pt] 92)).alloc (.cells #[.int .i64 n.lv, .int .i64 n.lk, .int .i64 n.hi, .slice ka n.ks.length kc, .slice va n.vs.length vc, .int .i64 pgs, .int .i64 low, .string T] 120)).alloc (.cells #[.int .i64 0, .bool false, .int .i64 0, .int .i64 0, .slice none 0 0, .slice none 0 0, .slice none 0 0] 46) = W at A0 ⊢
  obtain ⟨g0, hg0⟩ : ∃ g, w.heap.size = g := ⟨_, rfl⟩
  have HG0 := hideIt hg0
  rw [hg0] at A0 ⊢
  clear hg0
  have A1 := hideIt A0
  clear A0
  have q9 := A1.out.cell (i := 2) rfl 9 (.string s.sw) rfl
  have f9 := A1.out.free (i := 2) rfl 9
  have A2 := hideIt (A1.out.store (i := 2) (j := 9) rfl (.string ⟨#[]⟩) (c' := #[.int .i64 s.kd, .int .i64 s.key, .int .i64 s.val, .int .i64 s.step, .int .i64 s.pg, .slice ak s.keys.length ck, .slice av s.vals.length cv, .slice ab s.bel.length cb, .slice ap s.pts.length cp, .string ⟨#[]⟩, .int .i64 s.ver, .slice ax s.sp.length cx, .slice ay s.sv.length cy, .int .i64 s.laid, .int .i64 s.lv, .int .i64 s.low, .int .i64 s.ch, .int .i64 s.pt]) rfl)
  have q10 := A2.out.cell (i := 2) rfl 10 (.int .i64 s.ver) rfl
  have f10 := A2.out.free (i := 2) rfl 10
  have A3 := hideIt (A2.out.store (i := 2) (j := 10) rfl (.int .i64 0) (c' := #[.int .i64 s.kd, .int .i64 s.key, .int .i64 s.val, .int .i64 s.step, .int .i64 s.pg, .slice ak s.keys.length ck, .slice av s.vals.length cv, .slice ab s.bel.length cb, .slice ap s.pts.length cp, .string ⟨#[]⟩, .int .i64 0, .slice ax s.sp.length cx, .slice ay s.sv.length cy, .int .i64 s.laid, .int .i64 s.lv, .int .i64 s.low, .int .i64 s.ch, .int .i64 s.pt]) rfl)
  have q13 := A3.out.cell (i := 2) rfl 13 (.int .i64 s.laid) rfl
  have f13 := A3.out.free (i := 2) rfl 13
  have A4 := hideIt (A3.out.store (i := 2) (j := 13) rfl (.int .i64 0) (c' := #[.int .i64 s.kd, .int .i64 s.key, .int .i64 s.val, .int .i64 s.step, .int .i64 s.pg, .slice ak s.keys.length ck, .slice av s.vals.length cv, .slice ab s.bel.length cb, .slice ap s.pts.length cp, .string ⟨#[]⟩, .int .i64 0, .slice ax s.sp.length cx, .slice ay s.sv.length cy, .int .i64 0, .int .i64 s.lv, .int .i64 s.low, .int .i64 s.ch, .int .i64 s.pt]) rfl)
  have q17 := A4.out.cell (i := 2) rfl 17 (.int .i64 s.pt) rfl
  have A5 := hideIt (A4.out.alloc #[.int .i64 0, .bool false, .int .i64 0, .int .i64 s.pt, .slice none 0 0, .slice none 0 0, .slice none 0 0] 46)
  go_upto_region 7 with fail
  simp only [sz_setCell] at A5
  generalize (((W.setCell ⟨g0, 9, none⟩ (.string ⟨#[]⟩)).setCell ⟨g0, 10, none⟩ (.int .i64 0)).setCell ⟨g0, 13, none⟩ (.int .i64 0)).alloc (.cells #[.int .i64 0, .bool false, .int .i64 0, .int .i64 s.pt, .slice none 0 0, .slice none 0 0, .slice none 0 0] 46) = W5 at A5 ⊢
  generalize W.heap.size = gh at A5 ⊢
  clear A1 A2 A3 q9 q10 q13 f9 f10 f13 A4 q17
  have q14 := A5.out.cell (i := 3) rfl 14 (.int .i64 s.lv) rfl
  have e0 := A5.out.cell (i := 0) rfl 0 (.int .i64 0) rfl
  have e1 := A5.out.cell (i := 0) rfl 1 (.bool false) rfl
  have e2 := A5.out.cell (i := 0) rfl 2 (.int .i64 0) rfl
  have e3 := A5.out.cell (i := 0) rfl 3 (.int .i64 s.pt) rfl
  have e4 := A5.out.cell (i := 0) rfl 4 (.slice none 0 0) rfl
  have e5 := A5.out.cell (i := 0) rfl 5 (.slice none 0 0) rfl
  have e6 := A5.out.cell (i := 0) rfl 6 (.slice none 0 0) rfl
  have d5 := A5.out.cell (i := 2) rfl 5 (.int .i64 pgs) rfl
  have d6 := A5.out.cell (i := 2) rfl 6 (.int .i64 low) rfl
  have r0 := A5.out.cell (i := 1) rfl 0 (.int .i64 0) rfl
  have f0 := A5.out.free (i := 1) rfl 0
  have r1 := A5.out.cell (i := 1) rfl 1 (.bool false) rfl
  have f1 := A5.out.free (i := 1) rfl 1
  have r2 := A5.out.cell (i := 1) rfl 2 (.int .i64 0) rfl
  have f2 := A5.out.free (i := 1) rfl 2
  have r3 := A5.out.cell (i := 1) rfl 3 (.int .i64 0) rfl
  have f3 := A5.out.free (i := 1) rfl 3
  have r4 := A5.out.cell (i := 1) rfl 4 (.slice none 0 0) rfl
  have f4 := A5.out.free (i := 1) rfl 4
  have r5 := A5.out.cell (i := 1) rfl 5 (.slice none 0 0) rfl
  have f5 := A5.out.free (i := 1) rfl 5
  have r6 := A5.out.cell (i := 1) rfl 6 (.slice none 0 0) rfl
  have f6 := A5.out.free (i := 1) rfl 6
  have S7 := hideIt (A5.out.store7 (i := 1) rfl (.int .i64 0) (.bool false) (.int .i64 0) (.int .i64 s.pt) (.slice none 0 0) (.slice none 0 0) (.slice none 0 0))
  go_upto_region 10 with fail
  go_region
  all_goals
    go_wp2
    refine bodyPost_ret (v := .tuple #[.string ⟨#[]⟩, .agg #[.int .i64 0, .bool false, .int .i64 0, .int .i64 s.pt, .slice none 0 0, .slice none 0 0, .slice none 0 0], .bool true, .int .i64 0]) (by simp [results, Tryz.results71, go_sem, *]) rfl ?_
    refine ⟨rfl, ?_⟩
    have hb9 := (S7.out.drewN 1).bl
    rw [HG0.out]
    exact hb9
set_option maxRecDepth 100000 in
set_option maxHeartbeats 800000 in
theorem tellSwap_fin0 (s : St) (n : Nd) (pgs low : Int) (T : ByteArray) (kv vv bv pv : Value) (ka va ax ay : Option Addr) (kc vc cx cy : Nat) (w : World) (htab : Tab w) (hv : StV w s kv vv bv pv (.slice ax s.sp.length cx) (.slice ay s.sv.length cy)) (hlv : s.lv = 0) (hkd : Rd w (.slice ka n.ks.length kc) n.ks) (hvd : Rd w (.slice va n.vs.length vc) n.vs) (hn : n.ks.length = n.vs.length) (h6 : n.ks.length ≤ 6) (hpg : pgs ≠ 1) :
    Calls Tryz.prog 71 #[.agg #[.int .i64 s.kd, .int .i64 s.key, .int .i64 s.val, .int .i64 s.step, .int .i64 s.pg, kv, vv, bv, pv, .string s.sw, .int .i64 s.ver, .slice ax s.sp.length cx, .slice ay s.sv.length cy, .int .i64 s.laid, .int .i64 s.lv, .int .i64 s.low, .int .i64 s.ch, .int .i64 s.pt], .agg #[.int .i64 n.lv, .int .i64 n.lk, .int .i64 n.hi, .slice ka n.ks.length kc, .slice va n.vs.length vc, .int .i64 pgs, .int .i64 low, .string T], .bool true] w fun e w' => e = .returned (.tuple #[.string ⟨#[]⟩, .agg (ansG (fndB n.ks s.key n.ks.length) (fndV n.ks n.vs s.key n.ks.length) s.step), .bool true, .int .i64 0]) ∧ Below w.heap.size w w' := by
  obtain ⟨ak, ck, rfl⟩ := hv.keys.len
  obtain ⟨av, cv, rfl⟩ := hv.vals.len
  obtain ⟨ab, cb, rfl⟩ := hv.bel.len
  obtain ⟨ap, cp, rfl⟩ := hv.pts.len
  have A0 := (((M.start w).alloc #[.int .i64 s.kd, .int .i64 s.key, .int .i64 s.val, .int .i64 s.step, .int .i64 s.pg, .slice ak s.keys.length ck, .slice av s.vals.length cv, .slice ab s.bel.length cb, .slice ap s.pts.length cp, .string s.sw, .int .i64 s.ver, .slice ax s.sp.length cx, .slice ay s.sv.length cy, .int .i64 s.laid, .int .i64 s.lv, .int .i64 s.low, .int .i64 s.ch, .int .i64 s.pt] 92).alloc #[.int .i64 n.lv, .int .i64 n.lk, .int .i64 n.hi, .slice ka n.ks.length kc, .slice va n.vs.length vc, .int .i64 pgs, .int .i64 low, .string T] 120).alloc #[.int .i64 0, .bool false, .int .i64 0, .int .i64 0, .slice none 0 0, .slice none 0 0, .slice none 0 0] 46
  rw [alloc_size, alloc_size] at A0
  have HT := hideIt htab
  have HV := hideIt hv
  have hlvb : (s.lv == 0) = true := by simp [hlv]
  have hpgb : (pgs != 1) = true := by simp [hpg]
  have CK := hideIt (fun W (hb : Below w.heap.size w W) => lookUp_any (clrS s) n _ _ _ _ _ _ _ _ W ⟨HV.out.keys.below hb, HV.out.vals.below hb, HV.out.bel.below hb, HV.out.pts.below hb, HV.out.sp.below hb, HV.out.sv.below hb⟩ (hkd.below hb) (hvd.below hb) hn h6)
  clear hv htab hlv hpg hkd hvd hn h6
  go_enter Tryz.func71, Tryz.ntmps71
  go_upto_region 1 with fail
  generalize ((w.alloc (.cells #[.int .i64 s.kd, .int .i64 s.key, .int .i64 s.val, .int .i64 s.step, .int .i64 s.pg, .slice ak s.keys.length ck, .slice av s.vals.length cv, .slice ab s.bel.length cb, .slice ap s.pts.length cp, .string s.sw, .int .i64 s.ver, .slice ax s.sp.length cx, .slice ay s.sv.length cy, .int .i64 s.laid, .int .i64 s.lv, .int .i64 s.low, .int .i64 s.ch, .int .i64 s.pt] 92)).alloc (.cells #[.int .i64 n.lv, .int .i64 n.lk, .int .i64 n.hi, .slice ka n.ks.length kc, .slice va n.vs.length vc, .int .i64 pgs, .int .i64 low, .string T] 120)).alloc (.cells #[.int .i64 0, .bool false, .int .i64 0, .int .i64 0, .slice none 0 0, .slice none 0 0, .slice none 0 0] 46) = W at A0 ⊢
  obtain ⟨g0, hg0⟩ : ∃ g, w.heap.size = g := ⟨_, rfl⟩
  have HG0 := hideIt hg0
  rw [hg0] at A0 CK ⊢
  clear hg0
  have A1 := hideIt A0
  clear A0
  have q9 := A1.out.cell (i := 2) rfl 9 (.string s.sw) rfl
  have f9 := A1.out.free (i := 2) rfl 9
  have A2 := hideIt (A1.out.store (i := 2) (j := 9) rfl (.string ⟨#[]⟩) (c' := #[.int .i64 s.kd, .int .i64 s.key, .int .i64 s.val, .int .i64 s.step, .int .i64 s.pg, .slice ak s.keys.length ck, .slice av s.vals.length cv, .slice ab s.bel.length cb, .slice ap s.pts.length cp, .string ⟨#[]⟩, .int .i64 s.ver, .slice ax s.sp.length cx, .slice ay s.sv.length cy, .int .i64 s.laid, .int .i64 s.lv, .int .i64 s.low, .int .i64 s.ch, .int .i64 s.pt]) rfl)
  have q10 := A2.out.cell (i := 2) rfl 10 (.int .i64 s.ver) rfl
  have f10 := A2.out.free (i := 2) rfl 10
  have A3 := hideIt (A2.out.store (i := 2) (j := 10) rfl (.int .i64 0) (c' := #[.int .i64 s.kd, .int .i64 s.key, .int .i64 s.val, .int .i64 s.step, .int .i64 s.pg, .slice ak s.keys.length ck, .slice av s.vals.length cv, .slice ab s.bel.length cb, .slice ap s.pts.length cp, .string ⟨#[]⟩, .int .i64 0, .slice ax s.sp.length cx, .slice ay s.sv.length cy, .int .i64 s.laid, .int .i64 s.lv, .int .i64 s.low, .int .i64 s.ch, .int .i64 s.pt]) rfl)
  have q13 := A3.out.cell (i := 2) rfl 13 (.int .i64 s.laid) rfl
  have f13 := A3.out.free (i := 2) rfl 13
  have A4 := hideIt (A3.out.store (i := 2) (j := 13) rfl (.int .i64 0) (c' := #[.int .i64 s.kd, .int .i64 s.key, .int .i64 s.val, .int .i64 s.step, .int .i64 s.pg, .slice ak s.keys.length ck, .slice av s.vals.length cv, .slice ab s.bel.length cb, .slice ap s.pts.length cp, .string ⟨#[]⟩, .int .i64 0, .slice ax s.sp.length cx, .slice ay s.sv.length cy, .int .i64 0, .int .i64 s.lv, .int .i64 s.low, .int .i64 s.ch, .int .i64 s.pt]) rfl)
  have q17 := A4.out.cell (i := 2) rfl 17 (.int .i64 s.pt) rfl
  have A5 := hideIt (A4.out.alloc #[.int .i64 0, .bool false, .int .i64 0, .int .i64 s.pt, .slice none 0 0, .slice none 0 0, .slice none 0 0] 46)
  go_upto_region 7 with fail
  simp only [sz_setCell] at A5
  generalize (((W.setCell ⟨g0, 9, none⟩ (.string ⟨#[]⟩)).setCell ⟨g0, 10, none⟩ (.int .i64 0)).setCell ⟨g0, 13, none⟩ (.int .i64 0)).alloc (.cells #[.int .i64 0, .bool false, .int .i64 0, .int .i64 s.pt, .slice none 0 0, .slice none 0 0, .slice none 0 0] 46) = W5 at A5 ⊢
  generalize W.heap.size = gh at A5 ⊢
  clear A1 A2 A3 q9 q10 q13 f9 f10 f13 A4 q17
  have q14 := A5.out.cell (i := 3) rfl 14 (.int .i64 s.lv) rfl
  have c0 := A5.out.cell (i := 2) rfl 0 (.int .i64 n.lv) rfl
  have c1 := A5.out.cell (i := 2) rfl 1 (.int .i64 n.lk) rfl
  have c2 := A5.out.cell (i := 2) rfl 2 (.int .i64 n.hi) rfl
  have c3 := A5.out.cell (i := 2) rfl 3 (.slice ka n.ks.length kc) rfl
  have c4 := A5.out.cell (i := 2) rfl 4 (.slice va n.vs.length vc) rfl
  have CS := CK.out _ A5.out.bl
  obtain ⟨fd, hfd⟩ : ∃ x, fndB n.ks (clrS s).key n.ks.length = x := ⟨_, rfl⟩
  obtain ⟨va0, hva0⟩ : ∃ x, fndV n.ks n.vs (clrS s).key n.ks.length = x := ⟨_, rfl⟩
  rw [hfd, hva0, show (clrS s).step = s.step from rfl] at CS
  have HFD : Hid (fndB n.ks s.key n.ks.length = fd) := hfd
  have HVA : Hid (fndV n.ks n.vs s.key n.ks.length = va0) := hva0
  have HCS := hideIt CS
  clear CS hfd hva0 CK
  go_upto_region 8 with fail
  go_wp2_with (refine wpList_load_row rfl 92 _ rfl _ rfl 92 _ (0, 0) _ (A5.out.block (i := 3) rfl) Tryz.underlying92 rfl infoState ?_)
  refine HCS.out.mono ?_
  rintro e w2 ⟨rfl, hb⟩
  rw [show ansG fd va0 s.step = #[.int .i64 0, .bool fd, .int .i64 va0, .int .i64 s.step, .slice none 0 0, .slice none 0 0, .slice none 0 0] from rfl]
  have A6 := hideIt (A5.out.below hb)
  clear A5 HCS hb c0 c1 c2 c3 c4 q14
  have h0 := A6.out.cell (i := 0) rfl 0 (.int .i64 0) rfl
  have k0 := A6.out.free (i := 0) rfl 0
  have h1 := A6.out.cell (i := 0) rfl 1 (.bool false) rfl
  have k1 := A6.out.free (i := 0) rfl 1
  have h2 := A6.out.cell (i := 0) rfl 2 (.int .i64 0) rfl
  have k2 := A6.out.free (i := 0) rfl 2
  have h3 := A6.out.cell (i := 0) rfl 3 (.int .i64 s.pt) rfl
  have k3 := A6.out.free (i := 0) rfl 3
  have h4 := A6.out.cell (i := 0) rfl 4 (.slice none 0 0) rfl
  have k4 := A6.out.free (i := 0) rfl 4
  have h5 := A6.out.cell (i := 0) rfl 5 (.slice none 0 0) rfl
  have k5 := A6.out.free (i := 0) rfl 5
  have h6 := A6.out.cell (i := 0) rfl 6 (.slice none 0 0) rfl
  have k6 := A6.out.free (i := 0) rfl 6
  have A7 := hideIt (A6.out.store7 (i := 0) rfl (.int .i64 0) (.bool fd) (.int .i64 va0) (.int .i64 s.step) (.slice none 0 0) (.slice none 0 0) (.slice none 0 0))
  have e0 := A7.out.cell (i := 0) rfl 0 (.int .i64 0) rfl
  have e1 := A7.out.cell (i := 0) rfl 1 (.bool fd) rfl
  have e2 := A7.out.cell (i := 0) rfl 2 (.int .i64 va0) rfl
  have e3 := A7.out.cell (i := 0) rfl 3 (.int .i64 s.step) rfl
  have e4 := A7.out.cell (i := 0) rfl 4 (.slice none 0 0) rfl
  have e5 := A7.out.cell (i := 0) rfl 5 (.slice none 0 0) rfl
  have e6 := A7.out.cell (i := 0) rfl 6 (.slice none 0 0) rfl
  have d5 := A7.out.cell (i := 2) rfl 5 (.int .i64 pgs) rfl
  have d6 := A7.out.cell (i := 2) rfl 6 (.int .i64 low) rfl
  have r0 := A7.out.cell (i := 1) rfl 0 (.int .i64 0) rfl
  have f0 := A7.out.free (i := 1) rfl 0
  have r1 := A7.out.cell (i := 1) rfl 1 (.bool false) rfl
  have f1 := A7.out.free (i := 1) rfl 1
  have r2 := A7.out.cell (i := 1) rfl 2 (.int .i64 0) rfl
  have f2 := A7.out.free (i := 1) rfl 2
  have r3 := A7.out.cell (i := 1) rfl 3 (.int .i64 0) rfl
  have f3 := A7.out.free (i := 1) rfl 3
  have r4 := A7.out.cell (i := 1) rfl 4 (.slice none 0 0) rfl
  have f4 := A7.out.free (i := 1) rfl 4
  have r5 := A7.out.cell (i := 1) rfl 5 (.slice none 0 0) rfl
  have f5 := A7.out.free (i := 1) rfl 5
  have r6 := A7.out.cell (i := 1) rfl 6 (.slice none 0 0) rfl
  have f6 := A7.out.free (i := 1) rfl 6
  have S7 := hideIt (A7.out.store7 (i := 1) rfl (.int .i64 0) (.bool fd) (.int .i64 va0) (.int .i64 s.step) (.slice none 0 0) (.slice none 0 0) (.slice none 0 0))
  go_upto_region 10 with fail
  go_region
  all_goals
    go_wp2
    refine bodyPost_ret (v := .tuple #[.string ⟨#[]⟩, .agg #[.int .i64 0, .bool fd, .int .i64 va0, .int .i64 s.step, .slice none 0 0, .slice none 0 0, .slice none 0 0], .bool true, .int .i64 0]) (by simp [results, Tryz.results71, go_sem, *]) rfl ?_
    refine ⟨by rw [HFD.out, HVA.out]; rfl, ?_⟩
    have hb9 := (S7.out.drewN 1).bl
    rw [HG0.out]
    exact hb9
set_option maxRecDepth 100000 in
set_option maxHeartbeats 800000 in
theorem tellSwap_entN (s : St) (n : Nd) (pgs low : Int) (T : ByteArray) (kv vv bv pv : Value) (ka va ax ay : Option Addr) (kc vc cx cy : Nat) (w : World) (htab : Tab w) (hv : StV w s kv vv bv pv (.slice ax s.sp.length cx) (.slice ay s.sv.length cy)) (hlv : s.lv ≠ 0) (hpg : pgs = 1) (hsp : 0 < s.sp.length) (hsp2 : s.sp.length ≤ 2) (hspl : s.sp.length = s.sv.length) (hcx : s.sp.length ≤ cx) (hcy : s.sv.length ≤ cy) (hi : StI (entS { clrS s with pt := s.pt } low)) (hs : s.step ≤ 1000000000) (hs0 : 0 ≤ s.step) (hl9 : 0 ≤ s.lv ∧ s.lv ≤ 9) :
    Calls Tryz.prog 71 #[.agg #[.int .i64 s.kd, .int .i64 s.key, .int .i64 s.val, .int .i64 s.step, .int .i64 s.pg, kv, vv, bv, pv, .string s.sw, .int .i64 s.ver, .slice ax s.sp.length cx, .slice ay s.sv.length cy, .int .i64 s.laid, .int .i64 s.lv, .int .i64 s.low, .int .i64 s.ch, .int .i64 s.pt], .agg #[.int .i64 n.lv, .int .i64 n.lk, .int .i64 n.hi, .slice ka n.ks.length kc, .slice va n.vs.length vc, .int .i64 pgs, .int .i64 low, .string T], .bool true] w fun e w' => OnR (entS { clrS s with pt := s.pt } low) e ∧ Below w.heap.size w w' := by
  obtain ⟨ak, ck, rfl⟩ := hv.keys.len
  obtain ⟨av, cv, rfl⟩ := hv.vals.len
  obtain ⟨ab, cb, rfl⟩ := hv.bel.len
  obtain ⟨ap, cp, rfl⟩ := hv.pts.len
  have A0 := (((M.start w).alloc #[.int .i64 s.kd, .int .i64 s.key, .int .i64 s.val, .int .i64 s.step, .int .i64 s.pg, .slice ak s.keys.length ck, .slice av s.vals.length cv, .slice ab s.bel.length cb, .slice ap s.pts.length cp, .string s.sw, .int .i64 s.ver, .slice ax s.sp.length cx, .slice ay s.sv.length cy, .int .i64 s.laid, .int .i64 s.lv, .int .i64 s.low, .int .i64 s.ch, .int .i64 s.pt] 92).alloc #[.int .i64 n.lv, .int .i64 n.lk, .int .i64 n.hi, .slice ka n.ks.length kc, .slice va n.vs.length vc, .int .i64 pgs, .int .i64 low, .string T] 120).alloc #[.int .i64 0, .bool false, .int .i64 0, .int .i64 0, .slice none 0 0, .slice none 0 0, .slice none 0 0] 46
  rw [alloc_size, alloc_size] at A0
  have HT := hideIt htab
  have HV := hideIt hv
  have hlvb : (s.lv == 0) = false := by simp [hlv]
  have hpgb : (pgs != 1) = false := by simp [hpg]
  have C := hideIt (fun W (hb : Below w.heap.size w W) => enterHalf_any { clrS s with pt := s.pt } low _ _ _ _ ax ay cx cy W (htab.below hb) ⟨HV.out.keys.below hb, HV.out.vals.below hb, HV.out.bel.below hb, HV.out.pts.below hb, HV.out.sp.below hb, HV.out.sv.below hb⟩ hsp hsp2 hspl hcx hcy hi hs hs0 hl9)
  clear hv htab hlv hpg hsp hsp2 hspl hcx hcy hi hs hs0 hl9
  go_enter Tryz.func71, Tryz.ntmps71
  go_upto_region 1 with fail
  generalize ((w.alloc (.cells #[.int .i64 s.kd, .int .i64 s.key, .int .i64 s.val, .int .i64 s.step, .int .i64 s.pg, .slice ak s.keys.length ck, .slice av s.vals.length cv, .slice ab s.bel.length cb, .slice ap s.pts.length cp, .string s.sw, .int .i64 s.ver, .slice ax s.sp.length cx, .slice ay s.sv.length cy, .int .i64 s.laid, .int .i64 s.lv, .int .i64 s.low, .int .i64 s.ch, .int .i64 s.pt] 92)).alloc (.cells #[.int .i64 n.lv, .int .i64 n.lk, .int .i64 n.hi, .slice ka n.ks.length kc, .slice va n.vs.length vc, .int .i64 pgs, .int .i64 low, .string T] 120)).alloc (.cells #[.int .i64 0, .bool false, .int .i64 0, .int .i64 0, .slice none 0 0, .slice none 0 0, .slice none 0 0] 46) = W at A0 ⊢
  obtain ⟨g0, hg0⟩ : ∃ g, w.heap.size = g := ⟨_, rfl⟩
  have HG0 := hideIt hg0
  rw [hg0] at A0 C ⊢
  clear hg0
  have A1 := hideIt A0
  clear A0
  have q9 := A1.out.cell (i := 2) rfl 9 (.string s.sw) rfl
  have f9 := A1.out.free (i := 2) rfl 9
  have A2 := hideIt (A1.out.store (i := 2) (j := 9) rfl (.string ⟨#[]⟩) (c' := #[.int .i64 s.kd, .int .i64 s.key, .int .i64 s.val, .int .i64 s.step, .int .i64 s.pg, .slice ak s.keys.length ck, .slice av s.vals.length cv, .slice ab s.bel.length cb, .slice ap s.pts.length cp, .string ⟨#[]⟩, .int .i64 s.ver, .slice ax s.sp.length cx, .slice ay s.sv.length cy, .int .i64 s.laid, .int .i64 s.lv, .int .i64 s.low, .int .i64 s.ch, .int .i64 s.pt]) rfl)
  have q10 := A2.out.cell (i := 2) rfl 10 (.int .i64 s.ver) rfl
  have f10 := A2.out.free (i := 2) rfl 10
  have A3 := hideIt (A2.out.store (i := 2) (j := 10) rfl (.int .i64 0) (c' := #[.int .i64 s.kd, .int .i64 s.key, .int .i64 s.val, .int .i64 s.step, .int .i64 s.pg, .slice ak s.keys.length ck, .slice av s.vals.length cv, .slice ab s.bel.length cb, .slice ap s.pts.length cp, .string ⟨#[]⟩, .int .i64 0, .slice ax s.sp.length cx, .slice ay s.sv.length cy, .int .i64 s.laid, .int .i64 s.lv, .int .i64 s.low, .int .i64 s.ch, .int .i64 s.pt]) rfl)
  have q13 := A3.out.cell (i := 2) rfl 13 (.int .i64 s.laid) rfl
  have f13 := A3.out.free (i := 2) rfl 13
  have A4 := hideIt (A3.out.store (i := 2) (j := 13) rfl (.int .i64 0) (c' := #[.int .i64 s.kd, .int .i64 s.key, .int .i64 s.val, .int .i64 s.step, .int .i64 s.pg, .slice ak s.keys.length ck, .slice av s.vals.length cv, .slice ab s.bel.length cb, .slice ap s.pts.length cp, .string ⟨#[]⟩, .int .i64 0, .slice ax s.sp.length cx, .slice ay s.sv.length cy, .int .i64 0, .int .i64 s.lv, .int .i64 s.low, .int .i64 s.ch, .int .i64 s.pt]) rfl)
  have q17 := A4.out.cell (i := 2) rfl 17 (.int .i64 s.pt) rfl
  have A5 := hideIt (A4.out.alloc #[.int .i64 0, .bool false, .int .i64 0, .int .i64 s.pt, .slice none 0 0, .slice none 0 0, .slice none 0 0] 46)
  go_upto_region 7 with fail
  simp only [sz_setCell] at A5
  generalize (((W.setCell ⟨g0, 9, none⟩ (.string ⟨#[]⟩)).setCell ⟨g0, 10, none⟩ (.int .i64 0)).setCell ⟨g0, 13, none⟩ (.int .i64 0)).alloc (.cells #[.int .i64 0, .bool false, .int .i64 0, .int .i64 s.pt, .slice none 0 0, .slice none 0 0, .slice none 0 0] 46) = W5 at A5 ⊢
  generalize W.heap.size = gh at A5 ⊢
  clear A1 A2 A3 q9 q10 q13 f9 f10 f13 A4 q17
  have q14 := A5.out.cell (i := 3) rfl 14 (.int .i64 s.lv) rfl
  have e0 := A5.out.cell (i := 0) rfl 0 (.int .i64 0) rfl
  have e1 := A5.out.cell (i := 0) rfl 1 (.bool false) rfl
  have e2 := A5.out.cell (i := 0) rfl 2 (.int .i64 0) rfl
  have e3 := A5.out.cell (i := 0) rfl 3 (.int .i64 s.pt) rfl
  have e4 := A5.out.cell (i := 0) rfl 4 (.slice none 0 0) rfl
  have e5 := A5.out.cell (i := 0) rfl 5 (.slice none 0 0) rfl
  have e6 := A5.out.cell (i := 0) rfl 6 (.slice none 0 0) rfl
  have d5 := A5.out.cell (i := 2) rfl 5 (.int .i64 pgs) rfl
  have d6 := A5.out.cell (i := 2) rfl 6 (.int .i64 low) rfl
  have q17 := A5.out.cell (i := 3) rfl 17 (.int .i64 s.pt) rfl
  have f17 := A5.out.free (i := 3) rfl 17
  have A8 := hideIt (A5.out.store (i := 3) (j := 17) rfl (.int .i64 s.pt) (c' := #[.int .i64 s.kd, .int .i64 s.key, .int .i64 s.val, .int .i64 s.step, .int .i64 s.pg, .slice ak s.keys.length ck, .slice av s.vals.length cv, .slice ab s.bel.length cb, .slice ap s.pts.length cp, .string ⟨#[]⟩, .int .i64 0, .slice ax s.sp.length cx, .slice ay s.sv.length cy, .int .i64 0, .int .i64 s.lv, .int .i64 s.low, .int .i64 s.ch, .int .i64 s.pt]) rfl)
  have d7 := A8.out.cell (i := 2) rfl 6 (.int .i64 low) rfl
  go_upto_region 12 with fail
  go_wp2_with (refine wpList_load_row rfl 92 _ rfl _ rfl 92 _ (0, 0) _ (A8.out.block (i := 3) rfl) Tryz.underlying92 rfl infoState ?_)
  refine (C.out _ A8.out.bl).mono ?_
  rintro e w9 ⟨⟨c, rfl, hc⟩, hb⟩
  have HC := hideIt hc
  have A9 := hideIt (A8.out.below hb)
  clear hc hb C A8 A5 q17 f17 d5 d6 d7 e0 e1 e2 e3 e4 e5 e6 q14
  have r0 := A9.out.cell (i := 1) rfl 0 (.int .i64 0) rfl
  have f0 := A9.out.free (i := 1) rfl 0
  have r1 := A9.out.cell (i := 1) rfl 1 (.bool false) rfl
  have f1 := A9.out.free (i := 1) rfl 1
  have r2 := A9.out.cell (i := 1) rfl 2 (.int .i64 0) rfl
  have f2 := A9.out.free (i := 1) rfl 2
  have r3 := A9.out.cell (i := 1) rfl 3 (.int .i64 0) rfl
  have f3 := A9.out.free (i := 1) rfl 3
  have r4 := A9.out.cell (i := 1) rfl 4 (.slice none 0 0) rfl
  have f4 := A9.out.free (i := 1) rfl 4
  have r5 := A9.out.cell (i := 1) rfl 5 (.slice none 0 0) rfl
  have f5 := A9.out.free (i := 1) rfl 5
  have r6 := A9.out.cell (i := 1) rfl 6 (.slice none 0 0) rfl
  have f6 := A9.out.free (i := 1) rfl 6
  have BL := hideIt A9.out.bl
  clear A9
  rw [show ans0 = #[.int .i64 0, .bool false, .int .i64 0, .int .i64 0, .slice none 0 0, .slice none 0 0, .slice none 0 0] from rfl]
  go_wp2
  refine bodyPost_ret (v := .tuple #[.string c, .agg #[.int .i64 0, .bool false, .int .i64 0, .int .i64 0, .slice none 0 0, .slice none 0 0, .slice none 0 0], .bool false, .int .i64 0]) (by simp [results, Tryz.results71, go_sem, *]) rfl ⟨⟨c, rfl, HC.out⟩, ?_⟩
  rw [HG0.out]
  repeat (refine Below.setCell ?_ (show g0 ≤ g0 + 1 + 1 by omega) _)
  exact BL.out
set_option maxRecDepth 100000 in
set_option maxHeartbeats 800000 in
theorem tellSwap_ent0 (s : St) (n : Nd) (pgs low : Int) (T : ByteArray) (kv vv bv pv : Value) (ka va ax ay : Option Addr) (kc vc cx cy : Nat) (w : World) (htab : Tab w) (hv : StV w s kv vv bv pv (.slice ax s.sp.length cx) (.slice ay s.sv.length cy)) (hlv : s.lv = 0) (hkd : Rd w (.slice ka n.ks.length kc) n.ks) (hvd : Rd w (.slice va n.vs.length vc) n.vs) (hn : n.ks.length = n.vs.length) (h6 : n.ks.length ≤ 6) (hpg : pgs = 1) (hsp : 0 < s.sp.length) (hsp2 : s.sp.length ≤ 2) (hspl : s.sp.length = s.sv.length) (hcx : s.sp.length ≤ cx) (hcy : s.sv.length ≤ cy) (hi : StI (entS { clrS s with pt := s.step } low)) (hs : s.step ≤ 1000000000) (hs0 : 0 ≤ s.step) (hl9 : 0 ≤ s.lv ∧ s.lv ≤ 9) :
    Calls Tryz.prog 71 #[.agg #[.int .i64 s.kd, .int .i64 s.key, .int .i64 s.val, .int .i64 s.step, .int .i64 s.pg, kv, vv, bv, pv, .string s.sw, .int .i64 s.ver, .slice ax s.sp.length cx, .slice ay s.sv.length cy, .int .i64 s.laid, .int .i64 s.lv, .int .i64 s.low, .int .i64 s.ch, .int .i64 s.pt], .agg #[.int .i64 n.lv, .int .i64 n.lk, .int .i64 n.hi, .slice ka n.ks.length kc, .slice va n.vs.length vc, .int .i64 pgs, .int .i64 low, .string T], .bool true] w fun e w' => OnR (entS { clrS s with pt := s.step } low) e ∧ Below w.heap.size w w' := by
  obtain ⟨ak, ck, rfl⟩ := hv.keys.len
  obtain ⟨av, cv, rfl⟩ := hv.vals.len
  obtain ⟨ab, cb, rfl⟩ := hv.bel.len
  obtain ⟨ap, cp, rfl⟩ := hv.pts.len
  have A0 := (((M.start w).alloc #[.int .i64 s.kd, .int .i64 s.key, .int .i64 s.val, .int .i64 s.step, .int .i64 s.pg, .slice ak s.keys.length ck, .slice av s.vals.length cv, .slice ab s.bel.length cb, .slice ap s.pts.length cp, .string s.sw, .int .i64 s.ver, .slice ax s.sp.length cx, .slice ay s.sv.length cy, .int .i64 s.laid, .int .i64 s.lv, .int .i64 s.low, .int .i64 s.ch, .int .i64 s.pt] 92).alloc #[.int .i64 n.lv, .int .i64 n.lk, .int .i64 n.hi, .slice ka n.ks.length kc, .slice va n.vs.length vc, .int .i64 pgs, .int .i64 low, .string T] 120).alloc #[.int .i64 0, .bool false, .int .i64 0, .int .i64 0, .slice none 0 0, .slice none 0 0, .slice none 0 0] 46
  rw [alloc_size, alloc_size] at A0
  have HT := hideIt htab
  have HV := hideIt hv
  have hlvb : (s.lv == 0) = true := by simp [hlv]
  have hpgb : (pgs != 1) = false := by simp [hpg]
  have C := hideIt (fun W (hb : Below w.heap.size w W) => enterHalf_any { clrS s with pt := s.step } low _ _ _ _ ax ay cx cy W (htab.below hb) ⟨HV.out.keys.below hb, HV.out.vals.below hb, HV.out.bel.below hb, HV.out.pts.below hb, HV.out.sp.below hb, HV.out.sv.below hb⟩ hsp hsp2 hspl hcx hcy hi hs hs0 hl9)
  have CK := hideIt (fun W (hb : Below w.heap.size w W) => lookUp_any (clrS s) n _ _ _ _ _ _ _ _ W ⟨HV.out.keys.below hb, HV.out.vals.below hb, HV.out.bel.below hb, HV.out.pts.below hb, HV.out.sp.below hb, HV.out.sv.below hb⟩ (hkd.below hb) (hvd.below hb) hn h6)
  clear hv htab hlv hpg hkd hvd hn h6 hsp hsp2 hspl hcx hcy hi hs hs0 hl9
  go_enter Tryz.func71, Tryz.ntmps71
  go_upto_region 1 with fail
  generalize ((w.alloc (.cells #[.int .i64 s.kd, .int .i64 s.key, .int .i64 s.val, .int .i64 s.step, .int .i64 s.pg, .slice ak s.keys.length ck, .slice av s.vals.length cv, .slice ab s.bel.length cb, .slice ap s.pts.length cp, .string s.sw, .int .i64 s.ver, .slice ax s.sp.length cx, .slice ay s.sv.length cy, .int .i64 s.laid, .int .i64 s.lv, .int .i64 s.low, .int .i64 s.ch, .int .i64 s.pt] 92)).alloc (.cells #[.int .i64 n.lv, .int .i64 n.lk, .int .i64 n.hi, .slice ka n.ks.length kc, .slice va n.vs.length vc, .int .i64 pgs, .int .i64 low, .string T] 120)).alloc (.cells #[.int .i64 0, .bool false, .int .i64 0, .int .i64 0, .slice none 0 0, .slice none 0 0, .slice none 0 0] 46) = W at A0 ⊢
  obtain ⟨g0, hg0⟩ : ∃ g, w.heap.size = g := ⟨_, rfl⟩
  have HG0 := hideIt hg0
  rw [hg0] at A0 C CK ⊢
  clear hg0
  have A1 := hideIt A0
  clear A0
  have q9 := A1.out.cell (i := 2) rfl 9 (.string s.sw) rfl
  have f9 := A1.out.free (i := 2) rfl 9
  have A2 := hideIt (A1.out.store (i := 2) (j := 9) rfl (.string ⟨#[]⟩) (c' := #[.int .i64 s.kd, .int .i64 s.key, .int .i64 s.val, .int .i64 s.step, .int .i64 s.pg, .slice ak s.keys.length ck, .slice av s.vals.length cv, .slice ab s.bel.length cb, .slice ap s.pts.length cp, .string ⟨#[]⟩, .int .i64 s.ver, .slice ax s.sp.length cx, .slice ay s.sv.length cy, .int .i64 s.laid, .int .i64 s.lv, .int .i64 s.low, .int .i64 s.ch, .int .i64 s.pt]) rfl)
  have q10 := A2.out.cell (i := 2) rfl 10 (.int .i64 s.ver) rfl
  have f10 := A2.out.free (i := 2) rfl 10
  have A3 := hideIt (A2.out.store (i := 2) (j := 10) rfl (.int .i64 0) (c' := #[.int .i64 s.kd, .int .i64 s.key, .int .i64 s.val, .int .i64 s.step, .int .i64 s.pg, .slice ak s.keys.length ck, .slice av s.vals.length cv, .slice ab s.bel.length cb, .slice ap s.pts.length cp, .string ⟨#[]⟩, .int .i64 0, .slice ax s.sp.length cx, .slice ay s.sv.length cy, .int .i64 s.laid, .int .i64 s.lv, .int .i64 s.low, .int .i64 s.ch, .int .i64 s.pt]) rfl)
  have q13 := A3.out.cell (i := 2) rfl 13 (.int .i64 s.laid) rfl
  have f13 := A3.out.free (i := 2) rfl 13
  have A4 := hideIt (A3.out.store (i := 2) (j := 13) rfl (.int .i64 0) (c' := #[.int .i64 s.kd, .int .i64 s.key, .int .i64 s.val, .int .i64 s.step, .int .i64 s.pg, .slice ak s.keys.length ck, .slice av s.vals.length cv, .slice ab s.bel.length cb, .slice ap s.pts.length cp, .string ⟨#[]⟩, .int .i64 0, .slice ax s.sp.length cx, .slice ay s.sv.length cy, .int .i64 0, .int .i64 s.lv, .int .i64 s.low, .int .i64 s.ch, .int .i64 s.pt]) rfl)
  have q17 := A4.out.cell (i := 2) rfl 17 (.int .i64 s.pt) rfl
  have A5 := hideIt (A4.out.alloc #[.int .i64 0, .bool false, .int .i64 0, .int .i64 s.pt, .slice none 0 0, .slice none 0 0, .slice none 0 0] 46)
  go_upto_region 7 with fail
  simp only [sz_setCell] at A5
  generalize (((W.setCell ⟨g0, 9, none⟩ (.string ⟨#[]⟩)).setCell ⟨g0, 10, none⟩ (.int .i64 0)).setCell ⟨g0, 13, none⟩ (.int .i64 0)).alloc (.cells #[.int .i64 0, .bool false, .int .i64 0, .int .i64 s.pt, .slice none 0 0, .slice none 0 0, .slice none 0 0] 46) = W5 at A5 ⊢
  generalize W.heap.size = gh at A5 ⊢
  clear A1 A2 A3 q9 q10 q13 f9 f10 f13 A4 q17
  have q14 := A5.out.cell (i := 3) rfl 14 (.int .i64 s.lv) rfl
  have c0 := A5.out.cell (i := 2) rfl 0 (.int .i64 n.lv) rfl
  have c1 := A5.out.cell (i := 2) rfl 1 (.int .i64 n.lk) rfl
  have c2 := A5.out.cell (i := 2) rfl 2 (.int .i64 n.hi) rfl
  have c3 := A5.out.cell (i := 2) rfl 3 (.slice ka n.ks.length kc) rfl
  have c4 := A5.out.cell (i := 2) rfl 4 (.slice va n.vs.length vc) rfl
  have CS := CK.out _ A5.out.bl
  obtain ⟨fd, hfd⟩ : ∃ x, fndB n.ks (clrS s).key n.ks.length = x := ⟨_, rfl⟩
  obtain ⟨va0, hva0⟩ : ∃ x, fndV n.ks n.vs (clrS s).key n.ks.length = x := ⟨_, rfl⟩
  rw [hfd, hva0, show (clrS s).step = s.step from rfl] at CS
  have HFD : Hid (fndB n.ks s.key n.ks.length = fd) := hfd
  have HVA : Hid (fndV n.ks n.vs s.key n.ks.length = va0) := hva0
  have HCS := hideIt CS
  clear CS hfd hva0 CK
  go_upto_region 8 with fail
  go_wp2_with (refine wpList_load_row rfl 92 _ rfl _ rfl 92 _ (0, 0) _ (A5.out.block (i := 3) rfl) Tryz.underlying92 rfl infoState ?_)
  refine HCS.out.mono ?_
  rintro e w2 ⟨rfl, hb⟩
  rw [show ansG fd va0 s.step = #[.int .i64 0, .bool fd, .int .i64 va0, .int .i64 s.step, .slice none 0 0, .slice none 0 0, .slice none 0 0] from rfl]
  have A6 := hideIt (A5.out.below hb)
  clear A5 HCS hb c0 c1 c2 c3 c4 q14
  have h0 := A6.out.cell (i := 0) rfl 0 (.int .i64 0) rfl
  have k0 := A6.out.free (i := 0) rfl 0
  have h1 := A6.out.cell (i := 0) rfl 1 (.bool false) rfl
  have k1 := A6.out.free (i := 0) rfl 1
  have h2 := A6.out.cell (i := 0) rfl 2 (.int .i64 0) rfl
  have k2 := A6.out.free (i := 0) rfl 2
  have h3 := A6.out.cell (i := 0) rfl 3 (.int .i64 s.pt) rfl
  have k3 := A6.out.free (i := 0) rfl 3
  have h4 := A6.out.cell (i := 0) rfl 4 (.slice none 0 0) rfl
  have k4 := A6.out.free (i := 0) rfl 4
  have h5 := A6.out.cell (i := 0) rfl 5 (.slice none 0 0) rfl
  have k5 := A6.out.free (i := 0) rfl 5
  have h6 := A6.out.cell (i := 0) rfl 6 (.slice none 0 0) rfl
  have k6 := A6.out.free (i := 0) rfl 6
  have A7 := hideIt (A6.out.store7 (i := 0) rfl (.int .i64 0) (.bool fd) (.int .i64 va0) (.int .i64 s.step) (.slice none 0 0) (.slice none 0 0) (.slice none 0 0))
  have e0 := A7.out.cell (i := 0) rfl 0 (.int .i64 0) rfl
  have e1 := A7.out.cell (i := 0) rfl 1 (.bool fd) rfl
  have e2 := A7.out.cell (i := 0) rfl 2 (.int .i64 va0) rfl
  have e3 := A7.out.cell (i := 0) rfl 3 (.int .i64 s.step) rfl
  have e4 := A7.out.cell (i := 0) rfl 4 (.slice none 0 0) rfl
  have e5 := A7.out.cell (i := 0) rfl 5 (.slice none 0 0) rfl
  have e6 := A7.out.cell (i := 0) rfl 6 (.slice none 0 0) rfl
  have d5 := A7.out.cell (i := 2) rfl 5 (.int .i64 pgs) rfl
  have d6 := A7.out.cell (i := 2) rfl 6 (.int .i64 low) rfl
  have q17 := A7.out.cell (i := 3) rfl 17 (.int .i64 s.pt) rfl
  have f17 := A7.out.free (i := 3) rfl 17
  have A8 := hideIt (A7.out.store (i := 3) (j := 17) rfl (.int .i64 s.step) (c' := #[.int .i64 s.kd, .int .i64 s.key, .int .i64 s.val, .int .i64 s.step, .int .i64 s.pg, .slice ak s.keys.length ck, .slice av s.vals.length cv, .slice ab s.bel.length cb, .slice ap s.pts.length cp, .string ⟨#[]⟩, .int .i64 0, .slice ax s.sp.length cx, .slice ay s.sv.length cy, .int .i64 0, .int .i64 s.lv, .int .i64 s.low, .int .i64 s.ch, .int .i64 s.step]) rfl)
  have d7 := A8.out.cell (i := 2) rfl 6 (.int .i64 low) rfl
  go_upto_region 12 with fail
  go_wp2_with (refine wpList_load_row rfl 92 _ rfl _ rfl 92 _ (0, 0) _ (A8.out.block (i := 3) rfl) Tryz.underlying92 rfl infoState ?_)
  refine (C.out _ A8.out.bl).mono ?_
  rintro e w9 ⟨⟨c, rfl, hc⟩, hb⟩
  have HC := hideIt hc
  have A9 := hideIt (A8.out.below hb)
  clear hc hb C A8 A7 q17 f17 d5 d6 d7 e0 e1 e2 e3 e4 e5 e6 h0 h1 h2 h3 h4 h5 h6 k0 k1 k2 k3 k4 k5 k6 A6
  have r0 := A9.out.cell (i := 1) rfl 0 (.int .i64 0) rfl
  have f0 := A9.out.free (i := 1) rfl 0
  have r1 := A9.out.cell (i := 1) rfl 1 (.bool false) rfl
  have f1 := A9.out.free (i := 1) rfl 1
  have r2 := A9.out.cell (i := 1) rfl 2 (.int .i64 0) rfl
  have f2 := A9.out.free (i := 1) rfl 2
  have r3 := A9.out.cell (i := 1) rfl 3 (.int .i64 0) rfl
  have f3 := A9.out.free (i := 1) rfl 3
  have r4 := A9.out.cell (i := 1) rfl 4 (.slice none 0 0) rfl
  have f4 := A9.out.free (i := 1) rfl 4
  have r5 := A9.out.cell (i := 1) rfl 5 (.slice none 0 0) rfl
  have f5 := A9.out.free (i := 1) rfl 5
  have r6 := A9.out.cell (i := 1) rfl 6 (.slice none 0 0) rfl
  have f6 := A9.out.free (i := 1) rfl 6
  have BL := hideIt A9.out.bl
  clear A9
  rw [show ans0 = #[.int .i64 0, .bool false, .int .i64 0, .int .i64 0, .slice none 0 0, .slice none 0 0, .slice none 0 0] from rfl]
  go_wp2
  refine bodyPost_ret (v := .tuple #[.string c, .agg #[.int .i64 0, .bool false, .int .i64 0, .int .i64 0, .slice none 0 0, .slice none 0 0, .slice none 0 0], .bool false, .int .i64 0]) (by simp [results, Tryz.results71, go_sem, *]) rfl ⟨⟨c, rfl, HC.out⟩, ?_⟩
  rw [HG0.out]
  repeat (refine Below.setCell ?_ (show g0 ≤ g0 + 1 + 1 by omega) _)
  exact BL.out
set_option maxRecDepth 100000 in
set_option maxHeartbeats 6400000 in
theorem tellRead_pass (s : St) (n : Nd) (kv vv bv pv xv yv : Value) (t : ByteArray) (ver : Int) (fr : List As) (w0 w : World) (B : Nat) (htab : Tab w0) (hB : B = w0.heap.size) (hs : StOk s) (hu : Unp t.data.toList n) (hgo : ¬ rdGo s n) (hk : s.kd = 2 ∨ s.kd = 3) (o : Res) (hC : ∀ kv vv bv pv xv yv ka va fr1 W, .row 3 1 ka n.ks.length (ints n.ks) ∈ fr1 → .row 3 1 va n.vs.length (ints n.vs) ∈ fr1 → M w0 B W (.row 3 1 kv s.keys.length (ints s.keys) :: .row 3 1 vv s.vals.length (ints s.vals) :: .row 3 1 bv s.bel.length (ints s.bel) :: .row 3 1 pv s.pts.length (ints s.pts) :: .row 3 1 xv s.sp.length (ints s.sp) :: .row 3 1 yv s.sv.length (ints s.sv) :: fr1) → Calls Tryz.prog 91 #[.agg #[.int .i64 s.kd, .int .i64 s.key, .int .i64 s.val, .int .i64 s.step, .int .i64 s.pg, kv, vv, bv, pv, .string s.sw, .int .i64 s.ver, xv, yv, .int .i64 s.laid, .int .i64 s.lv, .int .i64 s.low, .int .i64 s.ch, .int .i64 s.pt], .agg #[.int .i64 n.lv, .int .i64 n.lk, .int .i64 n.hi, ka, va], .agg #[.int .i64 ver, .int .i64 0, .string t, .bool false]] W fun e w' => ResM o w0 B w' fr1 e)
    (h : M w0 B w (.row 3 1 kv s.keys.length (ints s.keys) :: .row 3 1 vv s.vals.length (ints s.vals) :: .row 3 1 bv s.bel.length (ints s.bel) :: .row 3 1 pv s.pts.length (ints s.pts) :: .row 3 1 xv s.sp.length (ints s.sp) :: .row 3 1 yv s.sv.length (ints s.sv) :: fr)) :
    Calls Tryz.prog 68 #[.agg #[.int .i64 s.kd, .int .i64 s.key, .int .i64 s.val, .int .i64 s.step, .int .i64 s.pg, kv, vv, bv, pv, .string s.sw, .int .i64 s.ver, xv, yv, .int .i64 s.laid, .int .i64 s.lv, .int .i64 s.low, .int .i64 s.ch, .int .i64 s.pt], .agg #[.int .i64 ver, .int .i64 0, .string t, .bool false]] w fun e w' => ResM o w0 B w' fr e := by
  obtain ⟨ak, ck, rfl⟩ := As.form0 (h.get (i := 0) rfl)
  obtain ⟨av, cv, rfl⟩ := As.form0 (h.get (i := 1) rfl)
  obtain ⟨ab, cb, rfl⟩ := As.form0 (h.get (i := 2) rfl)
  obtain ⟨ap, cp, rfl⟩ := As.form0 (h.get (i := 3) rfl)
  obtain ⟨ax, cx, rfl⟩ := As.form0 (h.get (i := 4) rfl)
  obtain ⟨ay, cy, rfl⟩ := As.form0 (h.get (i := 5) rfl)
  have htl : t.size ≤ 47 := by
    have := (len_packT n hu.1).2
    rw [hu.2, ba_size] at this; exact this
  have hr := right_bd n hu.1
  have HR := hideIt hr
  have HS := hideIt hs
  have HU := hideIt hu
  have hlv0 := hr.1
  have A0 := ((h.alloc #[.int .i64 s.kd, .int .i64 s.key, .int .i64 s.val, .int .i64 s.step, .int .i64 s.pg, .slice ak s.keys.length ck, .slice av s.vals.length cv, .slice ab s.bel.length cb, .slice ap s.pts.length cp, .string s.sw, .int .i64 s.ver, .slice ax s.sp.length cx, .slice ay s.sv.length cy, .int .i64 s.laid, .int .i64 s.lv, .int .i64 s.low, .int .i64 s.ch, .int .i64 s.pt] 92).alloc #[.int .i64 ver, .int .i64 0, .string t, .bool false] 99).alloc #[.int .i64 0, .bool false, .int .i64 0, .int .i64 0, .slice none 0 0, .slice none 0 0, .slice none 0 0] 46
  rw [alloc_size, alloc_size] at A0
  have CU := hideIt (fun W => unpack_any t W (by omega))
  have HT : Hid (∀ W l, M w0 B W l → Tab W) := fun W l hm => htab.below (hB ▸ hm.bl)
  have rt := A0.cell (i := 1) rfl 2 (.string t) rfl
  have A1 := hideIt A0
  have HGO := hideIt hgo
  have HC := hideIt hC
  have HKK : Hid ((s.kd == 4) = false ∧ ((s.kd == 2) = true ∨ ((s.kd == 2) = false ∧ (s.kd == 3) = true))) := by
    rcases hk with h | h
    · exact ⟨by rw [h]; rfl, Or.inl (by rw [h]; rfl)⟩
    · exact ⟨by rw [h]; rfl, Or.inr ⟨by rw [h]; rfl, by rw [h]; rfl⟩⟩
  clear hs hu htab hB hr htl h A0 hgo hC hk
  go_enter Tryz.func68, Tryz.ntmps68
  go_wp2_with fail
  refine (CU.out _).mono ?_
  rintro e w2 ⟨hR, hb⟩
  refine Or.elim hR (fun h1 => ?_) (fun h1 => absurd HU.out (h1.1 n))
  clear hR
  obtain ⟨n', kv2, vv2, hu', hO2, rfl⟩ := h1
  obtain rfl : n = n' := HU.out.uniq hu'
  have A3 := A1.out.join (Own.m2 hO2 hb)
  clear hO2 hb CU A1 rt hu'
  obtain ⟨na, nc, rfl⟩ := As.form0 (A3.get (i := 0) rfl)
  obtain ⟨nva, nvc, rfl⟩ := As.form0 (A3.get (i := 1) rfl)
  have A4 := hideIt (A3.alloc #[.int .i64 n.lv, .int .i64 n.lk, .int .i64 n.hi, .slice na n.ks.length nc, .slice nva n.vs.length nvc] 67)
  clear A3
  have HSV : Hid (∀ W (l : List As), M w0 B W l → As.row 3 1 (.slice ak s.keys.length ck) s.keys.length (ints s.keys) ∈ l → As.row 3 1 (.slice av s.vals.length cv) s.vals.length (ints s.vals) ∈ l → As.row 3 1 (.slice ab s.bel.length cb) s.bel.length (ints s.bel) ∈ l → As.row 3 1 (.slice ap s.pts.length cp) s.pts.length (ints s.pts) ∈ l → As.row 3 1 (.slice ax s.sp.length cx) s.sp.length (ints s.sp) ∈ l → As.row 3 1 (.slice ay s.sv.length cy) s.sv.length (ints s.sv) ∈ l → StV W s (.slice ak s.keys.length ck) (.slice av s.vals.length cv) (.slice ab s.bel.length cb) (.slice ap s.pts.length cp) (.slice ax s.sp.length cx) (.slice ay s.sv.length cy)) := by
    intro W l hW h1 h2 h3 h4 h5 h6
    exact ⟨owns_rd (hW.holds _ h1), owns_rd (hW.holds _ h2), owns_rd (hW.holds _ h3), owns_rd (hW.holds _ h4), owns_rd (hW.holds _ h5), owns_rd (hW.holds _ h6)⟩
  have HNR : Hid (∀ W (l : List As), M w0 B W l → As.row 3 1 (.slice na n.ks.length nc) n.ks.length (ints n.ks) ∈ l → As.row 3 1 (.slice nva n.vs.length nvc) n.vs.length (ints n.vs) ∈ l → Rd W (.slice na n.ks.length nc) n.ks ∧ Rd W (.slice nva n.vs.length nvc) n.vs) := fun W l hW h1 h2 => ⟨owns_rd (hW.holds _ h1), owns_rd (hW.holds _ h2)⟩
  obtain ⟨gx, hgx⟩ : ∃ g, w.heap.size = g := ⟨_, rfl⟩
  rw [hgx] at A4 ⊢
  clear hgx
  go_wp2_with (refine wpList_load_row rfl 92 _ rfl _ rfl 92 _ (0, 0) _ (A4.out.block (i := 5) rfl) Tryz.underlying92 rfl infoState ?_)
  refine (wanted_any s _ _ _ _ _ _ _ (HSV.out _ _ A4.out (by simp) (by simp) (by simp) (by simp) (by simp) (by simp)) HS.out.i).mono ?_
  rintro e w3 ⟨rfl, hb3⟩
  have A5 := hideIt (A4.out.below hb3)
  clear A4 hb3
  obtain ⟨L, hL⟩ : ∃ x, wantV s = x := ⟨_, rfl⟩
  rw [hL]
  have HL := hideIt hL
  clear hL
  have q0 := A5.out.cell (i := 5) rfl 0 (.int .i64 s.kd) rfl
  have q14 := A5.out.cell (i := 5) rfl 14 (.int .i64 s.lv) rfl
  have n0 := A5.out.cell (i := 0) rfl 0 (.int .i64 n.lv) rfl
  have n1 := A5.out.cell (i := 0) rfl 1 (.int .i64 n.lk) rfl
  have n2 := A5.out.cell (i := 0) rfl 2 (.int .i64 n.hi) rfl
  have n3 := A5.out.cell (i := 0) rfl 3 (.slice na n.ks.length nc) rfl
  have n4 := A5.out.cell (i := 0) rfl 4 (.slice nva n.vs.length nvc) rfl
  have hd1 : decide (s.lv < n.lv) = false := decide_eq_false (fun h => HGO.out (Or.inl h))
  have hd2 : decide (n.hi ≤ L) = false := decide_eq_false (fun h => HGO.out (Or.inr (by rw [HL.out]; exact h)))
  obtain ⟨hkb, hkc⟩ := HKK.out
  have A6 := A5.out.mvAt (pre := []) (a := [_, _, _, _, _, _]) (b := [_, _, _, _, _, _])
  simp only [List.nil_append, List.cons_append] at A6
  have HCC := hideIt (HC.out _ _ _ _ _ _ (.slice na n.ks.length nc) (.slice nva n.vs.length nvc) _ _ (by simp) (by simp) A6)
  have p0 := A5.out.cell (i := 4) rfl 0 (.int .i64 ver) rfl
  have p1 := A5.out.cell (i := 4) rfl 1 (.int .i64 0) rfl
  have p2 := A5.out.cell (i := 4) rfl 2 (.string t) rfl
  have p3 := A5.out.cell (i := 4) rfl 3 (.bool false) rfl
  clear HC A6 HKK
  rcases hkc with hkb2 | ⟨hkb2, hkb3⟩
  all_goals
    go_upto_region 13 with fail
    rcases o.is with ⟨s', rfl⟩ | ⟨er, fd, va, pt, ks, vs, cs, rfl⟩
    · go_wp2_with (refine wpList_load_row rfl 92 _ rfl _ rfl 92 _ (0, 0) _ (A5.out.block (i := 5) rfl) Tryz.underlying92 rfl infoState ?_)
      refine HCC.out.mono ?_
      rintro e w5 ⟨⟨c5, rfl, hc5⟩, hM5⟩
      have A7 := hideIt hM5
      have HC5 := hideIt hc5
      clear hc5 hM5 A5 HCC q0 q14 n0 n1 n2 n3 n4 p0 p1 p2 p3
      have r0 := A7.out.cell (i := 3) rfl 0 (.int .i64 0) rfl
      have f0 := A7.out.free (i := 3) rfl 0
      have r1 := A7.out.cell (i := 3) rfl 1 (.bool false) rfl
      have f1 := A7.out.free (i := 3) rfl 1
      have r2 := A7.out.cell (i := 3) rfl 2 (.int .i64 0) rfl
      have f2 := A7.out.free (i := 3) rfl 2
      have r3 := A7.out.cell (i := 3) rfl 3 (.int .i64 0) rfl
      have f3 := A7.out.free (i := 3) rfl 3
      have r4 := A7.out.cell (i := 3) rfl 4 (.slice none 0 0) rfl
      have f4 := A7.out.free (i := 3) rfl 4
      have r5 := A7.out.cell (i := 3) rfl 5 (.slice none 0 0) rfl
      have f5 := A7.out.free (i := 3) rfl 5
      have r6 := A7.out.cell (i := 3) rfl 6 (.slice none 0 0) rfl
      have f6 := A7.out.free (i := 3) rfl 6
      have S7 := hideIt (A7.out.store7 (i := 3) rfl (.int .i64 0) (.bool false) (.int .i64 0) (.int .i64 0) (.slice none 0 0) (.slice none 0 0) (.slice none 0 0))
      clear A7
      rw [show ans0 = #[.int .i64 0, .bool false, .int .i64 0, .int .i64 0, .slice none 0 0, .slice none 0 0, .slice none 0 0] from rfl]
      go_wp2
      refine bodyPost_ret (v := .tuple #[.string c5, .agg #[.int .i64 0, .bool false, .int .i64 0, .int .i64 0, .slice none 0 0, .slice none 0 0, .slice none 0 0], .bool false, .int .i64 0]) (by simp [results, Tryz.results68, go_sem, *]) rfl ?_
      exact ⟨⟨c5, rfl, HC5.out⟩, S7.out.sub (.cons _ (.cons _ (.cons _ (.cons _ (.cons _ (.cons _ (List.Sublist.refl _)))))))⟩
    · go_wp2_with (refine wpList_load_row rfl 92 _ rfl _ rfl 92 _ (0, 0) _ (A5.out.block (i := 5) rfl) Tryz.underlying92 rfl infoState ?_)
      refine HCC.out.mono ?_
      rintro e w5 ⟨kv5, vv5, cv5, rfl, hM5⟩
      obtain ⟨a5, b5, rfl⟩ := As.form0 (hM5.get (i := 0) rfl)
      obtain ⟨a6, b6, rfl⟩ := As.form0 (hM5.get (i := 1) rfl)
      obtain ⟨a7, b7, rfl⟩ := As.form0 (hM5.get (i := 2) rfl)
      have A7 := hideIt hM5
      clear hM5 A5 HCC q0 q14 n0 n1 n2 n3 n4 p0 p1 p2 p3
      have r0 := A7.out.cell (i := 6) rfl 0 (.int .i64 0) rfl
      have f0 := A7.out.free (i := 6) rfl 0
      have r1 := A7.out.cell (i := 6) rfl 1 (.bool false) rfl
      have f1 := A7.out.free (i := 6) rfl 1
      have r2 := A7.out.cell (i := 6) rfl 2 (.int .i64 0) rfl
      have f2 := A7.out.free (i := 6) rfl 2
      have r3 := A7.out.cell (i := 6) rfl 3 (.int .i64 0) rfl
      have f3 := A7.out.free (i := 6) rfl 3
      have r4 := A7.out.cell (i := 6) rfl 4 (.slice none 0 0) rfl
      have f4 := A7.out.free (i := 6) rfl 4
      have r5 := A7.out.cell (i := 6) rfl 5 (.slice none 0 0) rfl
      have f5 := A7.out.free (i := 6) rfl 5
      have r6 := A7.out.cell (i := 6) rfl 6 (.slice none 0 0) rfl
      have f6 := A7.out.free (i := 6) rfl 6
      have S7 := hideIt (A7.out.store7 (i := 6) rfl (.int .i64 er) (.bool fd) (.int .i64 va) (.int .i64 pt) (.slice a5 ks.length b5) (.slice a6 vs.length b6) (.slice a7 cs.length b7))
      clear A7
      go_wp2
      refine bodyPost_ret (v := .tuple #[.string ⟨#[]⟩, .agg #[.int .i64 er, .bool fd, .int .i64 va, .int .i64 pt, .slice a5 ks.length b5, .slice a6 vs.length b6, .slice a7 cs.length b7], .bool true, .int .i64 0]) (by simp [results, Tryz.results68, go_sem, *]) rfl ?_
      exact ⟨_, _, _, rfl, S7.out.sub (.cons_cons _ (.cons_cons _ (.cons_cons _ (.cons _ (.cons _ (.cons _ (.cons _ (.cons _ (.cons _ (List.Sublist.refl _))))))))))⟩
theorem tell_miss (s : St) (n : Nd) (f t : ByteArray) (ver : Int) (w : World) (htab : Tab w) (hf : f.data.toList = frT s) (hs : StOk s) (hu : Unp t.data.toList n) (hsw : s.sw = ⟨#[]⟩) (hgo : ¬ rdGo s n) (hk : s.kd = 3) (hfb : fndB n.ks s.key n.ks.length = false) :
    Calls Tryz.prog 47 #[.string f, .agg #[.int .i64 ver, .int .i64 0, .string t, .bool false]] w fun e w' => ResM (.fin 0 false (fndV n.ks n.vs s.key n.ks.length) s.step [] [] []) w w.heap.size w' [] e := by
  have hb := right_bd n hu.1
  exact tell_pass s f t ver _ w hf hs hsw fun kv vv bv pv xv yv fr W hM => tellRead_pass s n kv vv bv pv xv yv t ver fr w W _ htab rfl hs hu hgo (Or.inr hk) _ (fun kv1 vv1 bv1 pv1 xv1 yv1 ka va fr1 W1 h1 h2 hM1 => changeNode_miss s n t ver kv1 vv1 bv1 pv1 xv1 yv1 ka va fr1 w W1 _ htab rfl h1 h2 hb.2.2.2.1 hb.2.2.2.2.1 hk hfb hM1) hM
theorem tell_put_on (s : St) (n : Nd) (f t : ByteArray) (ver : Int) (w : World) (htab : Tab w) (hf : f.data.toList = frT s) (hs : StOk s) (hu : Unp t.data.toList n) (hsw : s.sw = ⟨#[]⟩) (hgo : ¬ rdGo s n) (hk : s.kd = 2) (hok : StOk (seeS s t ver)) (hp : PlOk n (seeS s t ver)) (hver : 0 ≤ ver) (hl9 : ¬ (0 < pgsN n (seeS s t ver) ∧ s.lv = 9)) (hi : StI { seeS s t ver with step := s.step + 1 }) (hst : s.step ≤ 1000000000) :
    Calls Tryz.prog 47 #[.string f, .agg #[.int .i64 ver, .int .i64 0, .string t, .bool false]] w fun e w' => ResM (.on { seeS s t ver with step := s.step + 1 }) w w.heap.size w' [] e := by
  have hb := right_bd n hu.1
  exact tell_pass s f t ver _ w hf hs hsw fun kv vv bv pv xv yv fr W hM => tellRead_pass s n kv vv bv pv xv yv t ver fr w W _ htab rfl hs hu hgo (Or.inl hk) _ (fun kv1 vv1 bv1 pv1 xv1 yv1 ka va fr1 W1 h1 h2 hM1 => changeNode_put_on s n t ver kv1 vv1 bv1 pv1 xv1 yv1 ka va fr1 w W1 _ htab rfl h1 h2 hb.2.2.2.1 hb.2.2.2.2.1 hk hok hp hver hl9 hi hst hs.step.1 hM1) hM
theorem tell_put_last (s : St) (n : Nd) (f t : ByteArray) (ver : Int) (w : World) (htab : Tab w) (hf : f.data.toList = frT s) (hs : StOk s) (hu : Unp t.data.toList n) (hsw : s.sw = ⟨#[]⟩) (hgo : ¬ rdGo s n) (hk : s.kd = 2) (hok : StOk (seeS s t ver)) (hp : PlOk n (seeS s t ver)) (hver : 0 ≤ ver) (hl9 : 0 < pgsN n (seeS s t ver) ∧ s.lv = 9) :
    Calls Tryz.prog 47 #[.string f, .agg #[.int .i64 ver, .int .i64 0, .string t, .bool false]] w fun e w' => ResM (.fin 0 false 0 s.pt [] [] []) w w.heap.size w' [] e := by
  have hb := right_bd n hu.1
  exact tell_pass s f t ver _ w hf hs hsw fun kv vv bv pv xv yv fr W hM => tellRead_pass s n kv vv bv pv xv yv t ver fr w W _ htab rfl hs hu hgo (Or.inl hk) _ (fun kv1 vv1 bv1 pv1 xv1 yv1 ka va fr1 W1 h1 h2 hM1 => changeNode_put_last s n t ver kv1 vv1 bv1 pv1 xv1 yv1 ka va fr1 w W1 _ htab rfl h1 h2 hb.2.2.2.1 hb.2.2.2.2.1 hk hok hp hver hl9 hM1) hM
theorem tell_drop_on (s : St) (n : Nd) (f t : ByteArray) (ver : Int) (w : World) (htab : Tab w) (hf : f.data.toList = frT s) (hs : StOk s) (hu : Unp t.data.toList n) (hsw : s.sw = ⟨#[]⟩) (hgo : ¬ rdGo s n) (hk : s.kd = 3) (hfb : fndB n.ks s.key n.ks.length = true) (hok : StOk (seeS s t ver)) (hp : PlOk n (seeS s t ver)) (hver : 0 ≤ ver) (hl9 : ¬ (0 < pgsN n (seeS s t ver) ∧ s.lv = 9)) (hi : StI { seeS s t ver with step := s.step + 1 }) (hst : s.step ≤ 1000000000) :
    Calls Tryz.prog 47 #[.string f, .agg #[.int .i64 ver, .int .i64 0, .string t, .bool false]] w fun e w' => ResM (.on { seeS s t ver with step := s.step + 1 }) w w.heap.size w' [] e := by
  have hb := right_bd n hu.1
  exact tell_pass s f t ver _ w hf hs hsw fun kv vv bv pv xv yv fr W hM => tellRead_pass s n kv vv bv pv xv yv t ver fr w W _ htab rfl hs hu hgo (Or.inr hk) _ (fun kv1 vv1 bv1 pv1 xv1 yv1 ka va fr1 W1 h1 h2 hM1 => changeNode_drop_on s n t ver kv1 vv1 bv1 pv1 xv1 yv1 ka va fr1 w W1 _ htab rfl h1 h2 hb.2.2.2.1 hb.2.2.2.2.1 hk hfb hok hp hver hl9 hi hst hs.step.1 hM1) hM
end Go.Proofs.YtajobgmnmbnhiaaGreatDoor.Sap
