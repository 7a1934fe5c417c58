/- WHAT IS PROVED HERE: what tree.enterHalf answers. Conditions: named at the theorem. -/
import Derived.Test.YtajobgmnmbnhiaaGreatDoorPt26
namespace Go.Proofs.YtajobgmnmbnhiaaGreatDoor.Sap
open Go.RowKit
def entS (s : St) (low : Int) : St := { s with lv := s.lv + 1, low := low, ch := s.sp[0]?.getD 0, sp := s.sp.drop 1, sv := s.sv.drop 1, pg := 0, step := s.step + 1 }
theorem Rd.tail {w : World} {b o m c c' : Nat} {xs : List Int} (h : Rd w (.slice (some ⟨b, o, none⟩) (m + 1) c) xs) (hl : xs.length = m + 1) : Rd w (.slice (some ⟨b, o + 1, none⟩) m c') (xs.drop 1) := by
  refine ⟨some ⟨b, o + 1, none⟩, c', by rw [List.length_drop, hl]; rfl, fun hp => ?_⟩
  obtain ⟨ao, cap, e, hr⟩ := h
  obtain ⟨b', off, e2, hc⟩ := hr (by rw [hl]; omega)
  have e3 : some (⟨b, o, none⟩ : Addr) = ao := by injection e
  rw [e2] at e3
  obtain ⟨rfl, rfl⟩ : b = b' ∧ o = off := by injection e3 with e4; injection e4 with e5 e6; exact ⟨e5, e6⟩
  refine ⟨_, _, rfl, fun j hj => ?_⟩
  rw [List.length_drop] at hj
  have := hc (j + 1) (by omega)
  rw [List.getElem?_drop]
  rw [show o + 1 + j = o + (j + 1) by omega, show 1 + j = j + 1 by omega]
  exact this
set_option maxRecDepth 100000 in
set_option maxHeartbeats 800000 in
theorem enterHalf_1zz (s : St) (low : Int) (kv vv bv pv : Value) (ax ay : Option Addr) (cx cy : Nat) (w : World) (htab : Tab w) (hv : StV w s kv vv bv pv (.slice ax 1 cx) (.slice ay 1 cy)) (hsl : s.sp.length = 1) (hvl : s.sv.length = 1) (hcx : cx = 1) (hcy : cy = 1) (hi : StI (entS s low)) (hs : s.step ≤ 1000000000) (hs0 : 0 ≤ s.step) (hlv : 0 ≤ s.lv ∧ s.lv ≤ 9) :
    Calls Tryz.prog 95 #[.agg #[.int .i64 s.kd, .int .i64 s.key, .int .i64 s.val, .int .i64 s.step, .int .i64 s.pg, kv, vv, bv, pv, .string s.sw, .int .i64 s.ver, .slice ax 1 cx, .slice ay 1 cy, .int .i64 s.laid, .int .i64 s.lv, .int .i64 s.low, .int .i64 s.ch, .int .i64 s.pt], .int .i64 low] w fun e w' => OnR (entS s low) e ∧ Below w.heap.size w w' := by
  subst hcx
  subst hcy
  obtain ⟨ak, ck, rfl⟩ := hv.keys.len
  obtain ⟨av, cv, rfl⟩ := hv.vals.len
  obtain ⟨ab, cb, rfl⟩ := hv.bel.len
  obtain ⟨ap, cp, rfl⟩ := hv.pts.len
  obtain ⟨b1, o1, rfl, -, x1⟩ := hv.sp.elem 0 (by omega)
  obtain ⟨b2, o2, rfl, -, -⟩ := hv.sv.elem 0 (by omega)
  have hlb1 := hv.sp.blk_lt 0 (by omega)
  obtain ⟨c0, hc0⟩ : ∃ x, s.sp[0]?.getD 0 = x := ⟨_, rfl⟩
  have HX1 := hideIt x1
  have HC0 := hideIt hc0
  have hT1 : ∀ W, Rd W (.slice (some ⟨b1, o1, none⟩) 0 0) (s.sp.drop 1) := fun W => rd0 (List.eq_nil_of_length_eq_zero (by rw [List.length_drop]; omega))
  have hT2 : ∀ W, Rd W (.slice (some ⟨b2, o2, none⟩) 0 0) (s.sv.drop 1) := fun W => rd0 (List.eq_nil_of_length_eq_zero (by rw [List.length_drop]; omega))
  have A0 := ((M.start w).alloc #[.int .i64 s.kd, .int .i64 s.key, .int .i64 s.val, .int .i64 s.step, .int .i64 s.pg, .slice ak s.keys.length ck, .slice av s.vals.length cv, .slice ab s.bel.length cb, .slice ap s.pts.length cp, .string s.sw, .int .i64 s.ver, .slice (some ⟨b1, o1, none⟩) 1 1, .slice (some ⟨b2, o2, none⟩) 1 1, .int .i64 s.laid, .int .i64 s.lv, .int .i64 s.low, .int .i64 s.ch, .int .i64 s.pt] 92).alloc ans0 46
  rw [alloc_size] at A0
  have C := hideIt (fun W (hb : Below w.heap.size w W) => readOn_any { s with lv := s.lv + 1, low := low, ch := c0, sp := s.sp.drop 1, sv := s.sv.drop 1 } 0 _ _ _ _ _ _ W (htab.below hb) ⟨hv.keys.below hb, hv.vals.below hb, hv.bel.below hb, hv.pts.below hb, hT1 _, hT2 _⟩ (by have := hi; unfold entS at this; rw [hc0] at this; exact this) hs hs0 (Int.le_refl _))
  obtain ⟨hlv1, hlv2⟩ := hlv
  clear hv hi htab x1 hc0 hT1 hT2 hsl hvl hs hs0
  go_enter Tryz.func95, Tryz.ntmps95
  go_upto_region 1 with fail
  rw [show ans0 = #[.int .i64 0, .bool false, .int .i64 0, .int .i64 0, .slice none 0 0, .slice none 0 0, .slice none 0 0] from rfl] at A0
  generalize (w.alloc (.cells #[.int .i64 s.kd, .int .i64 s.key, .int .i64 s.val, .int .i64 s.step, .int .i64 s.pg, .slice ak s.keys.length ck, .slice av s.vals.length cv, .slice ab s.bel.length cb, .slice ap s.pts.length cp, .string s.sw, .int .i64 s.ver, .slice (some ⟨b1, o1, none⟩) 1 1, .slice (some ⟨b2, o2, none⟩) 1 1, .int .i64 s.laid, .int .i64 s.lv, .int .i64 s.low, .int .i64 s.ch, .int .i64 s.pt] 92)).alloc (.cells #[.int .i64 0, .bool false, .int .i64 0, .int .i64 0, .slice none 0 0, .slice none 0 0, .slice none 0 0] 46) = W at A0 ⊢
  obtain ⟨g0, hg0⟩ : ∃ g, w.heap.size = g := ⟨_, rfl⟩
  have HG0 := hideIt hg0
  rw [hg0] at A0 hlb1 C ⊢
  clear hg0
  have hn1 : b1 ≠ g0 := by omega
  have y1 := HX1.out _ (by rw [HG0.out]; exact A0.bl)
  rw [HC0.out, Nat.add_zero] at y1
  have A0 := hideIt A0
  have q14 := A0.out.cell (i := 1) rfl 14 (.int .i64 s.lv) rfl
  have f14 := A0.out.free (i := 1) rfl 14
  have A1 := hideIt (A0.out.store (i := 1) (j := 14) rfl (.int .i64 (s.lv + 1)) (c' := #[.int .i64 s.kd, .int .i64 s.key, .int .i64 s.val, .int .i64 s.step, .int .i64 s.pg, .slice ak s.keys.length ck, .slice av s.vals.length cv, .slice ab s.bel.length cb, .slice ap s.pts.length cp, .string s.sw, .int .i64 s.ver, .slice (some ⟨b1, o1, none⟩) 1 1, .slice (some ⟨b2, o2, none⟩) 1 1, .int .i64 s.laid, .int .i64 (s.lv + 1), .int .i64 s.low, .int .i64 s.ch, .int .i64 s.pt]) rfl)
  have z11 := A1.out.cell (i := 1) rfl 11 (.slice (some ⟨b1, o1, none⟩) 1 1) rfl
  have q15 := A1.out.cell (i := 1) rfl 15 (.int .i64 s.low) rfl
  have f15 := A1.out.free (i := 1) rfl 15
  have A2 := hideIt (A1.out.store (i := 1) (j := 15) rfl (.int .i64 low) (c' := #[.int .i64 s.kd, .int .i64 s.key, .int .i64 s.val, .int .i64 s.step, .int .i64 s.pg, .slice ak s.keys.length ck, .slice av s.vals.length cv, .slice ab s.bel.length cb, .slice ap s.pts.length cp, .string s.sw, .int .i64 s.ver, .slice (some ⟨b1, o1, none⟩) 1 1, .slice (some ⟨b2, o2, none⟩) 1 1, .int .i64 s.laid, .int .i64 (s.lv + 1), .int .i64 low, .int .i64 s.ch, .int .i64 s.pt]) rfl)
  have q16 := A2.out.cell (i := 1) rfl 16 (.int .i64 s.ch) rfl
  have f16 := A2.out.free (i := 1) rfl 16
  have A3 := hideIt (A2.out.store (i := 1) (j := 16) rfl (.int .i64 c0) (c' := #[.int .i64 s.kd, .int .i64 s.key, .int .i64 s.val, .int .i64 s.step, .int .i64 s.pg, .slice ak s.keys.length ck, .slice av s.vals.length cv, .slice ab s.bel.length cb, .slice ap s.pts.length cp, .string s.sw, .int .i64 s.ver, .slice (some ⟨b1, o1, none⟩) 1 1, .slice (some ⟨b2, o2, none⟩) 1 1, .int .i64 s.laid, .int .i64 (s.lv + 1), .int .i64 low, .int .i64 c0, .int .i64 s.pt]) rfl)
  have q11 := A3.out.cell (i := 1) rfl 11 (.slice (some ⟨b1, o1, none⟩) 1 1) rfl
  have f11 := A3.out.free (i := 1) rfl 11
  have A4 := hideIt (A3.out.store (i := 1) (j := 11) rfl (.slice (some ⟨b1, o1, none⟩) 0 0) (c' := #[.int .i64 s.kd, .int .i64 s.key, .int .i64 s.val, .int .i64 s.step, .int .i64 s.pg, .slice ak s.keys.length ck, .slice av s.vals.length cv, .slice ab s.bel.length cb, .slice ap s.pts.length cp, .string s.sw, .int .i64 s.ver, .slice (some ⟨b1, o1, none⟩) 0 0, .slice (some ⟨b2, o2, none⟩) 1 1, .int .i64 s.laid, .int .i64 (s.lv + 1), .int .i64 low, .int .i64 c0, .int .i64 s.pt]) rfl)
  have q12 := A4.out.cell (i := 1) rfl 12 (.slice (some ⟨b2, o2, none⟩) 1 1) rfl
  have f12 := A4.out.free (i := 1) rfl 12
  have A5 := hideIt (A4.out.store (i := 1) (j := 12) rfl (.slice (some ⟨b2, o2, none⟩) 0 0) (c' := #[.int .i64 s.kd, .int .i64 s.key, .int .i64 s.val, .int .i64 s.step, .int .i64 s.pg, .slice ak s.keys.length ck, .slice av s.vals.length cv, .slice ab s.bel.length cb, .slice ap s.pts.length cp, .string s.sw, .int .i64 s.ver, .slice (some ⟨b1, o1, none⟩) 0 0, .slice (some ⟨b2, o2, none⟩) 0 0, .int .i64 s.laid, .int .i64 (s.lv + 1), .int .i64 low, .int .i64 c0, .int .i64 s.pt]) rfl)
  have u11 := A2.out.cell (i := 1) rfl 11 (.slice (some ⟨b1, o1, none⟩) 1 1) rfl
  have t11 := A3.out.cell (i := 1) rfl 11 (.slice (some ⟨b1, o1, none⟩) 1 1) rfl
  have t12 := A4.out.cell (i := 1) rfl 12 (.slice (some ⟨b2, o2, none⟩) 1 1) rfl
  go_upto_region 6 with fail
  go_wp2_with (refine wpList_load_row rfl 92 _ rfl _ rfl 92 _ (0, 0) _ (A5.out.block (i := 1) rfl) Tryz.underlying92 rfl infoState ?_)
  refine (C.out _ (by have := A5.out.bl; rw [← HG0.out] at this ⊢; exact this)).mono ?_
  rintro e w1 ⟨⟨c, rfl, hc⟩, hb⟩
  have HC := hideIt hc
  have A6 := hideIt (A5.out.below hb)
  clear hc hb C A0 A1 A2 A3 A4 A5 q14 q15 q16 q11 q12 f14 f15 f16 f11 f12 z11 u11 t11 t12 y1
  have q0 := A6.out.cell (i := 0) rfl 0 (.int .i64 0) rfl
  have f0 := A6.out.free (i := 0) rfl 0
  have q1 := A6.out.cell (i := 0) rfl 1 (.bool false) rfl
  have f1 := A6.out.free (i := 0) rfl 1
  have q2 := A6.out.cell (i := 0) rfl 2 (.int .i64 0) rfl
  have f2 := A6.out.free (i := 0) rfl 2
  have q3 := A6.out.cell (i := 0) rfl 3 (.int .i64 0) rfl
  have f3 := A6.out.free (i := 0) rfl 3
  have q4 := A6.out.cell (i := 0) rfl 4 (.slice none 0 0) rfl
  have f4 := A6.out.free (i := 0) rfl 4
  have q5 := A6.out.cell (i := 0) rfl 5 (.slice none 0 0) rfl
  have f5 := A6.out.free (i := 0) rfl 5
  have q6 := A6.out.cell (i := 0) rfl 6 (.slice none 0 0) rfl
  have f6 := A6.out.free (i := 0) rfl 6
  have BL := hideIt A6.out.bl
  clear A6
  rw [show ans0 = #[.int .i64 0, .bool false, .int .i64 0, .int .i64 0, .slice none 0 0, .slice none 0 0, .slice none 0 0] from rfl]
  go_wp2
  refine bodyPost_ret (v := .tuple #[.string c, .agg #[.int .i64 0, .bool false, .int .i64 0, .int .i64 0, .slice none 0 0, .slice none 0 0, .slice none 0 0], .bool false, .int .i64 0]) (by simp [results, Tryz.results95, go_sem, *]) rfl ⟨⟨c, rfl, ?_⟩, ?_⟩
  · rw [HC.out]; unfold entS; rw [HC0.out]
  · rw [HG0.out]
    repeat (refine Below.setCell ?_ (by simp) _)
    exact BL.out
set_option maxRecDepth 100000 in
set_option maxHeartbeats 800000 in
theorem enterHalf_1zn (s : St) (low : Int) (kv vv bv pv : Value) (ax ay : Option Addr) (cx cy : Nat) (w : World) (htab : Tab w) (hv : StV w s kv vv bv pv (.slice ax 1 cx) (.slice ay 1 cy)) (hsl : s.sp.length = 1) (hvl : s.sv.length = 1) (hcx : cx = 1) (hcy : 2 ≤ cy) (hi : StI (entS s low)) (hs : s.step ≤ 1000000000) (hs0 : 0 ≤ s.step) (hlv : 0 ≤ s.lv ∧ s.lv ≤ 9) :
    Calls Tryz.prog 95 #[.agg #[.int .i64 s.kd, .int .i64 s.key, .int .i64 s.val, .int .i64 s.step, .int .i64 s.pg, kv, vv, bv, pv, .string s.sw, .int .i64 s.ver, .slice ax 1 cx, .slice ay 1 cy, .int .i64 s.laid, .int .i64 s.lv, .int .i64 s.low, .int .i64 s.ch, .int .i64 s.pt], .int .i64 low] w fun e w' => OnR (entS s low) e ∧ Below w.heap.size w w' := by
  subst hcx
  obtain ⟨ak, ck, rfl⟩ := hv.keys.len
  obtain ⟨av, cv, rfl⟩ := hv.vals.len
  obtain ⟨ab, cb, rfl⟩ := hv.bel.len
  obtain ⟨ap, cp, rfl⟩ := hv.pts.len
  obtain ⟨b1, o1, rfl, -, x1⟩ := hv.sp.elem 0 (by omega)
  obtain ⟨b2, o2, rfl, -, -⟩ := hv.sv.elem 0 (by omega)
  have hlb1 := hv.sp.blk_lt 0 (by omega)
  obtain ⟨c0, hc0⟩ : ∃ x, s.sp[0]?.getD 0 = x := ⟨_, rfl⟩
  have HX1 := hideIt x1
  have HC0 := hideIt hc0
  have hT1 : ∀ W, Rd W (.slice (some ⟨b1, o1, none⟩) 0 0) (s.sp.drop 1) := fun W => rd0 (List.eq_nil_of_length_eq_zero (by rw [List.length_drop]; omega))
  have hT2 : ∀ W, Rd W (.slice (some ⟨b2, o2 + 1, none⟩) 0 (cy - 1)) (s.sv.drop 1) := fun W => rd0 (List.eq_nil_of_length_eq_zero (by rw [List.length_drop]; omega))
  have A0 := ((M.start w).alloc #[.int .i64 s.kd, .int .i64 s.key, .int .i64 s.val, .int .i64 s.step, .int .i64 s.pg, .slice ak s.keys.length ck, .slice av s.vals.length cv, .slice ab s.bel.length cb, .slice ap s.pts.length cp, .string s.sw, .int .i64 s.ver, .slice (some ⟨b1, o1, none⟩) 1 1, .slice (some ⟨b2, o2, none⟩) 1 cy, .int .i64 s.laid, .int .i64 s.lv, .int .i64 s.low, .int .i64 s.ch, .int .i64 s.pt] 92).alloc ans0 46
  rw [alloc_size] at A0
  have C := hideIt (fun W (hb : Below w.heap.size w W) => readOn_any { s with lv := s.lv + 1, low := low, ch := c0, sp := s.sp.drop 1, sv := s.sv.drop 1 } 0 _ _ _ _ _ _ W (htab.below hb) ⟨hv.keys.below hb, hv.vals.below hb, hv.bel.below hb, hv.pts.below hb, hT1 _, hT2 _⟩ (by have := hi; unfold entS at this; rw [hc0] at this; exact this) hs hs0 (Int.le_refl _))
  have hcy3 : (2 : Int) ≤ (cy : Int) := by omega
  have hcy4 : ¬ cy = 1 := by omega
  obtain ⟨hlv1, hlv2⟩ := hlv
  clear hv hi htab x1 hc0 hT1 hT2 hsl hvl hs hs0 hcy
  go_enter Tryz.func95, Tryz.ntmps95
  go_upto_region 1 with fail
  rw [show ans0 = #[.int .i64 0, .bool false, .int .i64 0, .int .i64 0, .slice none 0 0, .slice none 0 0, .slice none 0 0] from rfl] at A0
  generalize (w.alloc (.cells #[.int .i64 s.kd, .int .i64 s.key, .int .i64 s.val, .int .i64 s.step, .int .i64 s.pg, .slice ak s.keys.length ck, .slice av s.vals.length cv, .slice ab s.bel.length cb, .slice ap s.pts.length cp, .string s.sw, .int .i64 s.ver, .slice (some ⟨b1, o1, none⟩) 1 1, .slice (some ⟨b2, o2, none⟩) 1 cy, .int .i64 s.laid, .int .i64 s.lv, .int .i64 s.low, .int .i64 s.ch, .int .i64 s.pt] 92)).alloc (.cells #[.int .i64 0, .bool false, .int .i64 0, .int .i64 0, .slice none 0 0, .slice none 0 0, .slice none 0 0] 46) = W at A0 ⊢
  obtain ⟨g0, hg0⟩ : ∃ g, w.heap.size = g := ⟨_, rfl⟩
  have HG0 := hideIt hg0
  rw [hg0] at A0 hlb1 C ⊢
  clear hg0
  have hn1 : b1 ≠ g0 := by omega
  have y1 := HX1.out _ (by rw [HG0.out]; exact A0.bl)
  rw [HC0.out, Nat.add_zero] at y1
  have A0 := hideIt A0
  have q14 := A0.out.cell (i := 1) rfl 14 (.int .i64 s.lv) rfl
  have f14 := A0.out.free (i := 1) rfl 14
  have A1 := hideIt (A0.out.store (i := 1) (j := 14) rfl (.int .i64 (s.lv + 1)) (c' := #[.int .i64 s.kd, .int .i64 s.key, .int .i64 s.val, .int .i64 s.step, .int .i64 s.pg, .slice ak s.keys.length ck, .slice av s.vals.length cv, .slice ab s.bel.length cb, .slice ap s.pts.length cp, .string s.sw, .int .i64 s.ver, .slice (some ⟨b1, o1, none⟩) 1 1, .slice (some ⟨b2, o2, none⟩) 1 cy, .int .i64 s.laid, .int .i64 (s.lv + 1), .int .i64 s.low, .int .i64 s.ch, .int .i64 s.pt]) rfl)
  have z11 := A1.out.cell (i := 1) rfl 11 (.slice (some ⟨b1, o1, none⟩) 1 1) rfl
  have q15 := A1.out.cell (i := 1) rfl 15 (.int .i64 s.low) rfl
  have f15 := A1.out.free (i := 1) rfl 15
  have A2 := hideIt (A1.out.store (i := 1) (j := 15) rfl (.int .i64 low) (c' := #[.int .i64 s.kd, .int .i64 s.key, .int .i64 s.val, .int .i64 s.step, .int .i64 s.pg, .slice ak s.keys.length ck, .slice av s.vals.length cv, .slice ab s.bel.length cb, .slice ap s.pts.length cp, .string s.sw, .int .i64 s.ver, .slice (some ⟨b1, o1, none⟩) 1 1, .slice (some ⟨b2, o2, none⟩) 1 cy, .int .i64 s.laid, .int .i64 (s.lv + 1), .int .i64 low, .int .i64 s.ch, .int .i64 s.pt]) rfl)
  have q16 := A2.out.cell (i := 1) rfl 16 (.int .i64 s.ch) rfl
  have f16 := A2.out.free (i := 1) rfl 16
  have A3 := hideIt (A2.out.store (i := 1) (j := 16) rfl (.int .i64 c0) (c' := #[.int .i64 s.kd, .int .i64 s.key, .int .i64 s.val, .int .i64 s.step, .int .i64 s.pg, .slice ak s.keys.length ck, .slice av s.vals.length cv, .slice ab s.bel.length cb, .slice ap s.pts.length cp, .string s.sw, .int .i64 s.ver, .slice (some ⟨b1, o1, none⟩) 1 1, .slice (some ⟨b2, o2, none⟩) 1 cy, .int .i64 s.laid, .int .i64 (s.lv + 1), .int .i64 low, .int .i64 c0, .int .i64 s.pt]) rfl)
  have q11 := A3.out.cell (i := 1) rfl 11 (.slice (some ⟨b1, o1, none⟩) 1 1) rfl
  have f11 := A3.out.free (i := 1) rfl 11
  have A4 := hideIt (A3.out.store (i := 1) (j := 11) rfl (.slice (some ⟨b1, o1, none⟩) 0 0) (c' := #[.int .i64 s.kd, .int .i64 s.key, .int .i64 s.val, .int .i64 s.step, .int .i64 s.pg, .slice ak s.keys.length ck, .slice av s.vals.length cv, .slice ab s.bel.length cb, .slice ap s.pts.length cp, .string s.sw, .int .i64 s.ver, .slice (some ⟨b1, o1, none⟩) 0 0, .slice (some ⟨b2, o2, none⟩) 1 cy, .int .i64 s.laid, .int .i64 (s.lv + 1), .int .i64 low, .int .i64 c0, .int .i64 s.pt]) rfl)
  have q12 := A4.out.cell (i := 1) rfl 12 (.slice (some ⟨b2, o2, none⟩) 1 cy) rfl
  have f12 := A4.out.free (i := 1) rfl 12
  have A5 := hideIt (A4.out.store (i := 1) (j := 12) rfl (.slice (some ⟨b2, o2 + 1, none⟩) 0 (cy - 1)) (c' := #[.int .i64 s.kd, .int .i64 s.key, .int .i64 s.val, .int .i64 s.step, .int .i64 s.pg, .slice ak s.keys.length ck, .slice av s.vals.length cv, .slice ab s.bel.length cb, .slice ap s.pts.length cp, .string s.sw, .int .i64 s.ver, .slice (some ⟨b1, o1, none⟩) 0 0, .slice (some ⟨b2, o2 + 1, none⟩) 0 (cy - 1), .int .i64 s.laid, .int .i64 (s.lv + 1), .int .i64 low, .int .i64 c0, .int .i64 s.pt]) rfl)
  have u11 := A2.out.cell (i := 1) rfl 11 (.slice (some ⟨b1, o1, none⟩) 1 1) rfl
  have t11 := A3.out.cell (i := 1) rfl 11 (.slice (some ⟨b1, o1, none⟩) 1 1) rfl
  have t12 := A4.out.cell (i := 1) rfl 12 (.slice (some ⟨b2, o2, none⟩) 1 cy) rfl
  go_upto_region 6 with fail
  go_wp2_with (refine wpList_load_row rfl 92 _ rfl _ rfl 92 _ (0, 0) _ (A5.out.block (i := 1) rfl) Tryz.underlying92 rfl infoState ?_)
  refine (C.out _ (by have := A5.out.bl; rw [← HG0.out] at this ⊢; exact this)).mono ?_
  rintro e w1 ⟨⟨c, rfl, hc⟩, hb⟩
  have HC := hideIt hc
  have A6 := hideIt (A5.out.below hb)
  clear hc hb C A0 A1 A2 A3 A4 A5 q14 q15 q16 q11 q12 f14 f15 f16 f11 f12 z11 u11 t11 t12 y1
  have q0 := A6.out.cell (i := 0) rfl 0 (.int .i64 0) rfl
  have f0 := A6.out.free (i := 0) rfl 0
  have q1 := A6.out.cell (i := 0) rfl 1 (.bool false) rfl
  have f1 := A6.out.free (i := 0) rfl 1
  have q2 := A6.out.cell (i := 0) rfl 2 (.int .i64 0) rfl
  have f2 := A6.out.free (i := 0) rfl 2
  have q3 := A6.out.cell (i := 0) rfl 3 (.int .i64 0) rfl
  have f3 := A6.out.free (i := 0) rfl 3
  have q4 := A6.out.cell (i := 0) rfl 4 (.slice none 0 0) rfl
  have f4 := A6.out.free (i := 0) rfl 4
  have q5 := A6.out.cell (i := 0) rfl 5 (.slice none 0 0) rfl
  have f5 := A6.out.free (i := 0) rfl 5
  have q6 := A6.out.cell (i := 0) rfl 6 (.slice none 0 0) rfl
  have f6 := A6.out.free (i := 0) rfl 6
  have BL := hideIt A6.out.bl
  clear A6
  rw [show ans0 = #[.int .i64 0, .bool false, .int .i64 0, .int .i64 0, .slice none 0 0, .slice none 0 0, .slice none 0 0] from rfl]
  go_wp2
  refine bodyPost_ret (v := .tuple #[.string c, .agg #[.int .i64 0, .bool false, .int .i64 0, .int .i64 0, .slice none 0 0, .slice none 0 0, .slice none 0 0], .bool false, .int .i64 0]) (by simp [results, Tryz.results95, go_sem, *]) rfl ⟨⟨c, rfl, ?_⟩, ?_⟩
  · rw [HC.out]; unfold entS; rw [HC0.out]
  · rw [HG0.out]
    repeat (refine Below.setCell ?_ (by simp) _)
    exact BL.out
set_option maxRecDepth 100000 in
set_option maxHeartbeats 800000 in
theorem enterHalf_1nz (s : St) (low : Int) (kv vv bv pv : Value) (ax ay : Option Addr) (cx cy : Nat) (w : World) (htab : Tab w) (hv : StV w s kv vv bv pv (.slice ax 1 cx) (.slice ay 1 cy)) (hsl : s.sp.length = 1) (hvl : s.sv.length = 1) (hcx : 2 ≤ cx) (hcy : cy = 1) (hi : StI (entS s low)) (hs : s.step ≤ 1000000000) (hs0 : 0 ≤ s.step) (hlv : 0 ≤ s.lv ∧ s.lv ≤ 9) :
    Calls Tryz.prog 95 #[.agg #[.int .i64 s.kd, .int .i64 s.key, .int .i64 s.val, .int .i64 s.step, .int .i64 s.pg, kv, vv, bv, pv, .string s.sw, .int .i64 s.ver, .slice ax 1 cx, .slice ay 1 cy, .int .i64 s.laid, .int .i64 s.lv, .int .i64 s.low, .int .i64 s.ch, .int .i64 s.pt], .int .i64 low] w fun e w' => OnR (entS s low) e ∧ Below w.heap.size w w' := by
  subst hcy
  obtain ⟨ak, ck, rfl⟩ := hv.keys.len
  obtain ⟨av, cv, rfl⟩ := hv.vals.len
  obtain ⟨ab, cb, rfl⟩ := hv.bel.len
  obtain ⟨ap, cp, rfl⟩ := hv.pts.len
  obtain ⟨b1, o1, rfl, -, x1⟩ := hv.sp.elem 0 (by omega)
  obtain ⟨b2, o2, rfl, -, -⟩ := hv.sv.elem 0 (by omega)
  have hlb1 := hv.sp.blk_lt 0 (by omega)
  obtain ⟨c0, hc0⟩ : ∃ x, s.sp[0]?.getD 0 = x := ⟨_, rfl⟩
  have HX1 := hideIt x1
  have HC0 := hideIt hc0
  have hT1 : ∀ W, Rd W (.slice (some ⟨b1, o1 + 1, none⟩) 0 (cx - 1)) (s.sp.drop 1) := fun W => rd0 (List.eq_nil_of_length_eq_zero (by rw [List.length_drop]; omega))
  have hT2 : ∀ W, Rd W (.slice (some ⟨b2, o2, none⟩) 0 0) (s.sv.drop 1) := fun W => rd0 (List.eq_nil_of_length_eq_zero (by rw [List.length_drop]; omega))
  have A0 := ((M.start w).alloc #[.int .i64 s.kd, .int .i64 s.key, .int .i64 s.val, .int .i64 s.step, .int .i64 s.pg, .slice ak s.keys.length ck, .slice av s.vals.length cv, .slice ab s.bel.length cb, .slice ap s.pts.length cp, .string s.sw, .int .i64 s.ver, .slice (some ⟨b1, o1, none⟩) 1 cx, .slice (some ⟨b2, o2, none⟩) 1 1, .int .i64 s.laid, .int .i64 s.lv, .int .i64 s.low, .int .i64 s.ch, .int .i64 s.pt] 92).alloc ans0 46
  rw [alloc_size] at A0
  have C := hideIt (fun W (hb : Below w.heap.size w W) => readOn_any { s with lv := s.lv + 1, low := low, ch := c0, sp := s.sp.drop 1, sv := s.sv.drop 1 } 0 _ _ _ _ _ _ W (htab.below hb) ⟨hv.keys.below hb, hv.vals.below hb, hv.bel.below hb, hv.pts.below hb, hT1 _, hT2 _⟩ (by have := hi; unfold entS at this; rw [hc0] at this; exact this) hs hs0 (Int.le_refl _))
  have hcx3 : (2 : Int) ≤ (cx : Int) := by omega
  have hcx4 : ¬ cx = 1 := by omega
  obtain ⟨hlv1, hlv2⟩ := hlv
  clear hv hi htab x1 hc0 hT1 hT2 hsl hvl hs hs0 hcx
  go_enter Tryz.func95, Tryz.ntmps95
  go_upto_region 1 with fail
  rw [show ans0 = #[.int .i64 0, .bool false, .int .i64 0, .int .i64 0, .slice none 0 0, .slice none 0 0, .slice none 0 0] from rfl] at A0
  generalize (w.alloc (.cells #[.int .i64 s.kd, .int .i64 s.key, .int .i64 s.val, .int .i64 s.step, .int .i64 s.pg, .slice ak s.keys.length ck, .slice av s.vals.length cv, .slice ab s.bel.length cb, .slice ap s.pts.length cp, .string s.sw, .int .i64 s.ver, .slice (some ⟨b1, o1, none⟩) 1 cx, .slice (some ⟨b2, o2, none⟩) 1 1, .int .i64 s.laid, .int .i64 s.lv, .int .i64 s.low, .int .i64 s.ch, .int .i64 s.pt] 92)).alloc (.cells #[.int .i64 0, .bool false, .int .i64 0, .int .i64 0, .slice none 0 0, .slice none 0 0, .slice none 0 0] 46) = W at A0 ⊢
  obtain ⟨g0, hg0⟩ : ∃ g, w.heap.size = g := ⟨_, rfl⟩
  have HG0 := hideIt hg0
  rw [hg0] at A0 hlb1 C ⊢
  clear hg0
  have hn1 : b1 ≠ g0 := by omega
  have y1 := HX1.out _ (by rw [HG0.out]; exact A0.bl)
  rw [HC0.out, Nat.add_zero] at y1
  have A0 := hideIt A0
  have q14 := A0.out.cell (i := 1) rfl 14 (.int .i64 s.lv) rfl
  have f14 := A0.out.free (i := 1) rfl 14
  have A1 := hideIt (A0.out.store (i := 1) (j := 14) rfl (.int .i64 (s.lv + 1)) (c' := #[.int .i64 s.kd, .int .i64 s.key, .int .i64 s.val, .int .i64 s.step, .int .i64 s.pg, .slice ak s.keys.length ck, .slice av s.vals.length cv, .slice ab s.bel.length cb, .slice ap s.pts.length cp, .string s.sw, .int .i64 s.ver, .slice (some ⟨b1, o1, none⟩) 1 cx, .slice (some ⟨b2, o2, none⟩) 1 1, .int .i64 s.laid, .int .i64 (s.lv + 1), .int .i64 s.low, .int .i64 s.ch, .int .i64 s.pt]) rfl)
  have z11 := A1.out.cell (i := 1) rfl 11 (.slice (some ⟨b1, o1, none⟩) 1 cx) rfl
  have q15 := A1.out.cell (i := 1) rfl 15 (.int .i64 s.low) rfl
  have f15 := A1.out.free (i := 1) rfl 15
  have A2 := hideIt (A1.out.store (i := 1) (j := 15) rfl (.int .i64 low) (c' := #[.int .i64 s.kd, .int .i64 s.key, .int .i64 s.val, .int .i64 s.step, .int .i64 s.pg, .slice ak s.keys.length ck, .slice av s.vals.length cv, .slice ab s.bel.length cb, .slice ap s.pts.length cp, .string s.sw, .int .i64 s.ver, .slice (some ⟨b1, o1, none⟩) 1 cx, .slice (some ⟨b2, o2, none⟩) 1 1, .int .i64 s.laid, .int .i64 (s.lv + 1), .int .i64 low, .int .i64 s.ch, .int .i64 s.pt]) rfl)
  have q16 := A2.out.cell (i := 1) rfl 16 (.int .i64 s.ch) rfl
  have f16 := A2.out.free (i := 1) rfl 16
  have A3 := hideIt (A2.out.store (i := 1) (j := 16) rfl (.int .i64 c0) (c' := #[.int .i64 s.kd, .int .i64 s.key, .int .i64 s.val, .int .i64 s.step, .int .i64 s.pg, .slice ak s.keys.length ck, .slice av s.vals.length cv, .slice ab s.bel.length cb, .slice ap s.pts.length cp, .string s.sw, .int .i64 s.ver, .slice (some ⟨b1, o1, none⟩) 1 cx, .slice (some ⟨b2, o2, none⟩) 1 1, .int .i64 s.laid, .int .i64 (s.lv + 1), .int .i64 low, .int .i64 c0, .int .i64 s.pt]) rfl)
  have q11 := A3.out.cell (i := 1) rfl 11 (.slice (some ⟨b1, o1, none⟩) 1 cx) rfl
  have f11 := A3.out.free (i := 1) rfl 11
  have A4 := hideIt (A3.out.store (i := 1) (j := 11) rfl (.slice (some ⟨b1, o1 + 1, none⟩) 0 (cx - 1)) (c' := #[.int .i64 s.kd, .int .i64 s.key, .int .i64 s.val, .int .i64 s.step, .int .i64 s.pg, .slice ak s.keys.length ck, .slice av s.vals.length cv, .slice ab s.bel.length cb, .slice ap s.pts.length cp, .string s.sw, .int .i64 s.ver, .slice (some ⟨b1, o1 + 1, none⟩) 0 (cx - 1), .slice (some ⟨b2, o2, none⟩) 1 1, .int .i64 s.laid, .int .i64 (s.lv + 1), .int .i64 low, .int .i64 c0, .int .i64 s.pt]) rfl)
  have q12 := A4.out.cell (i := 1) rfl 12 (.slice (some ⟨b2, o2, none⟩) 1 1) rfl
  have f12 := A4.out.free (i := 1) rfl 12
  have A5 := hideIt (A4.out.store (i := 1) (j := 12) rfl (.slice (some ⟨b2, o2, none⟩) 0 0) (c' := #[.int .i64 s.kd, .int .i64 s.key, .int .i64 s.val, .int .i64 s.step, .int .i64 s.pg, .slice ak s.keys.length ck, .slice av s.vals.length cv, .slice ab s.bel.length cb, .slice ap s.pts.length cp, .string s.sw, .int .i64 s.ver, .slice (some ⟨b1, o1 + 1, none⟩) 0 (cx - 1), .slice (some ⟨b2, o2, none⟩) 0 0, .int .i64 s.laid, .int .i64 (s.lv + 1), .int .i64 low, .int .i64 c0, .int .i64 s.pt]) rfl)
  have u11 := A2.out.cell (i := 1) rfl 11 (.slice (some ⟨b1, o1, none⟩) 1 cx) rfl
  have t11 := A3.out.cell (i := 1) rfl 11 (.slice (some ⟨b1, o1, none⟩) 1 cx) rfl
  have t12 := A4.out.cell (i := 1) rfl 12 (.slice (some ⟨b2, o2, none⟩) 1 1) rfl
  go_upto_region 6 with fail
  go_wp2_with (refine wpList_load_row rfl 92 _ rfl _ rfl 92 _ (0, 0) _ (A5.out.block (i := 1) rfl) Tryz.underlying92 rfl infoState ?_)
  refine (C.out _ (by have := A5.out.bl; rw [← HG0.out] at this ⊢; exact this)).mono ?_
  rintro e w1 ⟨⟨c, rfl, hc⟩, hb⟩
  have HC := hideIt hc
  have A6 := hideIt (A5.out.below hb)
  clear hc hb C A0 A1 A2 A3 A4 A5 q14 q15 q16 q11 q12 f14 f15 f16 f11 f12 z11 u11 t11 t12 y1
  have q0 := A6.out.cell (i := 0) rfl 0 (.int .i64 0) rfl
  have f0 := A6.out.free (i := 0) rfl 0
  have q1 := A6.out.cell (i := 0) rfl 1 (.bool false) rfl
  have f1 := A6.out.free (i := 0) rfl 1
  have q2 := A6.out.cell (i := 0) rfl 2 (.int .i64 0) rfl
  have f2 := A6.out.free (i := 0) rfl 2
  have q3 := A6.out.cell (i := 0) rfl 3 (.int .i64 0) rfl
  have f3 := A6.out.free (i := 0) rfl 3
  have q4 := A6.out.cell (i := 0) rfl 4 (.slice none 0 0) rfl
  have f4 := A6.out.free (i := 0) rfl 4
  have q5 := A6.out.cell (i := 0) rfl 5 (.slice none 0 0) rfl
  have f5 := A6.out.free (i := 0) rfl 5
  have q6 := A6.out.cell (i := 0) rfl 6 (.slice none 0 0) rfl
  have f6 := A6.out.free (i := 0) rfl 6
  have BL := hideIt A6.out.bl
  clear A6
  rw [show ans0 = #[.int .i64 0, .bool false, .int .i64 0, .int .i64 0, .slice none 0 0, .slice none 0 0, .slice none 0 0] from rfl]
  go_wp2
  refine bodyPost_ret (v := .tuple #[.string c, .agg #[.int .i64 0, .bool false, .int .i64 0, .int .i64 0, .slice none 0 0, .slice none 0 0, .slice none 0 0], .bool false, .int .i64 0]) (by simp [results, Tryz.results95, go_sem, *]) rfl ⟨⟨c, rfl, ?_⟩, ?_⟩
  · rw [HC.out]; unfold entS; rw [HC0.out]
  · rw [HG0.out]
    repeat (refine Below.setCell ?_ (by simp) _)
    exact BL.out
set_option maxRecDepth 100000 in
set_option maxHeartbeats 800000 in
theorem enterHalf_1nn (s : St) (low : Int) (kv vv bv pv : Value) (ax ay : Option Addr) (cx cy : Nat) (w : World) (htab : Tab w) (hv : StV w s kv vv bv pv (.slice ax 1 cx) (.slice ay 1 cy)) (hsl : s.sp.length = 1) (hvl : s.sv.length = 1) (hcx : 2 ≤ cx) (hcy : 2 ≤ cy) (hi : StI (entS s low)) (hs : s.step ≤ 1000000000) (hs0 : 0 ≤ s.step) (hlv : 0 ≤ s.lv ∧ s.lv ≤ 9) :
    Calls Tryz.prog 95 #[.agg #[.int .i64 s.kd, .int .i64 s.key, .int .i64 s.val, .int .i64 s.step, .int .i64 s.pg, kv, vv, bv, pv, .string s.sw, .int .i64 s.ver, .slice ax 1 cx, .slice ay 1 cy, .int .i64 s.laid, .int .i64 s.lv, .int .i64 s.low, .int .i64 s.ch, .int .i64 s.pt], .int .i64 low] w fun e w' => OnR (entS s low) e ∧ Below w.heap.size w w' := by
  obtain ⟨ak, ck, rfl⟩ := hv.keys.len
  obtain ⟨av, cv, rfl⟩ := hv.vals.len
  obtain ⟨ab, cb, rfl⟩ := hv.bel.len
  obtain ⟨ap, cp, rfl⟩ := hv.pts.len
  obtain ⟨b1, o1, rfl, -, x1⟩ := hv.sp.elem 0 (by omega)
  obtain ⟨b2, o2, rfl, -, -⟩ := hv.sv.elem 0 (by omega)
  have hlb1 := hv.sp.blk_lt 0 (by omega)
  obtain ⟨c0, hc0⟩ : ∃ x, s.sp[0]?.getD 0 = x := ⟨_, rfl⟩
  have HX1 := hideIt x1
  have HC0 := hideIt hc0
  have hT1 : ∀ W, Rd W (.slice (some ⟨b1, o1 + 1, none⟩) 0 (cx - 1)) (s.sp.drop 1) := fun W => rd0 (List.eq_nil_of_length_eq_zero (by rw [List.length_drop]; omega))
  have hT2 : ∀ W, Rd W (.slice (some ⟨b2, o2 + 1, none⟩) 0 (cy - 1)) (s.sv.drop 1) := fun W => rd0 (List.eq_nil_of_length_eq_zero (by rw [List.length_drop]; omega))
  have A0 := ((M.start w).alloc #[.int .i64 s.kd, .int .i64 s.key, .int .i64 s.val, .int .i64 s.step, .int .i64 s.pg, .slice ak s.keys.length ck, .slice av s.vals.length cv, .slice ab s.bel.length cb, .slice ap s.pts.length cp, .string s.sw, .int .i64 s.ver, .slice (some ⟨b1, o1, none⟩) 1 cx, .slice (some ⟨b2, o2, none⟩) 1 cy, .int .i64 s.laid, .int .i64 s.lv, .int .i64 s.low, .int .i64 s.ch, .int .i64 s.pt] 92).alloc ans0 46
  rw [alloc_size] at A0
  have C := hideIt (fun W (hb : Below w.heap.size w W) => readOn_any { s with lv := s.lv + 1, low := low, ch := c0, sp := s.sp.drop 1, sv := s.sv.drop 1 } 0 _ _ _ _ _ _ W (htab.below hb) ⟨hv.keys.below hb, hv.vals.below hb, hv.bel.below hb, hv.pts.below hb, hT1 _, hT2 _⟩ (by have := hi; unfold entS at this; rw [hc0] at this; exact this) hs hs0 (Int.le_refl _))
  have hcx3 : (2 : Int) ≤ (cx : Int) := by omega
  have hcx4 : ¬ cx = 1 := by omega
  have hcy3 : (2 : Int) ≤ (cy : Int) := by omega
  have hcy4 : ¬ cy = 1 := by omega
  obtain ⟨hlv1, hlv2⟩ := hlv
  clear hv hi htab x1 hc0 hT1 hT2 hsl hvl hs hs0 hcx hcy
  go_enter Tryz.func95, Tryz.ntmps95
  go_upto_region 1 with fail
  rw [show ans0 = #[.int .i64 0, .bool false, .int .i64 0, .int .i64 0, .slice none 0 0, .slice none 0 0, .slice none 0 0] from rfl] at A0
  generalize (w.alloc (.cells #[.int .i64 s.kd, .int .i64 s.key, .int .i64 s.val, .int .i64 s.step, .int .i64 s.pg, .slice ak s.keys.length ck, .slice av s.vals.length cv, .slice ab s.bel.length cb, .slice ap s.pts.length cp, .string s.sw, .int .i64 s.ver, .slice (some ⟨b1, o1, none⟩) 1 cx, .slice (some ⟨b2, o2, none⟩) 1 cy, .int .i64 s.laid, .int .i64 s.lv, .int .i64 s.low, .int .i64 s.ch, .int .i64 s.pt] 92)).alloc (.cells #[.int .i64 0, .bool false, .int .i64 0, .int .i64 0, .slice none 0 0, .slice none 0 0, .slice none 0 0] 46) = W at A0 ⊢
  obtain ⟨g0, hg0⟩ : ∃ g, w.heap.size = g := ⟨_, rfl⟩
  have HG0 := hideIt hg0
  rw [hg0] at A0 hlb1 C ⊢
  clear hg0
  have hn1 : b1 ≠ g0 := by omega
  have y1 := HX1.out _ (by rw [HG0.out]; exact A0.bl)
  rw [HC0.out, Nat.add_zero] at y1
  have A0 := hideIt A0
  have q14 := A0.out.cell (i := 1) rfl 14 (.int .i64 s.lv) rfl
  have f14 := A0.out.free (i := 1) rfl 14
  have A1 := hideIt (A0.out.store (i := 1) (j := 14) rfl (.int .i64 (s.lv + 1)) (c' := #[.int .i64 s.kd, .int .i64 s.key, .int .i64 s.val, .int .i64 s.step, .int .i64 s.pg, .slice ak s.keys.length ck, .slice av s.vals.length cv, .slice ab s.bel.length cb, .slice ap s.pts.length cp, .string s.sw, .int .i64 s.ver, .slice (some ⟨b1, o1, none⟩) 1 cx, .slice (some ⟨b2, o2, none⟩) 1 cy, .int .i64 s.laid, .int .i64 (s.lv + 1), .int .i64 s.low, .int .i64 s.ch, .int .i64 s.pt]) rfl)
  have z11 := A1.out.cell (i := 1) rfl 11 (.slice (some ⟨b1, o1, none⟩) 1 cx) rfl
  have q15 := A1.out.cell (i := 1) rfl 15 (.int .i64 s.low) rfl
  have f15 := A1.out.free (i := 1) rfl 15
  have A2 := hideIt (A1.out.store (i := 1) (j := 15) rfl (.int .i64 low) (c' := #[.int .i64 s.kd, .int .i64 s.key, .int .i64 s.val, .int .i64 s.step, .int .i64 s.pg, .slice ak s.keys.length ck, .slice av s.vals.length cv, .slice ab s.bel.length cb, .slice ap s.pts.length cp, .string s.sw, .int .i64 s.ver, .slice (some ⟨b1, o1, none⟩) 1 cx, .slice (some ⟨b2, o2, none⟩) 1 cy, .int .i64 s.laid, .int .i64 (s.lv + 1), .int .i64 low, .int .i64 s.ch, .int .i64 s.pt]) rfl)
  have q16 := A2.out.cell (i := 1) rfl 16 (.int .i64 s.ch) rfl
  have f16 := A2.out.free (i := 1) rfl 16
  have A3 := hideIt (A2.out.store (i := 1) (j := 16) rfl (.int .i64 c0) (c' := #[.int .i64 s.kd, .int .i64 s.key, .int .i64 s.val, .int .i64 s.step, .int .i64 s.pg, .slice ak s.keys.length ck, .slice av s.vals.length cv, .slice ab s.bel.length cb, .slice ap s.pts.length cp, .string s.sw, .int .i64 s.ver, .slice (some ⟨b1, o1, none⟩) 1 cx, .slice (some ⟨b2, o2, none⟩) 1 cy, .int .i64 s.laid, .int .i64 (s.lv + 1), .int .i64 low, .int .i64 c0, .int .i64 s.pt]) rfl)
  have q11 := A3.out.cell (i := 1) rfl 11 (.slice (some ⟨b1, o1, none⟩) 1 cx) rfl
  have f11 := A3.out.free (i := 1) rfl 11
  have A4 := hideIt (A3.out.store (i := 1) (j := 11) rfl (.slice (some ⟨b1, o1 + 1, none⟩) 0 (cx - 1)) (c' := #[.int .i64 s.kd, .int .i64 s.key, .int .i64 s.val, .int .i64 s.step, .int .i64 s.pg, .slice ak s.keys.length ck, .slice av s.vals.length cv, .slice ab s.bel.length cb, .slice ap s.pts.length cp, .string s.sw, .int .i64 s.ver, .slice (some ⟨b1, o1 + 1, none⟩) 0 (cx - 1), .slice (some ⟨b2, o2, none⟩) 1 cy, .int .i64 s.laid, .int .i64 (s.lv + 1), .int .i64 low, .int .i64 c0, .int .i64 s.pt]) rfl)
  have q12 := A4.out.cell (i := 1) rfl 12 (.slice (some ⟨b2, o2, none⟩) 1 cy) rfl
  have f12 := A4.out.free (i := 1) rfl 12
  have A5 := hideIt (A4.out.store (i := 1) (j := 12) rfl (.slice (some ⟨b2, o2 + 1, none⟩) 0 (cy - 1)) (c' := #[.int .i64 s.kd, .int .i64 s.key, .int .i64 s.val, .int .i64 s.step, .int .i64 s.pg, .slice ak s.keys.length ck, .slice av s.vals.length cv, .slice ab s.bel.length cb, .slice ap s.pts.length cp, .string s.sw, .int .i64 s.ver, .slice (some ⟨b1, o1 + 1, none⟩) 0 (cx - 1), .slice (some ⟨b2, o2 + 1, none⟩) 0 (cy - 1), .int .i64 s.laid, .int .i64 (s.lv + 1), .int .i64 low, .int .i64 c0, .int .i64 s.pt]) rfl)
  have u11 := A2.out.cell (i := 1) rfl 11 (.slice (some ⟨b1, o1, none⟩) 1 cx) rfl
  have t11 := A3.out.cell (i := 1) rfl 11 (.slice (some ⟨b1, o1, none⟩) 1 cx) rfl
  have t12 := A4.out.cell (i := 1) rfl 12 (.slice (some ⟨b2, o2, none⟩) 1 cy) rfl
  go_upto_region 6 with fail
  go_wp2_with (refine wpList_load_row rfl 92 _ rfl _ rfl 92 _ (0, 0) _ (A5.out.block (i := 1) rfl) Tryz.underlying92 rfl infoState ?_)
  refine (C.out _ (by have := A5.out.bl; rw [← HG0.out] at this ⊢; exact this)).mono ?_
  rintro e w1 ⟨⟨c, rfl, hc⟩, hb⟩
  have HC := hideIt hc
  have A6 := hideIt (A5.out.below hb)
  clear hc hb C A0 A1 A2 A3 A4 A5 q14 q15 q16 q11 q12 f14 f15 f16 f11 f12 z11 u11 t11 t12 y1
  have q0 := A6.out.cell (i := 0) rfl 0 (.int .i64 0) rfl
  have f0 := A6.out.free (i := 0) rfl 0
  have q1 := A6.out.cell (i := 0) rfl 1 (.bool false) rfl
  have f1 := A6.out.free (i := 0) rfl 1
  have q2 := A6.out.cell (i := 0) rfl 2 (.int .i64 0) rfl
  have f2 := A6.out.free (i := 0) rfl 2
  have q3 := A6.out.cell (i := 0) rfl 3 (.int .i64 0) rfl
  have f3 := A6.out.free (i := 0) rfl 3
  have q4 := A6.out.cell (i := 0) rfl 4 (.slice none 0 0) rfl
  have f4 := A6.out.free (i := 0) rfl 4
  have q5 := A6.out.cell (i := 0) rfl 5 (.slice none 0 0) rfl
  have f5 := A6.out.free (i := 0) rfl 5
  have q6 := A6.out.cell (i := 0) rfl 6 (.slice none 0 0) rfl
  have f6 := A6.out.free (i := 0) rfl 6
  have BL := hideIt A6.out.bl
  clear A6
  rw [show ans0 = #[.int .i64 0, .bool false, .int .i64 0, .int .i64 0, .slice none 0 0, .slice none 0 0, .slice none 0 0] from rfl]
  go_wp2
  refine bodyPost_ret (v := .tuple #[.string c, .agg #[.int .i64 0, .bool false, .int .i64 0, .int .i64 0, .slice none 0 0, .slice none 0 0, .slice none 0 0], .bool false, .int .i64 0]) (by simp [results, Tryz.results95, go_sem, *]) rfl ⟨⟨c, rfl, ?_⟩, ?_⟩
  · rw [HC.out]; unfold entS; rw [HC0.out]
  · rw [HG0.out]
    repeat (refine Below.setCell ?_ (by simp) _)
    exact BL.out
set_option maxRecDepth 100000 in
set_option maxHeartbeats 800000 in
theorem enterHalf_2 (s : St) (low : Int) (kv vv bv pv : Value) (ax ay : Option Addr) (cx cy : Nat) (w : World) (htab : Tab w) (hv : StV w s kv vv bv pv (.slice ax 2 cx) (.slice ay 2 cy)) (hsl : s.sp.length = 2) (hvl : s.sv.length = 2) (hcx : 2 ≤ cx) (hcy : 2 ≤ cy) (hi : StI (entS s low)) (hs : s.step ≤ 1000000000) (hs0 : 0 ≤ s.step) (hlv : 0 ≤ s.lv ∧ s.lv ≤ 9) :
    Calls Tryz.prog 95 #[.agg #[.int .i64 s.kd, .int .i64 s.key, .int .i64 s.val, .int .i64 s.step, .int .i64 s.pg, kv, vv, bv, pv, .string s.sw, .int .i64 s.ver, .slice ax 2 cx, .slice ay 2 cy, .int .i64 s.laid, .int .i64 s.lv, .int .i64 s.low, .int .i64 s.ch, .int .i64 s.pt], .int .i64 low] w fun e w' => OnR (entS s low) e ∧ Below w.heap.size w w' := by
  obtain ⟨ak, ck, rfl⟩ := hv.keys.len
  obtain ⟨av, cv, rfl⟩ := hv.vals.len
  obtain ⟨ab, cb, rfl⟩ := hv.bel.len
  obtain ⟨ap, cp, rfl⟩ := hv.pts.len
  obtain ⟨b1, o1, rfl, -, x1⟩ := hv.sp.elem 0 (by omega)
  obtain ⟨b2, o2, rfl, -, -⟩ := hv.sv.elem 0 (by omega)
  have hlb1 := hv.sp.blk_lt 0 (by omega)
  obtain ⟨c0, hc0⟩ : ∃ x, s.sp[0]?.getD 0 = x := ⟨_, rfl⟩
  have HX1 := hideIt x1
  have HC0 := hideIt hc0
  have hT1 := Rd.tail (m := 1) (c' := cx - 1) hv.sp hsl
  have hT2 := Rd.tail (m := 1) (c' := cy - 1) hv.sv hvl
  have A0 := ((M.start w).alloc #[.int .i64 s.kd, .int .i64 s.key, .int .i64 s.val, .int .i64 s.step, .int .i64 s.pg, .slice ak s.keys.length ck, .slice av s.vals.length cv, .slice ab s.bel.length cb, .slice ap s.pts.length cp, .string s.sw, .int .i64 s.ver, .slice (some ⟨b1, o1, none⟩) 2 cx, .slice (some ⟨b2, o2, none⟩) 2 cy, .int .i64 s.laid, .int .i64 s.lv, .int .i64 s.low, .int .i64 s.ch, .int .i64 s.pt] 92).alloc ans0 46
  rw [alloc_size] at A0
  have C := hideIt (fun W (hb : Below w.heap.size w W) => readOn_any { s with lv := s.lv + 1, low := low, ch := c0, sp := s.sp.drop 1, sv := s.sv.drop 1 } 0 _ _ _ _ _ _ W (htab.below hb) ⟨hv.keys.below hb, hv.vals.below hb, hv.bel.below hb, hv.pts.below hb, hT1.below hb, hT2.below hb⟩ (by have := hi; unfold entS at this; rw [hc0] at this; exact this) hs hs0 (Int.le_refl _))
  have hcx3 : (2 : Int) ≤ (cx : Int) := by omega
  have hcy3 : (2 : Int) ≤ (cy : Int) := by omega
  obtain ⟨hlv1, hlv2⟩ := hlv
  clear hv hi htab x1 hc0 hT1 hT2 hsl hvl hs hs0 hcx hcy
  go_enter Tryz.func95, Tryz.ntmps95
  go_upto_region 1 with fail
  rw [show ans0 = #[.int .i64 0, .bool false, .int .i64 0, .int .i64 0, .slice none 0 0, .slice none 0 0, .slice none 0 0] from rfl] at A0
  generalize (w.alloc (.cells #[.int .i64 s.kd, .int .i64 s.key, .int .i64 s.val, .int .i64 s.step, .int .i64 s.pg, .slice ak s.keys.length ck, .slice av s.vals.length cv, .slice ab s.bel.length cb, .slice ap s.pts.length cp, .string s.sw, .int .i64 s.ver, .slice (some ⟨b1, o1, none⟩) 2 cx, .slice (some ⟨b2, o2, none⟩) 2 cy, .int .i64 s.laid, .int .i64 s.lv, .int .i64 s.low, .int .i64 s.ch, .int .i64 s.pt] 92)).alloc (.cells #[.int .i64 0, .bool false, .int .i64 0, .int .i64 0, .slice none 0 0, .slice none 0 0, .slice none 0 0] 46) = W at A0 ⊢
  obtain ⟨g0, hg0⟩ : ∃ g, w.heap.size = g := ⟨_, rfl⟩
  have HG0 := hideIt hg0
  rw [hg0] at A0 hlb1 C ⊢
  clear hg0
  have hn1 : b1 ≠ g0 := by omega
  have y1 := HX1.out _ (by rw [HG0.out]; exact A0.bl)
  rw [HC0.out, Nat.add_zero] at y1
  have A0 := hideIt A0
  have q14 := A0.out.cell (i := 1) rfl 14 (.int .i64 s.lv) rfl
  have f14 := A0.out.free (i := 1) rfl 14
  have A1 := hideIt (A0.out.store (i := 1) (j := 14) rfl (.int .i64 (s.lv + 1)) (c' := #[.int .i64 s.kd, .int .i64 s.key, .int .i64 s.val, .int .i64 s.step, .int .i64 s.pg, .slice ak s.keys.length ck, .slice av s.vals.length cv, .slice ab s.bel.length cb, .slice ap s.pts.length cp, .string s.sw, .int .i64 s.ver, .slice (some ⟨b1, o1, none⟩) 2 cx, .slice (some ⟨b2, o2, none⟩) 2 cy, .int .i64 s.laid, .int .i64 (s.lv + 1), .int .i64 s.low, .int .i64 s.ch, .int .i64 s.pt]) rfl)
  have z11 := A1.out.cell (i := 1) rfl 11 (.slice (some ⟨b1, o1, none⟩) 2 cx) rfl
  have q15 := A1.out.cell (i := 1) rfl 15 (.int .i64 s.low) rfl
  have f15 := A1.out.free (i := 1) rfl 15
  have A2 := hideIt (A1.out.store (i := 1) (j := 15) rfl (.int .i64 low) (c' := #[.int .i64 s.kd, .int .i64 s.key, .int .i64 s.val, .int .i64 s.step, .int .i64 s.pg, .slice ak s.keys.length ck, .slice av s.vals.length cv, .slice ab s.bel.length cb, .slice ap s.pts.length cp, .string s.sw, .int .i64 s.ver, .slice (some ⟨b1, o1, none⟩) 2 cx, .slice (some ⟨b2, o2, none⟩) 2 cy, .int .i64 s.laid, .int .i64 (s.lv + 1), .int .i64 low, .int .i64 s.ch, .int .i64 s.pt]) rfl)
  have q16 := A2.out.cell (i := 1) rfl 16 (.int .i64 s.ch) rfl
  have f16 := A2.out.free (i := 1) rfl 16
  have A3 := hideIt (A2.out.store (i := 1) (j := 16) rfl (.int .i64 c0) (c' := #[.int .i64 s.kd, .int .i64 s.key, .int .i64 s.val, .int .i64 s.step, .int .i64 s.pg, .slice ak s.keys.length ck, .slice av s.vals.length cv, .slice ab s.bel.length cb, .slice ap s.pts.length cp, .string s.sw, .int .i64 s.ver, .slice (some ⟨b1, o1, none⟩) 2 cx, .slice (some ⟨b2, o2, none⟩) 2 cy, .int .i64 s.laid, .int .i64 (s.lv + 1), .int .i64 low, .int .i64 c0, .int .i64 s.pt]) rfl)
  have q11 := A3.out.cell (i := 1) rfl 11 (.slice (some ⟨b1, o1, none⟩) 2 cx) rfl
  have f11 := A3.out.free (i := 1) rfl 11
  have A4 := hideIt (A3.out.store (i := 1) (j := 11) rfl (.slice (some ⟨b1, o1 + 1, none⟩) 1 (cx - 1)) (c' := #[.int .i64 s.kd, .int .i64 s.key, .int .i64 s.val, .int .i64 s.step, .int .i64 s.pg, .slice ak s.keys.length ck, .slice av s.vals.length cv, .slice ab s.bel.length cb, .slice ap s.pts.length cp, .string s.sw, .int .i64 s.ver, .slice (some ⟨b1, o1 + 1, none⟩) 1 (cx - 1), .slice (some ⟨b2, o2, none⟩) 2 cy, .int .i64 s.laid, .int .i64 (s.lv + 1), .int .i64 low, .int .i64 c0, .int .i64 s.pt]) rfl)
  have q12 := A4.out.cell (i := 1) rfl 12 (.slice (some ⟨b2, o2, none⟩) 2 cy) rfl
  have f12 := A4.out.free (i := 1) rfl 12
  have A5 := hideIt (A4.out.store (i := 1) (j := 12) rfl (.slice (some ⟨b2, o2 + 1, none⟩) 1 (cy - 1)) (c' := #[.int .i64 s.kd, .int .i64 s.key, .int .i64 s.val, .int .i64 s.step, .int .i64 s.pg, .slice ak s.keys.length ck, .slice av s.vals.length cv, .slice ab s.bel.length cb, .slice ap s.pts.length cp, .string s.sw, .int .i64 s.ver, .slice (some ⟨b1, o1 + 1, none⟩) 1 (cx - 1), .slice (some ⟨b2, o2 + 1, none⟩) 1 (cy - 1), .int .i64 s.laid, .int .i64 (s.lv + 1), .int .i64 low, .int .i64 c0, .int .i64 s.pt]) rfl)
  have u11 := A2.out.cell (i := 1) rfl 11 (.slice (some ⟨b1, o1, none⟩) 2 cx) rfl
  have t11 := A3.out.cell (i := 1) rfl 11 (.slice (some ⟨b1, o1, none⟩) 2 cx) rfl
  have t12 := A4.out.cell (i := 1) rfl 12 (.slice (some ⟨b2, o2, none⟩) 2 cy) rfl
  go_upto_region 6 with fail
  go_wp2_with (refine wpList_load_row rfl 92 _ rfl _ rfl 92 _ (0, 0) _ (A5.out.block (i := 1) rfl) Tryz.underlying92 rfl infoState ?_)
  refine (C.out _ (by have := A5.out.bl; rw [← HG0.out] at this ⊢; exact this)).mono ?_
  rintro e w1 ⟨⟨c, rfl, hc⟩, hb⟩
  have HC := hideIt hc
  have A6 := hideIt (A5.out.below hb)
  clear hc hb C A0 A1 A2 A3 A4 A5 q14 q15 q16 q11 q12 f14 f15 f16 f11 f12 z11 u11 t11 t12 y1
  have q0 := A6.out.cell (i := 0) rfl 0 (.int .i64 0) rfl
  have f0 := A6.out.free (i := 0) rfl 0
  have q1 := A6.out.cell (i := 0) rfl 1 (.bool false) rfl
  have f1 := A6.out.free (i := 0) rfl 1
  have q2 := A6.out.cell (i := 0) rfl 2 (.int .i64 0) rfl
  have f2 := A6.out.free (i := 0) rfl 2
  have q3 := A6.out.cell (i := 0) rfl 3 (.int .i64 0) rfl
  have f3 := A6.out.free (i := 0) rfl 3
  have q4 := A6.out.cell (i := 0) rfl 4 (.slice none 0 0) rfl
  have f4 := A6.out.free (i := 0) rfl 4
  have q5 := A6.out.cell (i := 0) rfl 5 (.slice none 0 0) rfl
  have f5 := A6.out.free (i := 0) rfl 5
  have q6 := A6.out.cell (i := 0) rfl 6 (.slice none 0 0) rfl
  have f6 := A6.out.free (i := 0) rfl 6
  have BL := hideIt A6.out.bl
  clear A6
  rw [show ans0 = #[.int .i64 0, .bool false, .int .i64 0, .int .i64 0, .slice none 0 0, .slice none 0 0, .slice none 0 0] from rfl]
  go_wp2
  refine bodyPost_ret (v := .tuple #[.string c, .agg #[.int .i64 0, .bool false, .int .i64 0, .int .i64 0, .slice none 0 0, .slice none 0 0, .slice none 0 0], .bool false, .int .i64 0]) (by simp [results, Tryz.results95, go_sem, *]) rfl ⟨⟨c, rfl, ?_⟩, ?_⟩
  · rw [HC.out]; unfold entS; rw [HC0.out]
  · rw [HG0.out]
    repeat (refine Below.setCell ?_ (by simp) _)
    exact BL.out
theorem enterHalf_any (s : St) (low : Int) (kv vv bv pv : Value) (ax ay : Option Addr) (cx cy : Nat) (w : World) (htab : Tab w) (hv : StV w s kv vv bv pv (.slice ax s.sp.length cx) (.slice ay s.sv.length cy)) (hsp : 0 < s.sp.length) (hsp2 : s.sp.length ≤ 2) (hspl : s.sp.length = s.sv.length) (hcx : s.sp.length ≤ cx) (hcy : s.sv.length ≤ cy) (hi : StI (entS s low)) (hs : s.step ≤ 1000000000) (hs0 : 0 ≤ s.step) (hlv : 0 ≤ s.lv ∧ s.lv ≤ 9) :
    Calls Tryz.prog 95 #[.agg #[.int .i64 s.kd, .int .i64 s.key, .int .i64 s.val, .int .i64 s.step, .int .i64 s.pg, kv, vv, bv, pv, .string s.sw, .int .i64 s.ver, .slice ax s.sp.length cx, .slice ay s.sv.length cy, .int .i64 s.laid, .int .i64 s.lv, .int .i64 s.low, .int .i64 s.ch, .int .i64 s.pt], .int .i64 low] w fun e w' => OnR (entS s low) e ∧ Below w.heap.size w w' := by
  have h12 : s.sp.length = 1 ∨ s.sp.length = 2 := by omega
  rcases h12 with h1 | h1
  · have h2 : s.sv.length = 1 := by omega
    rw [h1, h2] at hv ⊢
    by_cases hx : cx = 1
    · by_cases hy : cy = 1
      · exact enterHalf_1zz s low kv vv bv pv ax ay cx cy w htab hv h1 h2 hx hy hi hs hs0 hlv
      · exact enterHalf_1zn s low kv vv bv pv ax ay cx cy w htab hv h1 h2 hx (by omega) hi hs hs0 hlv
    · by_cases hy : cy = 1
      · exact enterHalf_1nz s low kv vv bv pv ax ay cx cy w htab hv h1 h2 (by omega) hy hi hs hs0 hlv
      · exact enterHalf_1nn s low kv vv bv pv ax ay cx cy w htab hv h1 h2 (by omega) (by omega) hi hs hs0 hlv
  · have h2 : s.sv.length = 2 := by omega
    rw [h1, h2] at hv ⊢
    exact enterHalf_2 s low kv vv bv pv ax ay cx cy w htab hv h1 h2 (by omega) (by omega) hi hs hs0 hlv
def frsS (s : St) (num : Int) : St := { s with sp := s.sp ++ [num], sv := s.sv ++ [0], laid := s.laid + 1, step := s.step + 1 }
def frsR (s : St) (num : Int) : Res := if num = -1 then (if s.lv = 0 then .fin 4 false 0 0 [] [] [] else .fin 0 false 0 s.pt [] [] []) else .on (frsS s num)
set_option maxRecDepth 100000 in
set_option maxHeartbeats 3200000 in
theorem tellFresh_no (s : St) (kv vv bv pv xv yv : Value) (fr : List As) (w0 w : World) (B : Nat)
    (h : M w0 B w (.row 3 1 kv s.keys.length (ints s.keys) :: .row 3 1 vv s.vals.length (ints s.vals) :: .row 3 1 bv s.bel.length (ints s.bel) :: .row 3 1 pv s.pts.length (ints s.pts) :: .row 3 1 xv s.sp.length (ints s.sp) :: .row 3 1 yv s.sv.length (ints s.sv) :: fr)) :
    Calls Tryz.prog 69 #[.agg #[.int .i64 s.kd, .int .i64 s.key, .int .i64 s.val, .int .i64 s.step, .int .i64 s.pg, kv, vv, bv, pv, .string s.sw, .int .i64 s.ver, xv, yv, .int .i64 s.laid, .int .i64 s.lv, .int .i64 s.low, .int .i64 s.ch, .int .i64 s.pt], .int .i64 (-1)] w fun e w' => ResM (frsR s (-1)) w0 B w' fr e := by
  obtain ⟨ak, ck, rfl⟩ := As.form0 (h.get (i := 0) rfl)
  obtain ⟨av, cv, rfl⟩ := As.form0 (h.get (i := 1) rfl)
  obtain ⟨ab, cb, rfl⟩ := As.form0 (h.get (i := 2) rfl)
  obtain ⟨ap, cp, rfl⟩ := As.form0 (h.get (i := 3) rfl)
  obtain ⟨ax, cx, rfl⟩ := As.form0 (h.get (i := 4) rfl)
  obtain ⟨ay, cy, rfl⟩ := As.form0 (h.get (i := 5) rfl)
  have A0 := (h.alloc #[.int .i64 s.kd, .int .i64 s.key, .int .i64 s.val, .int .i64 s.step, .int .i64 s.pg, .slice ak s.keys.length ck, .slice av s.vals.length cv, .slice ab s.bel.length cb, .slice ap s.pts.length cp, .string s.sw, .int .i64 s.ver, .slice ax s.sp.length cx, .slice ay s.sv.length cy, .int .i64 s.laid, .int .i64 s.lv, .int .i64 s.low, .int .i64 s.ch, .int .i64 s.pt] 92).alloc #[.int .i64 0, .bool false, .int .i64 0, .int .i64 0, .slice none 0 0, .slice none 0 0, .slice none 0 0] 46
  rw [alloc_size] at A0
  clear h
  go_enter Tryz.func69, Tryz.ntmps69
  go_upto_region 1 with fail
  generalize (w.alloc (.cells #[.int .i64 s.kd, .int .i64 s.key, .int .i64 s.val, .int .i64 s.step, .int .i64 s.pg, .slice ak s.keys.length ck, .slice av s.vals.length cv, .slice ab s.bel.length cb, .slice ap s.pts.length cp, .string s.sw, .int .i64 s.ver, .slice ax s.sp.length cx, .slice ay s.sv.length cy, .int .i64 s.laid, .int .i64 s.lv, .int .i64 s.low, .int .i64 s.ch, .int .i64 s.pt] 92)).alloc (.cells #[.int .i64 0, .bool false, .int .i64 0, .int .i64 0, .slice none 0 0, .slice none 0 0, .slice none 0 0] 46) = W at A0 ⊢
  have A1 := hideIt A0
  clear A0
  have q14 := A1.out.cell (i := 1) rfl 14 (.int .i64 s.lv) rfl
  have q17 := A1.out.cell (i := 1) rfl 17 (.int .i64 s.pt) rfl
  have r0 := A1.out.cell (i := 0) rfl 0 (.int .i64 0) rfl
  have f0 := A1.out.free (i := 0) rfl 0
  have r1 := A1.out.cell (i := 0) rfl 1 (.bool false) rfl
  have f1 := A1.out.free (i := 0) rfl 1
  have r2 := A1.out.cell (i := 0) rfl 2 (.int .i64 0) rfl
  have f2 := A1.out.free (i := 0) rfl 2
  have r3 := A1.out.cell (i := 0) rfl 3 (.int .i64 0) rfl
  have f3 := A1.out.free (i := 0) rfl 3
  have r4 := A1.out.cell (i := 0) rfl 4 (.slice none 0 0) rfl
  have f4 := A1.out.free (i := 0) rfl 4
  have r5 := A1.out.cell (i := 0) rfl 5 (.slice none 0 0) rfl
  have f5 := A1.out.free (i := 0) rfl 5
  have r6 := A1.out.cell (i := 0) rfl 6 (.slice none 0 0) rfl
  have f6 := A1.out.free (i := 0) rfl 6
  by_cases hlv : s.lv = 0
  · have HR : Hid (frsR s (-1) = .fin 4 false 0 0 [] [] []) := by unfold Hid frsR; rw [if_pos rfl, if_pos hlv]
    have hlb : (s.lv == 0) = true := by simp [hlv]
    have S7 := hideIt (A1.out.store7 (i := 0) rfl (.int .i64 4) (.bool false) (.int .i64 0) (.int .i64 0) (.slice none 0 0) (.slice none 0 0) (.slice none 0 0))
    clear hlv A1
    go_wp2
    refine bodyPost_ret (v := .tuple #[.string ⟨#[]⟩, .agg #[.int .i64 4, .bool false, .int .i64 0, .int .i64 0, .slice none 0 0, .slice none 0 0, .slice none 0 0], .bool true, .int .i64 0]) (by simp [results, Tryz.results69, go_sem, *]) rfl ?_
    rw [HR.out]
    exact ⟨_, _, _, rfl, M.consNil (M.consNil (M.consNil (S7.out.sub (.cons _ (.cons _ (.cons _ (.cons _ (.cons _ (.cons _ (.cons _ (.cons _ (List.Sublist.refl _))))))))))))⟩
  · have HR : Hid (frsR s (-1) = .fin 0 false 0 s.pt [] [] []) := by unfold Hid frsR; rw [if_pos rfl, if_neg hlv]
    have hlb : (s.lv == 0) = false := by simp [hlv]
    have S7 := hideIt ((A1.out.store7 (i := 0) rfl (.int .i64 0) (.bool false) (.int .i64 0) (.int .i64 s.pt) (.slice none 0 0) (.slice none 0 0) (.slice none 0 0)))
    clear hlv A1
    go_wp2_with fail
    go_region
    all_goals
      go_wp2
      refine bodyPost_ret (v := .tuple #[.string ⟨#[]⟩, .agg #[.int .i64 0, .bool false, .int .i64 0, .int .i64 s.pt, .slice none 0 0, .slice none 0 0, .slice none 0 0], .bool true, .int .i64 0]) (by simp [results, Tryz.results69, go_sem, *]) rfl ?_
      rw [HR.out]
      exact ⟨_, _, _, rfl, M.consNil (M.consNil (M.consNil ((S7.out.drewN 1).sub (.cons _ (.cons _ (.cons _ (.cons _ (.cons _ (.cons _ (.cons _ (.cons _ (List.Sublist.refl _))))))))))))⟩
set_option maxRecDepth 100000 in
set_option maxHeartbeats 3200000 in
theorem tellFresh_on (s : St) (num : Int) (kv vv bv pv xv yv : Value) (fr : List As) (w0 w : World) (B : Nat) (htab : Tab w0) (hB : B = w0.heap.size) (hn1 : 1 ≤ num) (hn2 : num ≤ 63) (hsp2 : s.sp.length ≤ 2) (hsv2 : s.sv.length ≤ 2) (hl0 : 0 ≤ s.laid) (hl2 : s.laid ≤ 2) (hi : StI (frsS s num)) (hs : s.step ≤ 1000000000) (hs0 : 0 ≤ s.step)
    (h : M w0 B w (.row 3 1 kv s.keys.length (ints s.keys) :: .row 3 1 vv s.vals.length (ints s.vals) :: .row 3 1 bv s.bel.length (ints s.bel) :: .row 3 1 pv s.pts.length (ints s.pts) :: .row 3 1 xv s.sp.length (ints s.sp) :: .row 3 1 yv s.sv.length (ints s.sv) :: fr)) :
    Calls Tryz.prog 69 #[.agg #[.int .i64 s.kd, .int .i64 s.key, .int .i64 s.val, .int .i64 s.step, .int .i64 s.pg, kv, vv, bv, pv, .string s.sw, .int .i64 s.ver, xv, yv, .int .i64 s.laid, .int .i64 s.lv, .int .i64 s.low, .int .i64 s.ch, .int .i64 s.pt], .int .i64 num] w fun e w' => ResM (.on (frsS s num)) w0 B w' fr e := by
  obtain ⟨i0, hi0, hz0, hz1, hz2⟩ := info_parts infoInt
  obtain ⟨ak, ck, rfl⟩ := As.form0 (h.get (i := 0) rfl)
  obtain ⟨av, cv, rfl⟩ := As.form0 (h.get (i := 1) rfl)
  obtain ⟨ab, cb, rfl⟩ := As.form0 (h.get (i := 2) rfl)
  obtain ⟨ap, cp, rfl⟩ := As.form0 (h.get (i := 3) rfl)
  obtain ⟨ax, cx, rfl⟩ := As.form0 (h.get (i := 4) rfl)
  obtain ⟨ay, cy, rfl⟩ := As.form0 (h.get (i := 5) rfl)
  have A0 := (h.alloc #[.int .i64 s.kd, .int .i64 s.key, .int .i64 s.val, .int .i64 s.step, .int .i64 s.pg, .slice ak s.keys.length ck, .slice av s.vals.length cv, .slice ab s.bel.length cb, .slice ap s.pts.length cp, .string s.sw, .int .i64 s.ver, .slice ax s.sp.length cx, .slice ay s.sv.length cy, .int .i64 s.laid, .int .i64 s.lv, .int .i64 s.low, .int .i64 s.ch, .int .i64 s.pt] 92).alloc #[.int .i64 0, .bool false, .int .i64 0, .int .i64 0, .slice none 0 0, .slice none 0 0, .slice none 0 0] 46
  rw [alloc_size] at A0
  have HT : Hid (∀ W l, M w0 B W l → Tab W) := fun W l hm => htab.below (hB ▸ hm.bl)
  have HI := hideIt hi
  have hc : (decide (1 ≤ num) && decide (num < 64)) = true := by simp; omega
  have HC := hideIt hc
  have hnb : (num == -1) = false := by simp; omega
  have HCH := hideIt (fun W => isChild_any num W)
  clear h hc hi htab hB
  go_enter Tryz.func69, Tryz.ntmps69
  go_upto_region 1 with fail
  generalize (w.alloc (.cells #[.int .i64 s.kd, .int .i64 s.key, .int .i64 s.val, .int .i64 s.step, .int .i64 s.pg, .slice ak s.keys.length ck, .slice av s.vals.length cv, .slice ab s.bel.length cb, .slice ap s.pts.length cp, .string s.sw, .int .i64 s.ver, .slice ax s.sp.length cx, .slice ay s.sv.length cy, .int .i64 s.laid, .int .i64 s.lv, .int .i64 s.low, .int .i64 s.ch, .int .i64 s.pt] 92)).alloc (.cells #[.int .i64 0, .bool false, .int .i64 0, .int .i64 0, .slice none 0 0, .slice none 0 0, .slice none 0 0] 46) = W at A0 ⊢
  generalize w.heap.size = gs at A0 ⊢
  have A1 := hideIt A0
  clear A0
  have q11 := A1.out.cell (i := 1) rfl 11 (.slice ax s.sp.length cx) rfl
  have f11 := A1.out.free (i := 1) rfl 11
  have hlg := A1.out.lt (i := 1) rfl
  go_upto_region 7 with (refine (HCH.out _).mono ?_; rintro e w1 ⟨rfl, rfl⟩; rw [HC.out])
  go_upto_region 8 with (at_builtin; refine wpList_append_lies _ rfl _ _ 22 rfl B 3 i0 (.int .i64 0) 1 8 Tryz.underlying22 hi0 hz0 hz1 hz2 rfl (by decide) _ s.sp.length (ints s.sp) rfl (World.ownsRow.alloc (A1.out.get (i := 6) rfl) _) ⟨_, 0, none⟩ 1 1 [.int .i64 num] rfl rfl (news_one _ _ _) (by simp [Value.oneCell']) (by omega) (by unfold maxLen; omega) (by omega) (by have := A1.out.sz; simp at this ⊢; omega) _ rfl ?_; intro g1 cap1 w5 hown hgrow hat hlt1; rw [← ints_snoc] at hown; have hm := (A1.out.allocd _).lies (i := 6) rfl hown hgrow hat; clear q11 f11 hlg hown hgrow hat; have q11 := hm.cell (i := 1) rfl 11 (.slice ax s.sp.length cx) rfl; have f11 := hm.free (i := 1) rfl 11; have hlg := hm.lt (i := 1) rfl; have H1 := hideIt (hm.store (i := 1) (j := 11) rfl (.slice (some ⟨g1, 0, none⟩) (s.sp.length + 1) cap1) rfl); clear hm A1)
  have q12 := H1.out.cell (i := 1) rfl 12 (.slice ay s.sv.length cy) rfl
  have f12 := H1.out.free (i := 1) rfl 12
  go_upto_region 9 with (at_builtin; refine wpList_append_lies _ rfl _ _ 22 rfl B 3 i0 (.int .i64 0) 1 8 Tryz.underlying22 hi0 hz0 hz1 hz2 rfl (by decide) _ s.sv.length (ints s.sv) rfl (World.ownsRow.alloc (H1.out.get (i := 7) rfl) _) ⟨_, 0, none⟩ 1 1 [.int .i64 0] rfl rfl (by have := news_one (w5.setCell ⟨gs, 11, none⟩ (.slice (some ⟨g1, 0, none⟩) (s.sp.length + 1) cap1)) (.int .i64 0) 3; simpa using this) (by simp [Value.oneCell']) (by omega) (by unfold maxLen; omega) (by omega) (by have := H1.out.sz; simp at this ⊢; omega) _ rfl ?_; intro g2 cap2 w7 hown hgrow hat hlt1; rw [← ints_snoc] at hown; have hm := (H1.out.allocd _).lies (i := 7) rfl hown hgrow hat; clear q11 f11 q12 f12 hlg hown hgrow hat; have q12 := hm.cell (i := 1) rfl 12 (.slice ay s.sv.length cy) rfl; have f12 := hm.free (i := 1) rfl 12; have hlg := hm.lt (i := 1) rfl; have H2 := hideIt (hm.store (i := 1) (j := 12) rfl (.slice (some ⟨g2, 0, none⟩) (s.sv.length + 1) cap2) rfl); clear hm H1)
  have q13 := H2.out.cell (i := 1) rfl 13 (.int .i64 s.laid) rfl
  have f13 := H2.out.free (i := 1) rfl 13
  have A5 := hideIt (H2.out.store (i := 1) (j := 13) rfl (.int .i64 (s.laid + 1)) (c' := #[.int .i64 s.kd, .int .i64 s.key, .int .i64 s.val, .int .i64 s.step, .int .i64 s.pg, .slice ak s.keys.length ck, .slice av s.vals.length cv, .slice ab s.bel.length cb, .slice ap s.pts.length cp, .string s.sw, .int .i64 s.ver, .slice (some ⟨g1, 0, none⟩) (s.sp.length + 1) cap1, .slice (some ⟨g2, 0, none⟩) (s.sv.length + 1) cap2, .int .i64 (s.laid + 1), .int .i64 s.lv, .int .i64 s.low, .int .i64 s.ch, .int .i64 s.pt]) rfl)
  have SV : StV _ { s with sp := s.sp ++ [num], sv := s.sv ++ [0], laid := s.laid + 1 } (.slice ak s.keys.length ck) (.slice av s.vals.length cv) (.slice ab s.bel.length cb) (.slice ap s.pts.length cp) (.slice (some ⟨g1, 0, none⟩) (s.sp.length + 1) cap1) (.slice (some ⟨g2, 0, none⟩) (s.sv.length + 1) cap2) :=
    ⟨owns_rd (A5.out.get (i := 2) rfl), owns_rd (A5.out.get (i := 3) rfl), owns_rd (A5.out.get (i := 4) rfl), owns_rd (A5.out.get (i := 5) rfl), rd_len (A5.out.get (i := 6) rfl) (by simp), rd_len (A5.out.get (i := 7) rfl) (by simp)⟩
  have CG := hideIt (goOn_any { s with sp := s.sp ++ [num], sv := s.sv ++ [0], laid := s.laid + 1 } _ _ _ _ _ _ _ (HT.out _ _ A5.out) SV HI.out hs hs0)
  clear SV HI
  go_upto_region 10 with fail
  go_wp2_with (refine wpList_load_row rfl 92 _ rfl _ rfl 92 _ (0, 0) _ (A5.out.block (i := 1) rfl) Tryz.underlying92 rfl infoState ?_)
  refine CG.out.mono ?_
  rintro e w9 ⟨⟨c5, rfl, hc5⟩, hb⟩
  have HC5 := hideIt hc5
  have A7 := hideIt (A5.out.below hb)
  clear hc5 hb CG A5 H2 q13 f13
  have r0 := A7.out.cell (i := 0) rfl 0 (.int .i64 0) rfl
  have f0 := A7.out.free (i := 0) rfl 0
  have r1 := A7.out.cell (i := 0) rfl 1 (.bool false) rfl
  have f1 := A7.out.free (i := 0) rfl 1
  have r2 := A7.out.cell (i := 0) rfl 2 (.int .i64 0) rfl
  have f2 := A7.out.free (i := 0) rfl 2
  have r3 := A7.out.cell (i := 0) rfl 3 (.int .i64 0) rfl
  have f3 := A7.out.free (i := 0) rfl 3
  have r4 := A7.out.cell (i := 0) rfl 4 (.slice none 0 0) rfl
  have f4 := A7.out.free (i := 0) rfl 4
  have r5 := A7.out.cell (i := 0) rfl 5 (.slice none 0 0) rfl
  have f5 := A7.out.free (i := 0) rfl 5
  have r6 := A7.out.cell (i := 0) rfl 6 (.slice none 0 0) rfl
  have f6 := A7.out.free (i := 0) rfl 6
  have S7 := hideIt (A7.out.store7 (i := 0) rfl (.int .i64 0) (.bool false) (.int .i64 0) (.int .i64 0) (.slice none 0 0) (.slice none 0 0) (.slice none 0 0))
  clear A7
  rw [show ans0 = #[.int .i64 0, .bool false, .int .i64 0, .int .i64 0, .slice none 0 0, .slice none 0 0, .slice none 0 0] from rfl]
  go_wp2
  refine bodyPost_ret (v := .tuple #[.string c5, .agg #[.int .i64 0, .bool false, .int .i64 0, .int .i64 0, .slice none 0 0, .slice none 0 0, .slice none 0 0], .bool false, .int .i64 0]) (by simp [results, Tryz.results69, go_sem, *]) rfl ?_
  exact ⟨⟨c5, rfl, HC5.out⟩, S7.out.sub (.cons _ (.cons _ (.cons _ (.cons _ (.cons _ (.cons _ (.cons _ (.cons _ (List.Sublist.refl _)))))))))⟩
end Go.Proofs.YtajobgmnmbnhiaaGreatDoor.Sap
