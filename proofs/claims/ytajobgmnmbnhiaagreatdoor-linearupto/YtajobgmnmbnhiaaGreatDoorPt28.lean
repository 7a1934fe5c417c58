/- WHAT IS PROVED HERE: what tree.tellSpare answers where the Swap is done. Conditions: named at the theorem. -/
import Derived.Test.YtajobgmnmbnhiaaGreatDoorPt27
namespace Go.Proofs.YtajobgmnmbnhiaaGreatDoor.Sap
open Go.RowKit
def sprS (s : St) : St := { s with sv := s.sv.set s.laid.toNat (s.sv[s.laid.toNat]?.getD 0 + 1), laid := s.laid + 1, step := s.step + 1 }
set_option maxRecDepth 100000 in
set_option maxHeartbeats 3200000 in
theorem tellSpare_yes (s : St) (kv vv bv pv xv yv : Value) (fr : List As) (w0 w : World) (B : Nat) (htab : Tab w0) (hB : B = w0.heap.size) (hl0 : 0 ≤ s.laid) (hl1 : s.laid < s.sv.length) (hsv2 : s.sv.length ≤ 2) (hvb : ∀ x ∈ s.sv, 0 ≤ x ∧ x ≤ 1000000000000) (hi : StI (sprS s)) (hs : s.step ≤ 1000000000) (hs0 : 0 ≤ s.step)
    (h : M w0 B w (.row 3 1 kv s.keys.length (ints s.keys) :: .row 3 1 vv s.vals.length (ints s.vals) :: .row 3 1 bv s.bel.length (ints s.bel) :: .row 3 1 pv s.pts.length (ints s.pts) :: .row 3 1 xv s.sp.length (ints s.sp) :: .row 3 1 yv s.sv.length (ints s.sv) :: fr)) :
    Calls Tryz.prog 70 #[.agg #[.int .i64 s.kd, .int .i64 s.key, .int .i64 s.val, .int .i64 s.step, .int .i64 s.pg, kv, vv, bv, pv, .string s.sw, .int .i64 s.ver, xv, yv, .int .i64 s.laid, .int .i64 s.lv, .int .i64 s.low, .int .i64 s.ch, .int .i64 s.pt], .bool true] w fun e w' => ResM (.on (sprS s)) w0 B w' fr e := by
  obtain ⟨ak, ck, rfl⟩ := As.form0 (h.get (i := 0) rfl)
  obtain ⟨av, cv, rfl⟩ := As.form0 (h.get (i := 1) rfl)
  obtain ⟨ab, cb, rfl⟩ := As.form0 (h.get (i := 2) rfl)
  obtain ⟨ap, cp, rfl⟩ := As.form0 (h.get (i := 3) rfl)
  obtain ⟨ax, cx, rfl⟩ := As.form0 (h.get (i := 4) rfl)
  obtain ⟨g2, cy, rfl⟩ := As.form (h.get (i := 5) rfl) (by omega)
  have A0 := (h.alloc #[.int .i64 s.kd, .int .i64 s.key, .int .i64 s.val, .int .i64 s.step, .int .i64 s.pg, .slice ak s.keys.length ck, .slice av s.vals.length cv, .slice ab s.bel.length cb, .slice ap s.pts.length cp, .string s.sw, .int .i64 s.ver, .slice ax s.sp.length cx, .slice (some ⟨g2, 0, none⟩) s.sv.length cy, .int .i64 s.laid, .int .i64 s.lv, .int .i64 s.low, .int .i64 s.ch, .int .i64 s.pt] 92).alloc #[.int .i64 0, .bool false, .int .i64 0, .int .i64 0, .slice none 0 0, .slice none 0 0, .slice none 0 0] 46
  rw [alloc_size] at A0
  have HT : Hid (∀ W l, M w0 B W l → Tab W) := fun W l hm => htab.below (hB ▸ hm.bl)
  have HI := hideIt hi
  obtain ⟨j, hj⟩ : ∃ j : Nat, s.laid = (j : Int) := ⟨s.laid.toNat, by omega⟩
  have hjl : j < s.sv.length := by omega
  obtain ⟨v, hv⟩ : ∃ v, s.sv[j]? = some v := ⟨_, List.getElem?_eq_getElem hjl⟩
  have hvr := hvb v (List.mem_of_getElem? hv)
  have HSP : Hid (sprS s = { s with sv := s.sv.set j (v + 1), laid := s.laid + 1, step := s.step + 1 }) := by unfold Hid sprS; rw [hj]; simp only [Int.toNat_natCast, hv, Option.getD_some]
  have HV : Hid ((ints s.sv)[j]? = some (.int .i64 v)) := by unfold Hid ints; rw [List.getElem?_map, hv]; rfl
  have HIN : Hid ((ints s.sv).set j (.int .i64 (v + 1)) = ints (s.sv.set j (v + 1))) := by unfold Hid ints; rw [List.map_set]
  have HJ := hideIt hj
  have hj0 : (0 : Int) ≤ (j : Int) := by omega
  have hj1 : (j : Int) < (s.sv.length : Int) := by omega
  obtain ⟨hvr1, hvr2⟩ := hvr
  clear h hi htab hB hv hj hvb hl0 hl1
  go_enter Tryz.func70, Tryz.ntmps70
  go_upto_region 1 with fail
  generalize (w.alloc (.cells #[.int .i64 s.kd, .int .i64 s.key, .int .i64 s.val, .int .i64 s.step, .int .i64 s.pg, .slice ak s.keys.length ck, .slice av s.vals.length cv, .slice ab s.bel.length cb, .slice ap s.pts.length cp, .string s.sw, .int .i64 s.ver, .slice ax s.sp.length cx, .slice (some ⟨g2, 0, none⟩) s.sv.length cy, .int .i64 s.laid, .int .i64 s.lv, .int .i64 s.low, .int .i64 s.ch, .int .i64 s.pt] 92)).alloc (.cells #[.int .i64 0, .bool false, .int .i64 0, .int .i64 0, .slice none 0 0, .slice none 0 0, .slice none 0 0] 46) = W at A0 ⊢
  generalize w.heap.size = gs at A0 ⊢
  rw [HJ.out] at A0
  have A1 := hideIt A0
  clear A0
  have q12 := A1.out.cell (i := 1) rfl 12 (.slice (some ⟨g2, 0, none⟩) s.sv.length cy) rfl
  have q13 := A1.out.cell (i := 1) rfl 13 (.int .i64 j) rfl
  have y1 := A1.out.rowCell (i := 7) rfl j (.int .i64 v) HV.out
  have y2 := A1.out.rowFree (i := 7) rfl j
  have hne := A1.out.ne (i := 1) (j := 7) rfl rfl
  have hne2 : g2 ≠ gs := fun e => hne e.symm
  have A2 := hideIt (A1.out.storeRow (i := 7) (j := j) rfl (.int .i64 (v + 1)))
  have z13 := A2.out.cell (i := 1) rfl 13 (.int .i64 j) rfl
  have f13 := A2.out.free (i := 1) rfl 13
  have A3 := A2.out.store (i := 1) (j := 13) rfl (.int .i64 ((j : Int) + 1)) (c' := #[.int .i64 s.kd, .int .i64 s.key, .int .i64 s.val, .int .i64 s.step, .int .i64 s.pg, .slice ak s.keys.length ck, .slice av s.vals.length cv, .slice ab s.bel.length cb, .slice ap s.pts.length cp, .string s.sw, .int .i64 s.ver, .slice ax s.sp.length cx, .slice (some ⟨g2, 0, none⟩) s.sv.length cy, .int .i64 ((j : Int) + 1), .int .i64 s.lv, .int .i64 s.low, .int .i64 s.ch, .int .i64 s.pt]) rfl
  simp only [List.set_cons_succ, List.set_cons_zero] at A3
  rw [HIN.out] at A3
  have A5 := hideIt A3
  clear A3
  have SV : StV _ { s with sv := s.sv.set j (v + 1), laid := (j : Int) + 1 } (.slice ak s.keys.length ck) (.slice av s.vals.length cv) (.slice ab s.bel.length cb) (.slice ap s.pts.length cp) (.slice ax s.sp.length cx) (.slice (some ⟨g2, 0, none⟩) s.sv.length cy) :=
    ⟨owns_rd (A5.out.get (i := 2) rfl), owns_rd (A5.out.get (i := 3) rfl), owns_rd (A5.out.get (i := 4) rfl), owns_rd (A5.out.get (i := 5) rfl), owns_rd (A5.out.get (i := 6) rfl), rd_len (A5.out.get (i := 7) rfl) (by simp)⟩
  have CG := hideIt (goOn_any { s with sv := s.sv.set j (v + 1), laid := (j : Int) + 1 } _ _ _ _ _ _ _ (HT.out _ _ A5.out) SV (by have := HI.out; rw [HSP.out, HJ.out] at this; exact this) hs hs0)
  clear SV HI
  go_upto_region 7 with fail
  go_wp2_with (refine wpList_load_row rfl 92 _ rfl _ rfl 92 _ (0, 0) _ (A5.out.block (i := 1) rfl) Tryz.underlying92 rfl infoState ?_)
  refine CG.out.mono ?_
  rintro e w9 ⟨⟨c5, rfl, hc5⟩, hb⟩
  have HC5 := hideIt hc5
  have A7 := hideIt (A5.out.below hb)
  clear hc5 hb CG A5 A2 A1 q12 q13 y1 y2 z13 f13
  have r0 := A7.out.cell (i := 0) rfl 0 (.int .i64 0) rfl
  have f0 := A7.out.free (i := 0) rfl 0
  have r1 := A7.out.cell (i := 0) rfl 1 (.bool false) rfl
  have f1 := A7.out.free (i := 0) rfl 1
  have r2 := A7.out.cell (i := 0) rfl 2 (.int .i64 0) rfl
  have f2 := A7.out.free (i := 0) rfl 2
  have r3 := A7.out.cell (i := 0) rfl 3 (.int .i64 0) rfl
  have f3 := A7.out.free (i := 0) rfl 3
  have r4 := A7.out.cell (i := 0) rfl 4 (.slice none 0 0) rfl
  have f4 := A7.out.free (i := 0) rfl 4
  have r5 := A7.out.cell (i := 0) rfl 5 (.slice none 0 0) rfl
  have f5 := A7.out.free (i := 0) rfl 5
  have r6 := A7.out.cell (i := 0) rfl 6 (.slice none 0 0) rfl
  have f6 := A7.out.free (i := 0) rfl 6
  have S7 := hideIt (A7.out.store7 (i := 0) rfl (.int .i64 0) (.bool false) (.int .i64 0) (.int .i64 0) (.slice none 0 0) (.slice none 0 0) (.slice none 0 0))
  clear A7
  rw [show ans0 = #[.int .i64 0, .bool false, .int .i64 0, .int .i64 0, .slice none 0 0, .slice none 0 0, .slice none 0 0] from rfl]
  go_wp2
  refine bodyPost_ret (v := .tuple #[.string c5, .agg #[.int .i64 0, .bool false, .int .i64 0, .int .i64 0, .slice none 0 0, .slice none 0 0, .slice none 0 0], .bool false, .int .i64 0]) (by simp [results, Tryz.results70, go_sem, *]) rfl ?_
  rw [HSP.out, HJ.out]
  exact ⟨⟨c5, rfl, HC5.out⟩, S7.out.sub (.cons _ (.cons _ (.cons _ (.cons _ (.cons _ (.cons _ (.cons _ (.cons _ (List.Sublist.refl _)))))))))⟩
def seeS (s : St) (t : ByteArray) (ver : Int) : St := { s with sw := t, ver := ver }
set_option maxRecDepth 100000 in
set_option maxHeartbeats 3200000 in
theorem changeNode_miss (s : St) (n : Nd) (t : ByteArray) (ver : Int) (kv vv bv pv xv yv ka va : Value) (fr : List As) (w0 w : World) (B : Nat) (htab : Tab w0) (hB : B = w0.heap.size) (hka : .row 3 1 ka n.ks.length (ints n.ks) ∈ fr) (hva : .row 3 1 va n.vs.length (ints n.vs) ∈ fr) (hn : n.ks.length = n.vs.length) (h6 : n.ks.length ≤ 6) (hk : s.kd = 3) (hf : fndB n.ks s.key n.ks.length = false)
    (h : M w0 B w (.row 3 1 kv s.keys.length (ints s.keys) :: .row 3 1 vv s.vals.length (ints s.vals) :: .row 3 1 bv s.bel.length (ints s.bel) :: .row 3 1 pv s.pts.length (ints s.pts) :: .row 3 1 xv s.sp.length (ints s.sp) :: .row 3 1 yv s.sv.length (ints s.sv) :: fr)) :
    Calls Tryz.prog 91 #[.agg #[.int .i64 s.kd, .int .i64 s.key, .int .i64 s.val, .int .i64 s.step, .int .i64 s.pg, kv, vv, bv, pv, .string s.sw, .int .i64 s.ver, xv, yv, .int .i64 s.laid, .int .i64 s.lv, .int .i64 s.low, .int .i64 s.ch, .int .i64 s.pt], .agg #[.int .i64 n.lv, .int .i64 n.lk, .int .i64 n.hi, ka, va], .agg #[.int .i64 ver, .int .i64 0, .string t, .bool false]] w fun e w' => ResM (.fin 0 false (fndV n.ks n.vs s.key n.ks.length) s.step [] [] []) w0 B w' fr e := by
  obtain ⟨ak, ck, rfl⟩ := As.form0 (h.get (i := 0) rfl)
  obtain ⟨av, cv, rfl⟩ := As.form0 (h.get (i := 1) rfl)
  obtain ⟨ab, cb, rfl⟩ := As.form0 (h.get (i := 2) rfl)
  obtain ⟨ap, cp, rfl⟩ := As.form0 (h.get (i := 3) rfl)
  obtain ⟨ax, cx, rfl⟩ := As.form0 (h.get (i := 4) rfl)
  obtain ⟨ay, cy, rfl⟩ := As.form0 (h.get (i := 5) rfl)
  obtain ⟨na, nc, rfl⟩ := As.form0 (h.holds _ (show As.row 3 1 ka n.ks.length (ints n.ks) ∈ _ by simp [hka]))
  obtain ⟨nva, nvc, rfl⟩ := As.form0 (h.holds _ (show As.row 3 1 va n.vs.length (ints n.vs) ∈ _ by simp [hva]))
  have A0 := (((h.alloc #[.int .i64 s.kd, .int .i64 s.key, .int .i64 s.val, .int .i64 s.step, .int .i64 s.pg, .slice ak s.keys.length ck, .slice av s.vals.length cv, .slice ab s.bel.length cb, .slice ap s.pts.length cp, .string s.sw, .int .i64 s.ver, .slice ax s.sp.length cx, .slice ay s.sv.length cy, .int .i64 s.laid, .int .i64 s.lv, .int .i64 s.low, .int .i64 s.ch, .int .i64 s.pt] 92).alloc #[.int .i64 n.lv, .int .i64 n.lk, .int .i64 n.hi, .slice na n.ks.length nc, .slice nva n.vs.length nvc] 67).alloc #[.int .i64 ver, .int .i64 0, .string t, .bool false] 99).alloc #[.int .i64 0, .bool false, .int .i64 0, .int .i64 0, .slice none 0 0, .slice none 0 0, .slice none 0 0] 46
  rw [alloc_size, alloc_size, alloc_size] at A0
  have HT : Hid (∀ W l, M w0 B W l → Tab W) := fun W l hm => htab.below (hB ▸ hm.bl)
  have HBB := hideIt (And.intro hB htab)
  have HKA := hideIt hka
  have HVA := hideIt hva
  have HN := hideIt hn
  have HK := hideIt hk
  have HF := hideIt hf
  clear h hka hva hn htab hB hk hf
  go_enter Tryz.func91, Tryz.ntmps91
  go_upto_region 1 with fail
  generalize (((w.alloc (.cells #[.int .i64 s.kd, .int .i64 s.key, .int .i64 s.val, .int .i64 s.step, .int .i64 s.pg, .slice ak s.keys.length ck, .slice av s.vals.length cv, .slice ab s.bel.length cb, .slice ap s.pts.length cp, .string s.sw, .int .i64 s.ver, .slice ax s.sp.length cx, .slice ay s.sv.length cy, .int .i64 s.laid, .int .i64 s.lv, .int .i64 s.low, .int .i64 s.ch, .int .i64 s.pt] 92)).alloc (.cells #[.int .i64 n.lv, .int .i64 n.lk, .int .i64 n.hi, .slice na n.ks.length nc, .slice nva n.vs.length nvc] 67)).alloc (.cells #[.int .i64 ver, .int .i64 0, .string t, .bool false] 99)).alloc (.cells #[.int .i64 0, .bool false, .int .i64 0, .int .i64 0, .slice none 0 0, .slice none 0 0, .slice none 0 0] 46) = W at A0 ⊢
  generalize w.heap.size = gs at A0 ⊢
  have A1 := hideIt A0
  clear A0
  have hk3 : (s.kd == 3) = true := by rw [HK.out]; rfl
  have q0 := A1.out.cell (i := 3) rfl 0 (.int .i64 s.kd) rfl
  have n0 := A1.out.cell (i := 2) rfl 0 (.int .i64 n.lv) rfl
  have n1 := A1.out.cell (i := 2) rfl 1 (.int .i64 n.lk) rfl
  have n2 := A1.out.cell (i := 2) rfl 2 (.int .i64 n.hi) rfl
  have n3 := A1.out.cell (i := 2) rfl 3 (.slice na n.ks.length nc) rfl
  have n4 := A1.out.cell (i := 2) rfl 4 (.slice nva n.vs.length nvc) rfl
  have hSV : StV _ s _ _ _ _ _ _ := ⟨owns_rd (A1.out.get (i := 4) rfl), owns_rd (A1.out.get (i := 5) rfl), owns_rd (A1.out.get (i := 6) rfl), owns_rd (A1.out.get (i := 7) rfl), owns_rd (A1.out.get (i := 8) rfl), owns_rd (A1.out.get (i := 9) rfl)⟩
  have CS := lookUp_any s n _ _ _ _ _ _ _ _ W hSV (owns_rd (A1.out.holds _ (show As.row 3 1 (.slice na n.ks.length nc) n.ks.length (ints n.ks) ∈ _ by simp [HKA.out]))) (owns_rd (A1.out.holds _ (show As.row 3 1 (.slice nva n.vs.length nvc) n.vs.length (ints n.vs) ∈ _ by simp [HVA.out]))) HN.out h6
  rw [HF.out] at CS
  obtain ⟨va0, hva0⟩ : ∃ x, fndV n.ks n.vs s.key n.ks.length = x := ⟨_, rfl⟩
  rw [hva0] at CS
  have HVA0 := hideIt hva0
  have HCS := hideIt CS
  clear CS hva0 hSV
  go_wp2_with (refine wpList_load_row rfl 92 _ rfl _ rfl 92 _ (0, 0) _ (A1.out.block (i := 3) rfl) Tryz.underlying92 rfl infoState ?_)
  refine HCS.out.mono ?_
  rintro e w2 ⟨rfl, hb⟩
  have A2 := hideIt ((A1.out.below hb).alloc #[.int .i64 0, .bool false, .int .i64 va0, .int .i64 s.step, .slice none 0 0, .slice none 0 0, .slice none 0 0] 46)
  clear A1 HCS hb q0 n0 n1 n2 n3 n4
  rw [show ansG false va0 s.step = #[.int .i64 0, .bool false, .int .i64 va0, .int .i64 s.step, .slice none 0 0, .slice none 0 0, .slice none 0 0] from rfl]
  go_upto_region 3 with fail
  generalize w2.alloc (.cells #[.int .i64 0, .bool false, .int .i64 va0, .int .i64 s.step, .slice none 0 0, .slice none 0 0, .slice none 0 0] 46) = W2 at A2 ⊢
  generalize w2.heap.size = gh at A2 ⊢
  have a0 := A2.out.cell (i := 0) rfl 0 (.int .i64 0) rfl
  have a1 := A2.out.cell (i := 0) rfl 1 (.bool false) rfl
  have a2 := A2.out.cell (i := 0) rfl 2 (.int .i64 va0) rfl
  have a3 := A2.out.cell (i := 0) rfl 3 (.int .i64 s.step) rfl
  have a4 := A2.out.cell (i := 0) rfl 4 (.slice none 0 0) rfl
  have a5 := A2.out.cell (i := 0) rfl 5 (.slice none 0 0) rfl
  have a6 := A2.out.cell (i := 0) rfl 6 (.slice none 0 0) rfl
  have r0 := A2.out.cell (i := 1) rfl 0 (.int .i64 0) rfl
  have f0 := A2.out.free (i := 1) rfl 0
  have r1 := A2.out.cell (i := 1) rfl 1 (.bool false) rfl
  have f1 := A2.out.free (i := 1) rfl 1
  have r2 := A2.out.cell (i := 1) rfl 2 (.int .i64 0) rfl
  have f2 := A2.out.free (i := 1) rfl 2
  have r3 := A2.out.cell (i := 1) rfl 3 (.int .i64 0) rfl
  have f3 := A2.out.free (i := 1) rfl 3
  have r4 := A2.out.cell (i := 1) rfl 4 (.slice none 0 0) rfl
  have f4 := A2.out.free (i := 1) rfl 4
  have r5 := A2.out.cell (i := 1) rfl 5 (.slice none 0 0) rfl
  have f5 := A2.out.free (i := 1) rfl 5
  have r6 := A2.out.cell (i := 1) rfl 6 (.slice none 0 0) rfl
  have f6 := A2.out.free (i := 1) rfl 6
  have S7 := hideIt (A2.out.store7 (i := 1) rfl (.int .i64 0) (.bool false) (.int .i64 va0) (.int .i64 s.step) (.slice none 0 0) (.slice none 0 0) (.slice none 0 0))
  clear A2
  go_wp2_with fail
  go_region
  all_goals
    go_wp2
    refine bodyPost_ret (v := .tuple #[.string ⟨#[]⟩, .agg #[.int .i64 0, .bool false, .int .i64 va0, .int .i64 s.step, .slice none 0 0, .slice none 0 0, .slice none 0 0], .bool true, .int .i64 0]) (by simp [results, Tryz.results91, go_sem, *]) rfl ?_
    rw [HVA0.out]
    exact ⟨_, _, _, rfl, M.consNil (M.consNil (M.consNil ((S7.out.drewN 1).sub (.cons _ (.cons _ (.cons _ (.cons _ (.cons _ (.cons _ (.cons _ (.cons _ (.cons _ (.cons _ (.cons _ (List.Sublist.refl _)))))))))))))))⟩
set_option maxRecDepth 100000 in
set_option maxHeartbeats 3200000 in
theorem changeNode_put_on (s : St) (n : Nd) (t : ByteArray) (ver : Int) (kv vv bv pv xv yv ka va : Value) (fr : List As) (w0 w : World) (B : Nat) (htab : Tab w0) (hB : B = w0.heap.size) (hka : .row 3 1 ka n.ks.length (ints n.ks) ∈ fr) (hva : .row 3 1 va n.vs.length (ints n.vs) ∈ fr) (hn : n.ks.length = n.vs.length) (_h6 : n.ks.length ≤ 6) (hk : s.kd = 2) (hok : StOk (seeS s t ver)) (hp : PlOk n (seeS s t ver)) (hver : 0 ≤ ver) (hgo : ¬ (0 < pgsN n (seeS s t ver) ∧ s.lv = 9)) (hi : StI { seeS s t ver with step := s.step + 1 }) (hs : s.step ≤ 1000000000) (hs0 : 0 ≤ s.step)
    (h : M w0 B w (.row 3 1 kv s.keys.length (ints s.keys) :: .row 3 1 vv s.vals.length (ints s.vals) :: .row 3 1 bv s.bel.length (ints s.bel) :: .row 3 1 pv s.pts.length (ints s.pts) :: .row 3 1 xv s.sp.length (ints s.sp) :: .row 3 1 yv s.sv.length (ints s.sv) :: fr)) :
    Calls Tryz.prog 91 #[.agg #[.int .i64 s.kd, .int .i64 s.key, .int .i64 s.val, .int .i64 s.step, .int .i64 s.pg, kv, vv, bv, pv, .string s.sw, .int .i64 s.ver, xv, yv, .int .i64 s.laid, .int .i64 s.lv, .int .i64 s.low, .int .i64 s.ch, .int .i64 s.pt], .agg #[.int .i64 n.lv, .int .i64 n.lk, .int .i64 n.hi, ka, va], .agg #[.int .i64 ver, .int .i64 0, .string t, .bool false]] w fun e w' => ResM (.on { seeS s t ver with step := s.step + 1 }) w0 B w' fr e := by
  obtain ⟨ak, ck, rfl⟩ := As.form0 (h.get (i := 0) rfl)
  obtain ⟨av, cv, rfl⟩ := As.form0 (h.get (i := 1) rfl)
  obtain ⟨ab, cb, rfl⟩ := As.form0 (h.get (i := 2) rfl)
  obtain ⟨ap, cp, rfl⟩ := As.form0 (h.get (i := 3) rfl)
  obtain ⟨ax, cx, rfl⟩ := As.form0 (h.get (i := 4) rfl)
  obtain ⟨ay, cy, rfl⟩ := As.form0 (h.get (i := 5) rfl)
  obtain ⟨na, nc, rfl⟩ := As.form0 (h.holds _ (show As.row 3 1 ka n.ks.length (ints n.ks) ∈ _ by simp [hka]))
  obtain ⟨nva, nvc, rfl⟩ := As.form0 (h.holds _ (show As.row 3 1 va n.vs.length (ints n.vs) ∈ _ by simp [hva]))
  have A0 := (((h.alloc #[.int .i64 s.kd, .int .i64 s.key, .int .i64 s.val, .int .i64 s.step, .int .i64 s.pg, .slice ak s.keys.length ck, .slice av s.vals.length cv, .slice ab s.bel.length cb, .slice ap s.pts.length cp, .string s.sw, .int .i64 s.ver, .slice ax s.sp.length cx, .slice ay s.sv.length cy, .int .i64 s.laid, .int .i64 s.lv, .int .i64 s.low, .int .i64 s.ch, .int .i64 s.pt] 92).alloc #[.int .i64 n.lv, .int .i64 n.lk, .int .i64 n.hi, .slice na n.ks.length nc, .slice nva n.vs.length nvc] 67).alloc #[.int .i64 ver, .int .i64 0, .string t, .bool false] 99).alloc #[.int .i64 0, .bool false, .int .i64 0, .int .i64 0, .slice none 0 0, .slice none 0 0, .slice none 0 0] 46
  rw [alloc_size, alloc_size, alloc_size] at A0
  have HT : Hid (∀ W l, M w0 B W l → Tab W) := fun W l hm => htab.below (hB ▸ hm.bl)
  have HBB := hideIt (And.intro hB htab)
  have HKA := hideIt hka
  have HVA := hideIt hva
  have HN := hideIt hn
  have HGO := hideIt hgo
  have HK := hideIt hk
  have HOK := hideIt hok
  have HP := hideIt hp
  have HI := hideIt hi
  clear h hka hva hn htab hB hk hok hp hgo hi
  go_enter Tryz.func91, Tryz.ntmps91
  go_upto_region 1 with fail
  generalize (((w.alloc (.cells #[.int .i64 s.kd, .int .i64 s.key, .int .i64 s.val, .int .i64 s.step, .int .i64 s.pg, .slice ak s.keys.length ck, .slice av s.vals.length cv, .slice ab s.bel.length cb, .slice ap s.pts.length cp, .string s.sw, .int .i64 s.ver, .slice ax s.sp.length cx, .slice ay s.sv.length cy, .int .i64 s.laid, .int .i64 s.lv, .int .i64 s.low, .int .i64 s.ch, .int .i64 s.pt] 92)).alloc (.cells #[.int .i64 n.lv, .int .i64 n.lk, .int .i64 n.hi, .slice na n.ks.length nc, .slice nva n.vs.length nvc] 67)).alloc (.cells #[.int .i64 ver, .int .i64 0, .string t, .bool false] 99)).alloc (.cells #[.int .i64 0, .bool false, .int .i64 0, .int .i64 0, .slice none 0 0, .slice none 0 0, .slice none 0 0] 46) = W at A0 ⊢
  generalize w.heap.size = gs at A0 ⊢
  have A1 := hideIt A0
  clear A0
  have hk3 : (s.kd == 3) = false := by rw [HK.out]; rfl
  have q0 := A1.out.cell (i := 3) rfl 0 (.int .i64 s.kd) rfl
  have q9 := A1.out.cell (i := 3) rfl 9 (.string s.sw) rfl
  have f9 := A1.out.free (i := 3) rfl 9
  have rr2 := A1.out.cell (i := 1) rfl 2 (.string t) rfl
  have rr0 := A1.out.cell (i := 1) rfl 0 (.int .i64 ver) rfl
  have A3 := hideIt (A1.out.store (i := 3) (j := 9) rfl (.string t) (c' := #[.int .i64 s.kd, .int .i64 s.key, .int .i64 s.val, .int .i64 s.step, .int .i64 s.pg, .slice ak s.keys.length ck, .slice av s.vals.length cv, .slice ab s.bel.length cb, .slice ap s.pts.length cp, .string t, .int .i64 s.ver, .slice ax s.sp.length cx, .slice ay s.sv.length cy, .int .i64 s.laid, .int .i64 s.lv, .int .i64 s.low, .int .i64 s.ch, .int .i64 s.pt]) rfl)
  have q10 := A3.out.cell (i := 3) rfl 10 (.int .i64 s.ver) rfl
  have f10 := A3.out.free (i := 3) rfl 10
  have s0 := A3.out.cell (i := 1) rfl 0 (.int .i64 ver) rfl
  have A4 := hideIt (A3.out.store (i := 3) (j := 10) rfl (.int .i64 ver) (c' := #[.int .i64 s.kd, .int .i64 s.key, .int .i64 s.val, .int .i64 s.step, .int .i64 s.pg, .slice ak s.keys.length ck, .slice av s.vals.length cv, .slice ab s.bel.length cb, .slice ap s.pts.length cp, .string t, .int .i64 ver, .slice ax s.sp.length cx, .slice ay s.sv.length cy, .int .i64 s.laid, .int .i64 s.lv, .int .i64 s.low, .int .i64 s.ch, .int .i64 s.pt]) rfl)
  have CP := hideIt (planned_x n (seeS s t ver) (.slice ak s.keys.length ck) (.slice av s.vals.length cv) (.slice ab s.bel.length cb) (.slice ap s.pts.length cp) (.slice ax s.sp.length cx) (.slice ay s.sv.length cy) _ w0 _ B HBB.out.2 HBB.out.1 HOK.out HP.out A4.out ⟨by simp [seeS], by simp [seeS], by simp [seeS], by simp [seeS], by simp [seeS], by simp [seeS]⟩)
  go_upto_region 7 with fail
  go_wp2_with (refine wpList_load_row rfl 92 _ rfl _ rfl 92 _ (0, 0) _ (A4.out.block (i := 3) rfl) Tryz.underlying92 rfl infoState ?_)
  refine CP.out.mono ?_
  rintro e w3 ⟨kv3, vv3, T, rfl, -, hM3⟩
  obtain ⟨ka3, kc3, rfl⟩ := As.form0 (hM3.get (i := 0) rfl)
  obtain ⟨va3, vc3, rfl⟩ := As.form0 (hM3.get (i := 1) rfl)
  obtain ⟨pgs, hpgs⟩ : ∃ x, pgsN n (seeS s t ver) = x := ⟨_, rfl⟩
  obtain ⟨low, hlow⟩ : ∃ x, lowV n (seeS s t ver) = x := ⟨_, rfl⟩
  have A5 := hM3.alloc #[.int .i64 n.lv, .int .i64 n.lk, .int .i64 n.hi, .slice ka3 n.ks.length kc3, .slice va3 n.vs.length vc3, .int .i64 (pgsN n (seeS s t ver)), .int .i64 (lowV n (seeS s t ver)), .string T] 120
  rw [hpgs] at HGO
  rw [hpgs, hlow] at A5 ⊢
  have A6 := hideIt A5
  have hvn : decide (ver < 0) = false := by rw [decide_eq_false_iff_not]; omega
  clear CP A3 A4 A5 hM3 q9 f9 q10 f10 rr0 rr2 s0 hpgs hlow A1
  go_upto_region 8 with fail
  generalize w3.alloc (.cells #[.int .i64 n.lv, .int .i64 n.lk, .int .i64 n.hi, .slice ka3 n.ks.length kc3, .slice va3 n.vs.length vc3, .int .i64 pgs, .int .i64 low, .string T] 120) = W3 at A6 ⊢
  generalize w3.heap.size = gc at A6 ⊢
  have rr0 := A6.out.cell (i := 4) rfl 0 (.int .i64 ver) rfl
  have c5 := A6.out.cell (i := 0) rfl 5 (.int .i64 pgs) rfl
  have q14 := A6.out.cell (i := 6) rfl 14 (.int .i64 s.lv) rfl
  have q17 := A6.out.cell (i := 6) rfl 17 (.int .i64 s.pt) rfl
  by_cases hp0 : 0 < pgs
  · have hl9 : (s.lv == 9) = false := by simp; intro e; exact HGO.out ⟨hp0, e⟩
    clear HGO
    have SV : StV _ (seeS s t ver) (.slice ak s.keys.length ck) (.slice av s.vals.length cv) (.slice ab s.bel.length cb) (.slice ap s.pts.length cp) (.slice ax s.sp.length cx) (.slice ay s.sv.length cy) :=
      ⟨owns_rd (A6.out.get (i := 7) rfl), owns_rd (A6.out.get (i := 8) rfl), owns_rd (A6.out.get (i := 9) rfl), owns_rd (A6.out.get (i := 10) rfl), owns_rd (A6.out.get (i := 11) rfl), owns_rd (A6.out.get (i := 12) rfl)⟩
    have CG := hideIt (goOn_any (seeS s t ver) _ _ _ _ _ _ _ (HT.out _ _ A6.out) SV HI.out hs hs0)
    clear SV
    go_wp2_with (refine wpList_load_row rfl 92 _ rfl _ rfl 92 _ (0, 0) _ (A6.out.block (i := 6) rfl) Tryz.underlying92 rfl infoState ?_)
    refine CG.out.mono ?_
    rintro e w9 ⟨⟨c9, rfl, hc5⟩, hb⟩
    have HC5 := hideIt hc5
    have A7 := hideIt (A6.out.below hb)
    clear hc5 hb CG A6 rr0 c5 q14 q17
    have r0 := A7.out.cell (i := 3) rfl 0 (.int .i64 0) rfl
    have f0 := A7.out.free (i := 3) rfl 0
    have r1 := A7.out.cell (i := 3) rfl 1 (.bool false) rfl
    have f1 := A7.out.free (i := 3) rfl 1
    have r2 := A7.out.cell (i := 3) rfl 2 (.int .i64 0) rfl
    have f2 := A7.out.free (i := 3) rfl 2
    have r3 := A7.out.cell (i := 3) rfl 3 (.int .i64 0) rfl
    have f3 := A7.out.free (i := 3) rfl 3
    have r4 := A7.out.cell (i := 3) rfl 4 (.slice none 0 0) rfl
    have f4 := A7.out.free (i := 3) rfl 4
    have r5 := A7.out.cell (i := 3) rfl 5 (.slice none 0 0) rfl
    have f5 := A7.out.free (i := 3) rfl 5
    have r6 := A7.out.cell (i := 3) rfl 6 (.slice none 0 0) rfl
    have f6 := A7.out.free (i := 3) rfl 6
    have S7 := hideIt (A7.out.store7 (i := 3) rfl (.int .i64 0) (.bool false) (.int .i64 0) (.int .i64 0) (.slice none 0 0) (.slice none 0 0) (.slice none 0 0))
    clear A7
    rw [show ans0 = #[.int .i64 0, .bool false, .int .i64 0, .int .i64 0, .slice none 0 0, .slice none 0 0, .slice none 0 0] from rfl]
    go_wp2
    refine bodyPost_ret (v := .tuple #[.string c9, .agg #[.int .i64 0, .bool false, .int .i64 0, .int .i64 0, .slice none 0 0, .slice none 0 0, .slice none 0 0], .bool false, .int .i64 0]) (by simp [results, Tryz.results91, go_sem, *]) rfl ?_
    exact ⟨⟨c9, rfl, HC5.out⟩, S7.out.sub (.cons _ (.cons _ (.cons _ (.cons _ (.cons _ (.cons _ (.cons _ (.cons _ (.cons _ (.cons _ (.cons _ (.cons _ (.cons _ (List.Sublist.refl _))))))))))))))⟩
  · have hp1 : decide (0 < pgs) = false := decide_eq_false hp0
    clear HGO hp0
    have SV : StV _ (seeS s t ver) (.slice ak s.keys.length ck) (.slice av s.vals.length cv) (.slice ab s.bel.length cb) (.slice ap s.pts.length cp) (.slice ax s.sp.length cx) (.slice ay s.sv.length cy) :=
      ⟨owns_rd (A6.out.get (i := 7) rfl), owns_rd (A6.out.get (i := 8) rfl), owns_rd (A6.out.get (i := 9) rfl), owns_rd (A6.out.get (i := 10) rfl), owns_rd (A6.out.get (i := 11) rfl), owns_rd (A6.out.get (i := 12) rfl)⟩
    have CG := hideIt (goOn_any (seeS s t ver) _ _ _ _ _ _ _ (HT.out _ _ A6.out) SV HI.out hs hs0)
    clear SV
    go_wp2_with (refine wpList_load_row rfl 92 _ rfl _ rfl 92 _ (0, 0) _ (A6.out.block (i := 6) rfl) Tryz.underlying92 rfl infoState ?_)
    refine CG.out.mono ?_
    rintro e w9 ⟨⟨c9, rfl, hc5⟩, hb⟩
    have HC5 := hideIt hc5
    have A7 := hideIt (A6.out.below hb)
    clear hc5 hb CG A6 rr0 c5 q14 q17
    have r0 := A7.out.cell (i := 3) rfl 0 (.int .i64 0) rfl
    have f0 := A7.out.free (i := 3) rfl 0
    have r1 := A7.out.cell (i := 3) rfl 1 (.bool false) rfl
    have f1 := A7.out.free (i := 3) rfl 1
    have r2 := A7.out.cell (i := 3) rfl 2 (.int .i64 0) rfl
    have f2 := A7.out.free (i := 3) rfl 2
    have r3 := A7.out.cell (i := 3) rfl 3 (.int .i64 0) rfl
    have f3 := A7.out.free (i := 3) rfl 3
    have r4 := A7.out.cell (i := 3) rfl 4 (.slice none 0 0) rfl
    have f4 := A7.out.free (i := 3) rfl 4
    have r5 := A7.out.cell (i := 3) rfl 5 (.slice none 0 0) rfl
    have f5 := A7.out.free (i := 3) rfl 5
    have r6 := A7.out.cell (i := 3) rfl 6 (.slice none 0 0) rfl
    have f6 := A7.out.free (i := 3) rfl 6
    have S7 := hideIt (A7.out.store7 (i := 3) rfl (.int .i64 0) (.bool false) (.int .i64 0) (.int .i64 0) (.slice none 0 0) (.slice none 0 0) (.slice none 0 0))
    clear A7
    rw [show ans0 = #[.int .i64 0, .bool false, .int .i64 0, .int .i64 0, .slice none 0 0, .slice none 0 0, .slice none 0 0] from rfl]
    go_wp2
    refine bodyPost_ret (v := .tuple #[.string c9, .agg #[.int .i64 0, .bool false, .int .i64 0, .int .i64 0, .slice none 0 0, .slice none 0 0, .slice none 0 0], .bool false, .int .i64 0]) (by simp [results, Tryz.results91, go_sem, *]) rfl ?_
    exact ⟨⟨c9, rfl, HC5.out⟩, S7.out.sub (.cons _ (.cons _ (.cons _ (.cons _ (.cons _ (.cons _ (.cons _ (.cons _ (.cons _ (.cons _ (.cons _ (.cons _ (.cons _ (List.Sublist.refl _))))))))))))))⟩
set_option maxRecDepth 100000 in
set_option maxHeartbeats 3200000 in
theorem changeNode_put_last (s : St) (n : Nd) (t : ByteArray) (ver : Int) (kv vv bv pv xv yv ka va : Value) (fr : List As) (w0 w : World) (B : Nat) (htab : Tab w0) (hB : B = w0.heap.size) (hka : .row 3 1 ka n.ks.length (ints n.ks) ∈ fr) (hva : .row 3 1 va n.vs.length (ints n.vs) ∈ fr) (hn : n.ks.length = n.vs.length) (_h6 : n.ks.length ≤ 6) (hk : s.kd = 2) (hok : StOk (seeS s t ver)) (hp : PlOk n (seeS s t ver)) (hver : 0 ≤ ver) (hgo : 0 < pgsN n (seeS s t ver) ∧ s.lv = 9)
    (h : M w0 B w (.row 3 1 kv s.keys.length (ints s.keys) :: .row 3 1 vv s.vals.length (ints s.vals) :: .row 3 1 bv s.bel.length (ints s.bel) :: .row 3 1 pv s.pts.length (ints s.pts) :: .row 3 1 xv s.sp.length (ints s.sp) :: .row 3 1 yv s.sv.length (ints s.sv) :: fr)) :
    Calls Tryz.prog 91 #[.agg #[.int .i64 s.kd, .int .i64 s.key, .int .i64 s.val, .int .i64 s.step, .int .i64 s.pg, kv, vv, bv, pv, .string s.sw, .int .i64 s.ver, xv, yv, .int .i64 s.laid, .int .i64 s.lv, .int .i64 s.low, .int .i64 s.ch, .int .i64 s.pt], .agg #[.int .i64 n.lv, .int .i64 n.lk, .int .i64 n.hi, ka, va], .agg #[.int .i64 ver, .int .i64 0, .string t, .bool false]] w fun e w' => ResM (.fin 0 false 0 s.pt [] [] []) w0 B w' fr e := by
  obtain ⟨ak, ck, rfl⟩ := As.form0 (h.get (i := 0) rfl)
  obtain ⟨av, cv, rfl⟩ := As.form0 (h.get (i := 1) rfl)
  obtain ⟨ab, cb, rfl⟩ := As.form0 (h.get (i := 2) rfl)
  obtain ⟨ap, cp, rfl⟩ := As.form0 (h.get (i := 3) rfl)
  obtain ⟨ax, cx, rfl⟩ := As.form0 (h.get (i := 4) rfl)
  obtain ⟨ay, cy, rfl⟩ := As.form0 (h.get (i := 5) rfl)
  obtain ⟨na, nc, rfl⟩ := As.form0 (h.holds _ (show As.row 3 1 ka n.ks.length (ints n.ks) ∈ _ by simp [hka]))
  obtain ⟨nva, nvc, rfl⟩ := As.form0 (h.holds _ (show As.row 3 1 va n.vs.length (ints n.vs) ∈ _ by simp [hva]))
  have A0 := (((h.alloc #[.int .i64 s.kd, .int .i64 s.key, .int .i64 s.val, .int .i64 s.step, .int .i64 s.pg, .slice ak s.keys.length ck, .slice av s.vals.length cv, .slice ab s.bel.length cb, .slice ap s.pts.length cp, .string s.sw, .int .i64 s.ver, .slice ax s.sp.length cx, .slice ay s.sv.length cy, .int .i64 s.laid, .int .i64 s.lv, .int .i64 s.low, .int .i64 s.ch, .int .i64 s.pt] 92).alloc #[.int .i64 n.lv, .int .i64 n.lk, .int .i64 n.hi, .slice na n.ks.length nc, .slice nva n.vs.length nvc] 67).alloc #[.int .i64 ver, .int .i64 0, .string t, .bool false] 99).alloc #[.int .i64 0, .bool false, .int .i64 0, .int .i64 0, .slice none 0 0, .slice none 0 0, .slice none 0 0] 46
  rw [alloc_size, alloc_size, alloc_size] at A0
  have HT : Hid (∀ W l, M w0 B W l → Tab W) := fun W l hm => htab.below (hB ▸ hm.bl)
  have HBB := hideIt (And.intro hB htab)
  have HKA := hideIt hka
  have HVA := hideIt hva
  have HN := hideIt hn
  have HGO := hideIt hgo
  have HK := hideIt hk
  have HOK := hideIt hok
  have HP := hideIt hp
  clear h hka hva hn htab hB hk hok hp hgo
  go_enter Tryz.func91, Tryz.ntmps91
  go_upto_region 1 with fail
  generalize (((w.alloc (.cells #[.int .i64 s.kd, .int .i64 s.key, .int .i64 s.val, .int .i64 s.step, .int .i64 s.pg, .slice ak s.keys.length ck, .slice av s.vals.length cv, .slice ab s.bel.length cb, .slice ap s.pts.length cp, .string s.sw, .int .i64 s.ver, .slice ax s.sp.length cx, .slice ay s.sv.length cy, .int .i64 s.laid, .int .i64 s.lv, .int .i64 s.low, .int .i64 s.ch, .int .i64 s.pt] 92)).alloc (.cells #[.int .i64 n.lv, .int .i64 n.lk, .int .i64 n.hi, .slice na n.ks.length nc, .slice nva n.vs.length nvc] 67)).alloc (.cells #[.int .i64 ver, .int .i64 0, .string t, .bool false] 99)).alloc (.cells #[.int .i64 0, .bool false, .int .i64 0, .int .i64 0, .slice none 0 0, .slice none 0 0, .slice none 0 0] 46) = W at A0 ⊢
  generalize w.heap.size = gs at A0 ⊢
  have A1 := hideIt A0
  clear A0
  have hk3 : (s.kd == 3) = false := by rw [HK.out]; rfl
  have q0 := A1.out.cell (i := 3) rfl 0 (.int .i64 s.kd) rfl
  have q9 := A1.out.cell (i := 3) rfl 9 (.string s.sw) rfl
  have f9 := A1.out.free (i := 3) rfl 9
  have rr2 := A1.out.cell (i := 1) rfl 2 (.string t) rfl
  have rr0 := A1.out.cell (i := 1) rfl 0 (.int .i64 ver) rfl
  have A3 := hideIt (A1.out.store (i := 3) (j := 9) rfl (.string t) (c' := #[.int .i64 s.kd, .int .i64 s.key, .int .i64 s.val, .int .i64 s.step, .int .i64 s.pg, .slice ak s.keys.length ck, .slice av s.vals.length cv, .slice ab s.bel.length cb, .slice ap s.pts.length cp, .string t, .int .i64 s.ver, .slice ax s.sp.length cx, .slice ay s.sv.length cy, .int .i64 s.laid, .int .i64 s.lv, .int .i64 s.low, .int .i64 s.ch, .int .i64 s.pt]) rfl)
  have q10 := A3.out.cell (i := 3) rfl 10 (.int .i64 s.ver) rfl
  have f10 := A3.out.free (i := 3) rfl 10
  have s0 := A3.out.cell (i := 1) rfl 0 (.int .i64 ver) rfl
  have A4 := hideIt (A3.out.store (i := 3) (j := 10) rfl (.int .i64 ver) (c' := #[.int .i64 s.kd, .int .i64 s.key, .int .i64 s.val, .int .i64 s.step, .int .i64 s.pg, .slice ak s.keys.length ck, .slice av s.vals.length cv, .slice ab s.bel.length cb, .slice ap s.pts.length cp, .string t, .int .i64 ver, .slice ax s.sp.length cx, .slice ay s.sv.length cy, .int .i64 s.laid, .int .i64 s.lv, .int .i64 s.low, .int .i64 s.ch, .int .i64 s.pt]) rfl)
  have CP := hideIt (planned_x n (seeS s t ver) (.slice ak s.keys.length ck) (.slice av s.vals.length cv) (.slice ab s.bel.length cb) (.slice ap s.pts.length cp) (.slice ax s.sp.length cx) (.slice ay s.sv.length cy) _ w0 _ B HBB.out.2 HBB.out.1 HOK.out HP.out A4.out ⟨by simp [seeS], by simp [seeS], by simp [seeS], by simp [seeS], by simp [seeS], by simp [seeS]⟩)
  go_upto_region 7 with fail
  go_wp2_with (refine wpList_load_row rfl 92 _ rfl _ rfl 92 _ (0, 0) _ (A4.out.block (i := 3) rfl) Tryz.underlying92 rfl infoState ?_)
  refine CP.out.mono ?_
  rintro e w3 ⟨kv3, vv3, T, rfl, -, hM3⟩
  obtain ⟨ka3, kc3, rfl⟩ := As.form0 (hM3.get (i := 0) rfl)
  obtain ⟨va3, vc3, rfl⟩ := As.form0 (hM3.get (i := 1) rfl)
  obtain ⟨pgs, hpgs⟩ : ∃ x, pgsN n (seeS s t ver) = x := ⟨_, rfl⟩
  obtain ⟨low, hlow⟩ : ∃ x, lowV n (seeS s t ver) = x := ⟨_, rfl⟩
  have A5 := hM3.alloc #[.int .i64 n.lv, .int .i64 n.lk, .int .i64 n.hi, .slice ka3 n.ks.length kc3, .slice va3 n.vs.length vc3, .int .i64 (pgsN n (seeS s t ver)), .int .i64 (lowV n (seeS s t ver)), .string T] 120
  rw [hpgs] at HGO
  rw [hpgs, hlow] at A5 ⊢
  have A6 := hideIt A5
  have hvn : decide (ver < 0) = false := by rw [decide_eq_false_iff_not]; omega
  clear CP A3 A4 A5 hM3 q9 f9 q10 f10 rr0 rr2 s0 hpgs hlow A1
  go_upto_region 8 with fail
  generalize w3.alloc (.cells #[.int .i64 n.lv, .int .i64 n.lk, .int .i64 n.hi, .slice ka3 n.ks.length kc3, .slice va3 n.vs.length vc3, .int .i64 pgs, .int .i64 low, .string T] 120) = W3 at A6 ⊢
  generalize w3.heap.size = gc at A6 ⊢
  have rr0 := A6.out.cell (i := 4) rfl 0 (.int .i64 ver) rfl
  have c5 := A6.out.cell (i := 0) rfl 5 (.int .i64 pgs) rfl
  have q14 := A6.out.cell (i := 6) rfl 14 (.int .i64 s.lv) rfl
  have q17 := A6.out.cell (i := 6) rfl 17 (.int .i64 s.pt) rfl
  have r0 := A6.out.cell (i := 3) rfl 0 (.int .i64 0) rfl
  have f0 := A6.out.free (i := 3) rfl 0
  have r1 := A6.out.cell (i := 3) rfl 1 (.bool false) rfl
  have f1 := A6.out.free (i := 3) rfl 1
  have r2 := A6.out.cell (i := 3) rfl 2 (.int .i64 0) rfl
  have f2 := A6.out.free (i := 3) rfl 2
  have r3 := A6.out.cell (i := 3) rfl 3 (.int .i64 0) rfl
  have f3 := A6.out.free (i := 3) rfl 3
  have r4 := A6.out.cell (i := 3) rfl 4 (.slice none 0 0) rfl
  have f4 := A6.out.free (i := 3) rfl 4
  have r5 := A6.out.cell (i := 3) rfl 5 (.slice none 0 0) rfl
  have f5 := A6.out.free (i := 3) rfl 5
  have r6 := A6.out.cell (i := 3) rfl 6 (.slice none 0 0) rfl
  have f6 := A6.out.free (i := 3) rfl 6
  have S7 := hideIt (A6.out.store7 (i := 3) rfl (.int .i64 0) (.bool false) (.int .i64 0) (.int .i64 s.pt) (.slice none 0 0) (.slice none 0 0) (.slice none 0 0))
  have hp0 : 0 < pgs := HGO.out.1
  have hl9 : (s.lv == 9) = true := by rw [HGO.out.2]; rfl
  clear A6 HGO
  go_wp2_with fail
  go_region
  all_goals
    go_wp2
    refine bodyPost_ret (v := .tuple #[.string ⟨#[]⟩, .agg #[.int .i64 0, .bool false, .int .i64 0, .int .i64 s.pt, .slice none 0 0, .slice none 0 0, .slice none 0 0], .bool true, .int .i64 0]) (by simp [results, Tryz.results91, go_sem, *]) rfl ?_
    exact ⟨_, _, _, rfl, M.consNil (M.consNil (M.consNil ((S7.out.drewN 1).sub (.cons _ (.cons _ (.cons _ (.cons _ (.cons _ (.cons _ (.cons _ (.cons _ (.cons _ (.cons _ (.cons _ (.cons _ (.cons _ (List.Sublist.refl _)))))))))))))))))⟩
set_option maxRecDepth 100000 in
set_option maxHeartbeats 3200000 in
theorem changeNode_drop_on (s : St) (n : Nd) (t : ByteArray) (ver : Int) (kv vv bv pv xv yv ka va : Value) (fr : List As) (w0 w : World) (B : Nat) (htab : Tab w0) (hB : B = w0.heap.size) (hka : .row 3 1 ka n.ks.length (ints n.ks) ∈ fr) (hva : .row 3 1 va n.vs.length (ints n.vs) ∈ fr) (hn : n.ks.length = n.vs.length) (h6 : n.ks.length ≤ 6) (hk : s.kd = 3) (hf : fndB n.ks s.key n.ks.length = true) (hok : StOk (seeS s t ver)) (hp : PlOk n (seeS s t ver)) (hver : 0 ≤ ver) (hgo : ¬ (0 < pgsN n (seeS s t ver) ∧ s.lv = 9)) (hi : StI { seeS s t ver with step := s.step + 1 }) (hs : s.step ≤ 1000000000) (hs0 : 0 ≤ s.step)
    (h : M w0 B w (.row 3 1 kv s.keys.length (ints s.keys) :: .row 3 1 vv s.vals.length (ints s.vals) :: .row 3 1 bv s.bel.length (ints s.bel) :: .row 3 1 pv s.pts.length (ints s.pts) :: .row 3 1 xv s.sp.length (ints s.sp) :: .row 3 1 yv s.sv.length (ints s.sv) :: fr)) :
    Calls Tryz.prog 91 #[.agg #[.int .i64 s.kd, .int .i64 s.key, .int .i64 s.val, .int .i64 s.step, .int .i64 s.pg, kv, vv, bv, pv, .string s.sw, .int .i64 s.ver, xv, yv, .int .i64 s.laid, .int .i64 s.lv, .int .i64 s.low, .int .i64 s.ch, .int .i64 s.pt], .agg #[.int .i64 n.lv, .int .i64 n.lk, .int .i64 n.hi, ka, va], .agg #[.int .i64 ver, .int .i64 0, .string t, .bool false]] w fun e w' => ResM (.on { seeS s t ver with step := s.step + 1 }) w0 B w' fr e := by
  obtain ⟨ak, ck, rfl⟩ := As.form0 (h.get (i := 0) rfl)
  obtain ⟨av, cv, rfl⟩ := As.form0 (h.get (i := 1) rfl)
  obtain ⟨ab, cb, rfl⟩ := As.form0 (h.get (i := 2) rfl)
  obtain ⟨ap, cp, rfl⟩ := As.form0 (h.get (i := 3) rfl)
  obtain ⟨ax, cx, rfl⟩ := As.form0 (h.get (i := 4) rfl)
  obtain ⟨ay, cy, rfl⟩ := As.form0 (h.get (i := 5) rfl)
  obtain ⟨na, nc, rfl⟩ := As.form0 (h.holds _ (show As.row 3 1 ka n.ks.length (ints n.ks) ∈ _ by simp [hka]))
  obtain ⟨nva, nvc, rfl⟩ := As.form0 (h.holds _ (show As.row 3 1 va n.vs.length (ints n.vs) ∈ _ by simp [hva]))
  have A0 := (((h.alloc #[.int .i64 s.kd, .int .i64 s.key, .int .i64 s.val, .int .i64 s.step, .int .i64 s.pg, .slice ak s.keys.length ck, .slice av s.vals.length cv, .slice ab s.bel.length cb, .slice ap s.pts.length cp, .string s.sw, .int .i64 s.ver, .slice ax s.sp.length cx, .slice ay s.sv.length cy, .int .i64 s.laid, .int .i64 s.lv, .int .i64 s.low, .int .i64 s.ch, .int .i64 s.pt] 92).alloc #[.int .i64 n.lv, .int .i64 n.lk, .int .i64 n.hi, .slice na n.ks.length nc, .slice nva n.vs.length nvc] 67).alloc #[.int .i64 ver, .int .i64 0, .string t, .bool false] 99).alloc #[.int .i64 0, .bool false, .int .i64 0, .int .i64 0, .slice none 0 0, .slice none 0 0, .slice none 0 0] 46
  rw [alloc_size, alloc_size, alloc_size] at A0
  have HT : Hid (∀ W l, M w0 B W l → Tab W) := fun W l hm => htab.below (hB ▸ hm.bl)
  have HBB := hideIt (And.intro hB htab)
  have HKA := hideIt hka
  have HVA := hideIt hva
  have HN := hideIt hn
  have HGO := hideIt hgo
  have HK := hideIt hk
  have HOK := hideIt hok
  have HP := hideIt hp
  have HI := hideIt hi
  have HF := hideIt hf
  clear h hka hva hn htab hB hk hok hp hgo hi hf
  go_enter Tryz.func91, Tryz.ntmps91
  go_upto_region 1 with fail
  generalize (((w.alloc (.cells #[.int .i64 s.kd, .int .i64 s.key, .int .i64 s.val, .int .i64 s.step, .int .i64 s.pg, .slice ak s.keys.length ck, .slice av s.vals.length cv, .slice ab s.bel.length cb, .slice ap s.pts.length cp, .string s.sw, .int .i64 s.ver, .slice ax s.sp.length cx, .slice ay s.sv.length cy, .int .i64 s.laid, .int .i64 s.lv, .int .i64 s.low, .int .i64 s.ch, .int .i64 s.pt] 92)).alloc (.cells #[.int .i64 n.lv, .int .i64 n.lk, .int .i64 n.hi, .slice na n.ks.length nc, .slice nva n.vs.length nvc] 67)).alloc (.cells #[.int .i64 ver, .int .i64 0, .string t, .bool false] 99)).alloc (.cells #[.int .i64 0, .bool false, .int .i64 0, .int .i64 0, .slice none 0 0, .slice none 0 0, .slice none 0 0] 46) = W at A0 ⊢
  generalize w.heap.size = gs at A0 ⊢
  have A1 := hideIt A0
  clear A0
  have hk3 : (s.kd == 3) = true := by rw [HK.out]; rfl
  have q0 := A1.out.cell (i := 3) rfl 0 (.int .i64 s.kd) rfl
  have n0 := A1.out.cell (i := 2) rfl 0 (.int .i64 n.lv) rfl
  have n1 := A1.out.cell (i := 2) rfl 1 (.int .i64 n.lk) rfl
  have n2 := A1.out.cell (i := 2) rfl 2 (.int .i64 n.hi) rfl
  have n3 := A1.out.cell (i := 2) rfl 3 (.slice na n.ks.length nc) rfl
  have n4 := A1.out.cell (i := 2) rfl 4 (.slice nva n.vs.length nvc) rfl
  have hSV : StV _ s _ _ _ _ _ _ := ⟨owns_rd (A1.out.get (i := 4) rfl), owns_rd (A1.out.get (i := 5) rfl), owns_rd (A1.out.get (i := 6) rfl), owns_rd (A1.out.get (i := 7) rfl), owns_rd (A1.out.get (i := 8) rfl), owns_rd (A1.out.get (i := 9) rfl)⟩
  have CS := lookUp_any s n _ _ _ _ _ _ _ _ W hSV (owns_rd (A1.out.holds _ (show As.row 3 1 (.slice na n.ks.length nc) n.ks.length (ints n.ks) ∈ _ by simp [HKA.out]))) (owns_rd (A1.out.holds _ (show As.row 3 1 (.slice nva n.vs.length nvc) n.vs.length (ints n.vs) ∈ _ by simp [HVA.out]))) HN.out h6
  rw [HF.out] at CS
  obtain ⟨va0, hva0⟩ : ∃ x, fndV n.ks n.vs s.key n.ks.length = x := ⟨_, rfl⟩
  rw [hva0] at CS
  have HVA0 := hideIt hva0
  have HCS := hideIt CS
  clear CS hva0 hSV
  go_wp2_with (refine wpList_load_row rfl 92 _ rfl _ rfl 92 _ (0, 0) _ (A1.out.block (i := 3) rfl) Tryz.underlying92 rfl infoState ?_)
  refine HCS.out.mono ?_
  rintro e w2 ⟨rfl, hb⟩
  have A2 := hideIt ((A1.out.below hb).alloc #[.int .i64 0, .bool true, .int .i64 va0, .int .i64 s.step, .slice none 0 0, .slice none 0 0, .slice none 0 0] 46)
  clear A1 HCS hb q0 n0 n1 n2 n3 n4
  rw [show ansG true va0 s.step = #[.int .i64 0, .bool true, .int .i64 va0, .int .i64 s.step, .slice none 0 0, .slice none 0 0, .slice none 0 0] from rfl]
  go_upto_region 3 with fail
  generalize w2.alloc (.cells #[.int .i64 0, .bool true, .int .i64 va0, .int .i64 s.step, .slice none 0 0, .slice none 0 0, .slice none 0 0] 46) = W2 at A2 ⊢
  generalize w2.heap.size = gh at A2 ⊢
  have a1 := A2.out.cell (i := 0) rfl 1 (.bool true) rfl
  have q9 := A2.out.cell (i := 4) rfl 9 (.string s.sw) rfl
  have f9 := A2.out.free (i := 4) rfl 9
  have rr2 := A2.out.cell (i := 2) rfl 2 (.string t) rfl
  have rr0 := A2.out.cell (i := 2) rfl 0 (.int .i64 ver) rfl
  have A3 := hideIt (A2.out.store (i := 4) (j := 9) rfl (.string t) (c' := #[.int .i64 s.kd, .int .i64 s.key, .int .i64 s.val, .int .i64 s.step, .int .i64 s.pg, .slice ak s.keys.length ck, .slice av s.vals.length cv, .slice ab s.bel.length cb, .slice ap s.pts.length cp, .string t, .int .i64 s.ver, .slice ax s.sp.length cx, .slice ay s.sv.length cy, .int .i64 s.laid, .int .i64 s.lv, .int .i64 s.low, .int .i64 s.ch, .int .i64 s.pt]) rfl)
  have q10 := A3.out.cell (i := 4) rfl 10 (.int .i64 s.ver) rfl
  have f10 := A3.out.free (i := 4) rfl 10
  have s0 := A3.out.cell (i := 2) rfl 0 (.int .i64 ver) rfl
  have A4 := hideIt (A3.out.store (i := 4) (j := 10) rfl (.int .i64 ver) (c' := #[.int .i64 s.kd, .int .i64 s.key, .int .i64 s.val, .int .i64 s.step, .int .i64 s.pg, .slice ak s.keys.length ck, .slice av s.vals.length cv, .slice ab s.bel.length cb, .slice ap s.pts.length cp, .string t, .int .i64 ver, .slice ax s.sp.length cx, .slice ay s.sv.length cy, .int .i64 s.laid, .int .i64 s.lv, .int .i64 s.low, .int .i64 s.ch, .int .i64 s.pt]) rfl)
  have CP := hideIt (planned_x n (seeS s t ver) (.slice ak s.keys.length ck) (.slice av s.vals.length cv) (.slice ab s.bel.length cb) (.slice ap s.pts.length cp) (.slice ax s.sp.length cx) (.slice ay s.sv.length cy) _ w0 _ B HBB.out.2 HBB.out.1 HOK.out HP.out A4.out ⟨by simp [seeS], by simp [seeS], by simp [seeS], by simp [seeS], by simp [seeS], by simp [seeS]⟩)
  go_upto_region 7 with fail
  go_wp2_with (refine wpList_load_row rfl 92 _ rfl _ rfl 92 _ (0, 0) _ (A4.out.block (i := 4) rfl) Tryz.underlying92 rfl infoState ?_)
  refine CP.out.mono ?_
  rintro e w3 ⟨kv3, vv3, T, rfl, -, hM3⟩
  obtain ⟨ka3, kc3, rfl⟩ := As.form0 (hM3.get (i := 0) rfl)
  obtain ⟨va3, vc3, rfl⟩ := As.form0 (hM3.get (i := 1) rfl)
  obtain ⟨pgs, hpgs⟩ : ∃ x, pgsN n (seeS s t ver) = x := ⟨_, rfl⟩
  obtain ⟨low, hlow⟩ : ∃ x, lowV n (seeS s t ver) = x := ⟨_, rfl⟩
  have A5 := hM3.alloc #[.int .i64 n.lv, .int .i64 n.lk, .int .i64 n.hi, .slice ka3 n.ks.length kc3, .slice va3 n.vs.length vc3, .int .i64 (pgsN n (seeS s t ver)), .int .i64 (lowV n (seeS s t ver)), .string T] 120
  rw [hpgs] at HGO
  rw [hpgs, hlow] at A5 ⊢
  have A6 := hideIt A5
  have hvn : decide (ver < 0) = false := by rw [decide_eq_false_iff_not]; omega
  clear CP A3 A4 A5 hM3 q9 f9 q10 f10 rr0 rr2 s0 hpgs hlow A2
  go_upto_region 8 with fail
  generalize w3.alloc (.cells #[.int .i64 n.lv, .int .i64 n.lk, .int .i64 n.hi, .slice ka3 n.ks.length kc3, .slice va3 n.vs.length vc3, .int .i64 pgs, .int .i64 low, .string T] 120) = W3 at A6 ⊢
  generalize w3.heap.size = gc at A6 ⊢
  have rr0 := A6.out.cell (i := 5) rfl 0 (.int .i64 ver) rfl
  have c5 := A6.out.cell (i := 0) rfl 5 (.int .i64 pgs) rfl
  have q14 := A6.out.cell (i := 7) rfl 14 (.int .i64 s.lv) rfl
  have q17 := A6.out.cell (i := 7) rfl 17 (.int .i64 s.pt) rfl
  by_cases hp0 : 0 < pgs
  · have hl9 : (s.lv == 9) = false := by simp; intro e; exact HGO.out ⟨hp0, e⟩
    clear HGO
    have SV : StV _ (seeS s t ver) (.slice ak s.keys.length ck) (.slice av s.vals.length cv) (.slice ab s.bel.length cb) (.slice ap s.pts.length cp) (.slice ax s.sp.length cx) (.slice ay s.sv.length cy) :=
      ⟨owns_rd (A6.out.get (i := 8) rfl), owns_rd (A6.out.get (i := 9) rfl), owns_rd (A6.out.get (i := 10) rfl), owns_rd (A6.out.get (i := 11) rfl), owns_rd (A6.out.get (i := 12) rfl), owns_rd (A6.out.get (i := 13) rfl)⟩
    have CG := hideIt (goOn_any (seeS s t ver) _ _ _ _ _ _ _ (HT.out _ _ A6.out) SV HI.out hs hs0)
    clear SV
    go_wp2_with (refine wpList_load_row rfl 92 _ rfl _ rfl 92 _ (0, 0) _ (A6.out.block (i := 7) rfl) Tryz.underlying92 rfl infoState ?_)
    refine CG.out.mono ?_
    rintro e w9 ⟨⟨c9, rfl, hc5⟩, hb⟩
    have HC5 := hideIt hc5
    have A7 := hideIt (A6.out.below hb)
    clear hc5 hb CG A6 rr0 c5 q14 q17
    have r0 := A7.out.cell (i := 4) rfl 0 (.int .i64 0) rfl
    have f0 := A7.out.free (i := 4) rfl 0
    have r1 := A7.out.cell (i := 4) rfl 1 (.bool false) rfl
    have f1 := A7.out.free (i := 4) rfl 1
    have r2 := A7.out.cell (i := 4) rfl 2 (.int .i64 0) rfl
    have f2 := A7.out.free (i := 4) rfl 2
    have r3 := A7.out.cell (i := 4) rfl 3 (.int .i64 0) rfl
    have f3 := A7.out.free (i := 4) rfl 3
    have r4 := A7.out.cell (i := 4) rfl 4 (.slice none 0 0) rfl
    have f4 := A7.out.free (i := 4) rfl 4
    have r5 := A7.out.cell (i := 4) rfl 5 (.slice none 0 0) rfl
    have f5 := A7.out.free (i := 4) rfl 5
    have r6 := A7.out.cell (i := 4) rfl 6 (.slice none 0 0) rfl
    have f6 := A7.out.free (i := 4) rfl 6
    have S7 := hideIt (A7.out.store7 (i := 4) rfl (.int .i64 0) (.bool false) (.int .i64 0) (.int .i64 0) (.slice none 0 0) (.slice none 0 0) (.slice none 0 0))
    clear A7
    rw [show ans0 = #[.int .i64 0, .bool false, .int .i64 0, .int .i64 0, .slice none 0 0, .slice none 0 0, .slice none 0 0] from rfl]
    go_wp2
    refine bodyPost_ret (v := .tuple #[.string c9, .agg #[.int .i64 0, .bool false, .int .i64 0, .int .i64 0, .slice none 0 0, .slice none 0 0, .slice none 0 0], .bool false, .int .i64 0]) (by simp [results, Tryz.results91, go_sem, *]) rfl ?_
    exact ⟨⟨c9, rfl, HC5.out⟩, S7.out.sub (.cons _ (.cons _ (.cons _ (.cons _ (.cons _ (.cons _ (.cons _ (.cons _ (.cons _ (.cons _ (.cons _ (.cons _ (.cons _ (.cons _ (List.Sublist.refl _)))))))))))))))⟩
  · have hp1 : decide (0 < pgs) = false := decide_eq_false hp0
    clear HGO hp0
    have SV : StV _ (seeS s t ver) (.slice ak s.keys.length ck) (.slice av s.vals.length cv) (.slice ab s.bel.length cb) (.slice ap s.pts.length cp) (.slice ax s.sp.length cx) (.slice ay s.sv.length cy) :=
      ⟨owns_rd (A6.out.get (i := 8) rfl), owns_rd (A6.out.get (i := 9) rfl), owns_rd (A6.out.get (i := 10) rfl), owns_rd (A6.out.get (i := 11) rfl), owns_rd (A6.out.get (i := 12) rfl), owns_rd (A6.out.get (i := 13) rfl)⟩
    have CG := hideIt (goOn_any (seeS s t ver) _ _ _ _ _ _ _ (HT.out _ _ A6.out) SV HI.out hs hs0)
    clear SV
    go_wp2_with (refine wpList_load_row rfl 92 _ rfl _ rfl 92 _ (0, 0) _ (A6.out.block (i := 7) rfl) Tryz.underlying92 rfl infoState ?_)
    refine CG.out.mono ?_
    rintro e w9 ⟨⟨c9, rfl, hc5⟩, hb⟩
    have HC5 := hideIt hc5
    have A7 := hideIt (A6.out.below hb)
    clear hc5 hb CG A6 rr0 c5 q14 q17
    have r0 := A7.out.cell (i := 4) rfl 0 (.int .i64 0) rfl
    have f0 := A7.out.free (i := 4) rfl 0
    have r1 := A7.out.cell (i := 4) rfl 1 (.bool false) rfl
    have f1 := A7.out.free (i := 4) rfl 1
    have r2 := A7.out.cell (i := 4) rfl 2 (.int .i64 0) rfl
    have f2 := A7.out.free (i := 4) rfl 2
    have r3 := A7.out.cell (i := 4) rfl 3 (.int .i64 0) rfl
    have f3 := A7.out.free (i := 4) rfl 3
    have r4 := A7.out.cell (i := 4) rfl 4 (.slice none 0 0) rfl
    have f4 := A7.out.free (i := 4) rfl 4
    have r5 := A7.out.cell (i := 4) rfl 5 (.slice none 0 0) rfl
    have f5 := A7.out.free (i := 4) rfl 5
    have r6 := A7.out.cell (i := 4) rfl 6 (.slice none 0 0) rfl
    have f6 := A7.out.free (i := 4) rfl 6
    have S7 := hideIt (A7.out.store7 (i := 4) rfl (.int .i64 0) (.bool false) (.int .i64 0) (.int .i64 0) (.slice none 0 0) (.slice none 0 0) (.slice none 0 0))
    clear A7
    rw [show ans0 = #[.int .i64 0, .bool false, .int .i64 0, .int .i64 0, .slice none 0 0, .slice none 0 0, .slice none 0 0] from rfl]
    go_wp2
    refine bodyPost_ret (v := .tuple #[.string c9, .agg #[.int .i64 0, .bool false, .int .i64 0, .int .i64 0, .slice none 0 0, .slice none 0 0, .slice none 0 0], .bool false, .int .i64 0]) (by simp [results, Tryz.results91, go_sem, *]) rfl ?_
    exact ⟨⟨c9, rfl, HC5.out⟩, S7.out.sub (.cons _ (.cons _ (.cons _ (.cons _ (.cons _ (.cons _ (.cons _ (.cons _ (.cons _ (.cons _ (.cons _ (.cons _ (.cons _ (.cons _ (List.Sublist.refl _)))))))))))))))⟩
end Go.Proofs.YtajobgmnmbnhiaaGreatDoor.Sap
