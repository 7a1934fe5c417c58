/- WHAT IS PROVED HERE: what tree.piece makes of a node that is split: its right half, its left one, the node above both. Conditions: named at each theorem. -/
import Derived.Test.YtajobgmnmbnhiaaGreatDoorPt23
import Derived.BigQuiet
import Derived.BigRegion
namespace Go.Proofs.YtajobgmnmbnhiaaGreatDoor.Sap
open Go.RowKit
def rgtN (m : Nd) (low : Int) : Nd := ⟨m.lv, m.lk, m.hi, tkK m.ks low m.hi [] m.ks.length, tkV m.ks m.vs low m.hi [] m.ks.length⟩
def lftN (m : Nd) (low : Int) (r : Int) : Nd := ⟨m.lv, r, low, tkK m.ks 0 low [] m.ks.length, tkV m.ks m.vs 0 low [] m.ks.length⟩
def topN (m : Nd) (low : Int) (l r : Int) : Nd := ⟨m.lv + 1, -1, 10000, [0, low], [l, r]⟩
def pcN (m : Nd) (low : Int) (s : St) : Nd := if s.laid = 0 then rgtN m low else if s.laid = 1 then lftN m low (s.sp[0]?.getD 0) else topN m low (s.sp[1]?.getD 0) (s.sp[0]?.getD 0)
theorem sz_setCell (w : World) (a : Addr) (v : Value) : (w.setCell a v).heap.size = w.heap.size := by simp [World.setCell]
theorem M.blkRow {w0 w : World} {B g : Nat} {l : List As} {c : Array Value} {t : TypeId} (h : M w0 B w (.blk g c t :: l)) (hc : c.size ≤ 100) : M w0 B w (.row t 1 (.slice (some ⟨g, 0, none⟩) c.size c.size) c.size c.toList :: l) := by
  refine ⟨fun a ha => ?_, ?_, h.bl, h.sz⟩
  · rcases List.mem_cons.1 ha with rfl | ha
    · have h0 := h.get (i := 0) rfl
      exact ⟨by simp, Or.inr ⟨g, c.size, c, rfl, h0.1, h0.2, Nat.le_refl _, by unfold maxLen; omega, by simp, by rw [Nat.mul_one, List.take_of_length_le (by simp)]⟩⟩
    · exact h.holds a (by simp [ha])
  · have h9 := List.pairwise_cons.1 h.apart
    exact List.pairwise_cons.2 ⟨h9.1, h9.2⟩
set_option maxRecDepth 100000 in
set_option maxHeartbeats 6400000 in
theorem piece_right (m : Nd) (mid : Nat) (s : St) (kv vv bv pv xv yv ka va : Value) (fr : List As) (w0 w : World) (B : Nat) (hmid : mid < m.ks.length)
    (h : M w0 B w fr) (hR : RowsIn s kv vv bv pv xv yv fr) (hka : .row 3 1 ka m.ks.length (ints m.ks) ∈ fr) (hva : .row 3 1 va m.vs.length (ints m.vs) ∈ fr) (hn : m.ks.length = m.vs.length) (h7 : m.ks.length ≤ 7) (hlaid : s.laid = 0) :
    Calls Tryz.prog 85 #[.agg #[.int .i64 m.lv, .int .i64 m.lk, .int .i64 m.hi, ka, va], .int .i64 mid, .agg #[.int .i64 s.kd, .int .i64 s.key, .int .i64 s.val, .int .i64 s.step, .int .i64 s.pg, kv, vv, bv, pv, .string s.sw, .int .i64 s.ver, xv, yv, .int .i64 s.laid, .int .i64 s.lv, .int .i64 s.low, .int .i64 s.ch, .int .i64 s.pt]] w fun e w' => ∃ kv' vv', e = .returned (.agg #[.int .i64 (rgtN m (m.ks[mid]?.getD 0)).lv, .int .i64 (rgtN m (m.ks[mid]?.getD 0)).lk, .int .i64 (rgtN m (m.ks[mid]?.getD 0)).hi, kv', vv']) ∧ (rgtN m (m.ks[mid]?.getD 0)).ks.length = (rgtN m (m.ks[mid]?.getD 0)).vs.length ∧
      M w0 B w' (.row 3 1 kv' (rgtN m (m.ks[mid]?.getD 0)).ks.length (ints (rgtN m (m.ks[mid]?.getD 0)).ks) :: .row 3 1 vv' (rgtN m (m.ks[mid]?.getD 0)).ks.length (ints (rgtN m (m.ks[mid]?.getD 0)).vs) :: fr) := by
  obtain ⟨i0, hi0, hz0, hz1, hz2⟩ := info_parts infoInt
  obtain ⟨na, nc, rfl⟩ := As.form0 (h.holds _ hka)
  obtain ⟨nva, nvc, rfl⟩ := As.form0 (h.holds _ hva)
  obtain ⟨ak, ck, rfl⟩ := As.form0 (h.holds _ hR.keys)
  obtain ⟨av, cv, rfl⟩ := As.form0 (h.holds _ hR.vals)
  obtain ⟨ab, cb, rfl⟩ := As.form0 (h.holds _ hR.bel)
  obtain ⟨ap, cp, rfl⟩ := As.form0 (h.holds _ hR.pts)
  obtain ⟨ax, cx, rfl⟩ := As.form0 (h.holds _ hR.sp)
  obtain ⟨ay, cy, rfl⟩ := As.form0 (h.holds _ hR.sv)
  have A0 := ((h.alloc #[.int .i64 m.lv, .int .i64 m.lk, .int .i64 m.hi, .slice na m.ks.length nc, .slice nva m.vs.length nvc] 67).alloc #[.int .i64 s.kd, .int .i64 s.key, .int .i64 s.val, .int .i64 s.step, .int .i64 s.pg, .slice ak s.keys.length ck, .slice av s.vals.length cv, .slice ab s.bel.length cb, .slice ap s.pts.length cp, .string s.sw, .int .i64 s.ver, .slice ax s.sp.length cx, .slice ay s.sv.length cy, .int .i64 s.laid, .int .i64 s.lv, .int .i64 s.low, .int .i64 s.ch, .int .i64 s.pt] 92).alloc #[.int .i64 0, .int .i64 0, .int .i64 0, .slice none 0 0, .slice none 0 0] 67
  rw [alloc_size, alloc_size] at A0
  have HLD := hideIt hlaid
  have HN := hideIt hn
  clear h hlaid hn
  go_enter Tryz.func85, Tryz.ntmps85
  go_upto_region 1 with fail
  generalize ((w.alloc (.cells #[.int .i64 m.lv, .int .i64 m.lk, .int .i64 m.hi, .slice na m.ks.length nc, .slice nva m.vs.length nvc] 67)).alloc (.cells #[.int .i64 s.kd, .int .i64 s.key, .int .i64 s.val, .int .i64 s.step, .int .i64 s.pg, .slice ak s.keys.length ck, .slice av s.vals.length cv, .slice ab s.bel.length cb, .slice ap s.pts.length cp, .string s.sw, .int .i64 s.ver, .slice ax s.sp.length cx, .slice ay s.sv.length cy, .int .i64 s.laid, .int .i64 s.lv, .int .i64 s.low, .int .i64 s.ch, .int .i64 s.pt] 92)).alloc (.cells #[.int .i64 0, .int .i64 0, .int .i64 0, .slice none 0 0, .slice none 0 0] 67) = W at A0 ⊢
  generalize w.heap.size = g0 at A0 ⊢
  replace A0 := hideIt A0
  have rK : Rd _ (.slice na m.ks.length nc) m.ks := owns_rd (A0.out.holds _ (show As.row 3 1 (.slice na m.ks.length nc) m.ks.length (ints m.ks) ∈ _ by simp [hka]))
  obtain ⟨b1, o1, rfl, -, x1⟩ := rK.elem mid hmid
  have y1 := x1 _ (Below.refl _ _)
  obtain ⟨low, hlow⟩ : ∃ x, m.ks[mid]?.getD 0 = x := ⟨_, rfl⟩
  rw [hlow] at y1
  have HLW := hideIt hlow
  have hmid2 : (mid : Int) < (m.ks.length : Int) := by omega
  have hmid0 : (0 : Int) ≤ (mid : Int) := by omega
  have HKA := hideIt hka
  have HVA := hideIt hva
  have HR := hideIt hR
  have n3 := A0.out.cell (i := 2) rfl 3 (.slice (some ⟨b1, o1, none⟩) m.ks.length nc) rfl
  have n0 := A0.out.cell (i := 2) rfl 0 (.int .i64 m.lv) rfl
  have n1 := A0.out.cell (i := 2) rfl 1 (.int .i64 m.lk) rfl
  have n2 := A0.out.cell (i := 2) rfl 2 (.int .i64 m.hi) rfl
  have n4 := A0.out.cell (i := 2) rfl 4 (.slice nva m.vs.length nvc) rfl
  have q13 := A0.out.cell (i := 1) rfl 13 (.int .i64 s.laid) rfl
  have hlz0 := A0.out.lt (i := 2) rfl
  have hlz1 := A0.out.lt (i := 1) rfl
  have hlz2 := A0.out.lt (i := 0) rfl
  have hlb1 := rK.blk_lt mid hmid
  have hb0 : (s.laid == 0) = true := by rw [HLD.out]; rfl
  have A1 := (A0.out).alloc #[.int .i64 m.lv, .int .i64 m.lk, .int .i64 m.hi, .slice none 0 0, .slice none 0 0] 67
  have A1 := M.rowNil (e := 3) (z := 1) (M.rowNil (e := 3) (z := 1) A1)
  have CT := hideIt (takeOver_any _ 0 m (m.lv) (m.lk) (m.hi) low m.hi [] [] (.slice none 0 0) (.slice none 0 0) (.slice (some ⟨b1, o1, none⟩) m.ks.length nc) (.slice nva m.vs.length nvc) _ w0 _ B rfl rfl (by omega) A1 (by simp [HKA.out]) (by simp [HVA.out]) HN.out h7)
  clear A1 hka hva hR rK x1 hlow
  go_wp2_with fail
  refine CT.out.mono ?_
  rintro e w2 ⟨⟨u, rfl⟩, kv1, vv1, l1, hl1, hl2, hl3, hM1⟩
  obtain ⟨ka2, kc2, rfl⟩ := As.form0 (hM1.get (i := 1) rfl)
  obtain ⟨va2, vc2, rfl⟩ := As.form0 (hM1.get (i := 2) rfl)
  have S5 := hideIt (hM1.store5 (i := 3) rfl (.int .i64 m.lv) (.int .i64 m.lk) (.int .i64 m.hi) (.slice ka2 l1 kc2) (.slice va2 l1 vc2))
  have a0 := hM1.cell (i := 0) rfl 0 (.int .i64 m.lv) rfl
  have a1 := hM1.cell (i := 0) rfl 1 (.int .i64 m.lk) rfl
  have a2 := hM1.cell (i := 0) rfl 2 (.int .i64 m.hi) rfl
  have a3 := hM1.cell (i := 0) rfl 3 (.slice ka2 l1 kc2) rfl
  have a4 := hM1.cell (i := 0) rfl 4 (.slice va2 l1 vc2) rfl
  have r0 := hM1.cell (i := 3) rfl 0 (.int .i64 0) rfl
  have f0 := hM1.free (i := 3) rfl 0
  have r1 := hM1.cell (i := 3) rfl 1 (.int .i64 0) rfl
  have f1 := hM1.free (i := 3) rfl 1
  have r2 := hM1.cell (i := 3) rfl 2 (.int .i64 0) rfl
  have f2 := hM1.free (i := 3) rfl 2
  have r3 := hM1.cell (i := 3) rfl 3 (.slice none 0 0) rfl
  have f3 := hM1.free (i := 3) rfl 3
  have r4 := hM1.cell (i := 3) rfl 4 (.slice none 0 0) rfl
  have f4 := hM1.free (i := 3) rfl 4
  have HL := hideIt (And.intro hl1 hl2)
  clear CT A0 hM1 hl1 hl2 n0 n1 n2 n3 n4 y1 q13 hlz0 hlz1 hlz2 hlb1
  go_wp2
  refine bodyPost_ret (v := .agg #[.int .i64 m.lv, .int .i64 m.lk, .int .i64 m.hi, .slice ka2 l1 kc2, .slice va2 l1 vc2]) (by simp [results, Tryz.results85, go_sem, *]) rfl ?_
  rw [HLW.out]
  refine ⟨.slice ka2 l1 kc2, .slice va2 l1 vc2, rfl, HL.out.1.trans HL.out.2.symm, ?_⟩
  have e1 : (rgtN m low).ks.length = l1 := HL.out.1
  rw [e1]
  exact S5.out.sub (.cons _ (.cons_cons _ (.cons_cons _ (.cons _ (.cons _ (.cons _ (List.Sublist.refl _)))))))
set_option maxRecDepth 100000 in
set_option maxHeartbeats 6400000 in
theorem piece_left (m : Nd) (mid : Nat) (s : St) (kv vv bv pv xv yv ka va : Value) (fr : List As) (w0 w : World) (B : Nat) (hmid : mid < m.ks.length)
    (h : M w0 B w fr) (hR : RowsIn s kv vv bv pv xv yv fr) (hka : .row 3 1 ka m.ks.length (ints m.ks) ∈ fr) (hva : .row 3 1 va m.vs.length (ints m.vs) ∈ fr) (hn : m.ks.length = m.vs.length) (h7 : m.ks.length ≤ 7) (hlaid : s.laid = 1) (hsp : 0 < s.sp.length) (hsp2 : s.sp.length ≤ 2) :
    Calls Tryz.prog 85 #[.agg #[.int .i64 m.lv, .int .i64 m.lk, .int .i64 m.hi, ka, va], .int .i64 mid, .agg #[.int .i64 s.kd, .int .i64 s.key, .int .i64 s.val, .int .i64 s.step, .int .i64 s.pg, kv, vv, bv, pv, .string s.sw, .int .i64 s.ver, xv, yv, .int .i64 s.laid, .int .i64 s.lv, .int .i64 s.low, .int .i64 s.ch, .int .i64 s.pt]] w fun e w' => ∃ kv' vv', e = .returned (.agg #[.int .i64 (lftN m (m.ks[mid]?.getD 0) (s.sp[0]?.getD 0)).lv, .int .i64 (lftN m (m.ks[mid]?.getD 0) (s.sp[0]?.getD 0)).lk, .int .i64 (lftN m (m.ks[mid]?.getD 0) (s.sp[0]?.getD 0)).hi, kv', vv']) ∧ (lftN m (m.ks[mid]?.getD 0) (s.sp[0]?.getD 0)).ks.length = (lftN m (m.ks[mid]?.getD 0) (s.sp[0]?.getD 0)).vs.length ∧
      M w0 B w' (.row 3 1 kv' (lftN m (m.ks[mid]?.getD 0) (s.sp[0]?.getD 0)).ks.length (ints (lftN m (m.ks[mid]?.getD 0) (s.sp[0]?.getD 0)).ks) :: .row 3 1 vv' (lftN m (m.ks[mid]?.getD 0) (s.sp[0]?.getD 0)).ks.length (ints (lftN m (m.ks[mid]?.getD 0) (s.sp[0]?.getD 0)).vs) :: fr) := by
  obtain ⟨i0, hi0, hz0, hz1, hz2⟩ := info_parts infoInt
  obtain ⟨na, nc, rfl⟩ := As.form0 (h.holds _ hka)
  obtain ⟨nva, nvc, rfl⟩ := As.form0 (h.holds _ hva)
  obtain ⟨ak, ck, rfl⟩ := As.form0 (h.holds _ hR.keys)
  obtain ⟨av, cv, rfl⟩ := As.form0 (h.holds _ hR.vals)
  obtain ⟨ab, cb, rfl⟩ := As.form0 (h.holds _ hR.bel)
  obtain ⟨ap, cp, rfl⟩ := As.form0 (h.holds _ hR.pts)
  obtain ⟨ax, cx, rfl⟩ := As.form0 (h.holds _ hR.sp)
  obtain ⟨ay, cy, rfl⟩ := As.form0 (h.holds _ hR.sv)
  have A0 := ((h.alloc #[.int .i64 m.lv, .int .i64 m.lk, .int .i64 m.hi, .slice na m.ks.length nc, .slice nva m.vs.length nvc] 67).alloc #[.int .i64 s.kd, .int .i64 s.key, .int .i64 s.val, .int .i64 s.step, .int .i64 s.pg, .slice ak s.keys.length ck, .slice av s.vals.length cv, .slice ab s.bel.length cb, .slice ap s.pts.length cp, .string s.sw, .int .i64 s.ver, .slice ax s.sp.length cx, .slice ay s.sv.length cy, .int .i64 s.laid, .int .i64 s.lv, .int .i64 s.low, .int .i64 s.ch, .int .i64 s.pt] 92).alloc #[.int .i64 0, .int .i64 0, .int .i64 0, .slice none 0 0, .slice none 0 0] 67
  rw [alloc_size, alloc_size] at A0
  have HLD := hideIt hlaid
  have HN := hideIt hn
  clear h hlaid hn
  go_enter Tryz.func85, Tryz.ntmps85
  go_upto_region 1 with fail
  generalize ((w.alloc (.cells #[.int .i64 m.lv, .int .i64 m.lk, .int .i64 m.hi, .slice na m.ks.length nc, .slice nva m.vs.length nvc] 67)).alloc (.cells #[.int .i64 s.kd, .int .i64 s.key, .int .i64 s.val, .int .i64 s.step, .int .i64 s.pg, .slice ak s.keys.length ck, .slice av s.vals.length cv, .slice ab s.bel.length cb, .slice ap s.pts.length cp, .string s.sw, .int .i64 s.ver, .slice ax s.sp.length cx, .slice ay s.sv.length cy, .int .i64 s.laid, .int .i64 s.lv, .int .i64 s.low, .int .i64 s.ch, .int .i64 s.pt] 92)).alloc (.cells #[.int .i64 0, .int .i64 0, .int .i64 0, .slice none 0 0, .slice none 0 0] 67) = W at A0 ⊢
  generalize w.heap.size = g0 at A0 ⊢
  replace A0 := hideIt A0
  have rK : Rd _ (.slice na m.ks.length nc) m.ks := owns_rd (A0.out.holds _ (show As.row 3 1 (.slice na m.ks.length nc) m.ks.length (ints m.ks) ∈ _ by simp [hka]))
  obtain ⟨b1, o1, rfl, -, x1⟩ := rK.elem mid hmid
  have y1 := x1 _ (Below.refl _ _)
  obtain ⟨low, hlow⟩ : ∃ x, m.ks[mid]?.getD 0 = x := ⟨_, rfl⟩
  rw [hlow] at y1
  have HLW := hideIt hlow
  have hmid2 : (mid : Int) < (m.ks.length : Int) := by omega
  have hmid0 : (0 : Int) ≤ (mid : Int) := by omega
  have HKA := hideIt hka
  have HVA := hideIt hva
  have HR := hideIt hR
  have n3 := A0.out.cell (i := 2) rfl 3 (.slice (some ⟨b1, o1, none⟩) m.ks.length nc) rfl
  have n0 := A0.out.cell (i := 2) rfl 0 (.int .i64 m.lv) rfl
  have n1 := A0.out.cell (i := 2) rfl 1 (.int .i64 m.lk) rfl
  have n2 := A0.out.cell (i := 2) rfl 2 (.int .i64 m.hi) rfl
  have n4 := A0.out.cell (i := 2) rfl 4 (.slice nva m.vs.length nvc) rfl
  have q13 := A0.out.cell (i := 1) rfl 13 (.int .i64 s.laid) rfl
  have hlz0 := A0.out.lt (i := 2) rfl
  have hlz1 := A0.out.lt (i := 1) rfl
  have hlz2 := A0.out.lt (i := 0) rfl
  have hlb1 := rK.blk_lt mid hmid
  have hb0 : (s.laid == 0) = false := by rw [HLD.out]; rfl
  have hb1 : (s.laid == 1) = true := by rw [HLD.out]; rfl
  have rS : Rd _ (.slice ax s.sp.length cx) s.sp := owns_rd (A0.out.holds _ (show As.row 3 1 (.slice ax s.sp.length cx) s.sp.length (ints s.sp) ∈ _ by simp [hR.sp]))
  obtain ⟨b2, o2, rfl, -, x2⟩ := rS.elem 0 hsp
  have y2 := x2 _ (Below.refl _ _)
  rw [Nat.add_zero] at y2
  obtain ⟨sp0, hsp0⟩ : ∃ x, s.sp[0]?.getD 0 = x := ⟨_, rfl⟩
  rw [hsp0] at y2
  have HS0 := hideIt hsp0
  have q11 := A0.out.cell (i := 1) rfl 11 (.slice (some ⟨b2, o2, none⟩) s.sp.length cx) rfl
  have hlb2 := rS.blk_lt 0 hsp
  have hspi : (0 : Int) < (s.sp.length : Int) := by omega
  clear rS x2 hsp0
  have A1 := (A0.out).alloc #[.int .i64 m.lv, .int .i64 sp0, .int .i64 low, .slice none 0 0, .slice none 0 0] 67
  have A1 := M.rowNil (e := 3) (z := 1) (M.rowNil (e := 3) (z := 1) A1)
  have A1 : M w0 B (World.drew _) _ := A1.drewN 1
  have CT := hideIt (takeOver_any _ 0 m (m.lv) (sp0) (low) 0 low [] [] (.slice none 0 0) (.slice none 0 0) (.slice (some ⟨b1, o1, none⟩) m.ks.length nc) (.slice nva m.vs.length nvc) _ w0 _ B rfl rfl (by omega) A1 (by simp [HKA.out]) (by simp [HVA.out]) HN.out h7)
  clear A1 hka hva hR rK x1 hlow
  go_wp2_with fail
  go_region
  go_wp2_with fail
  refine CT.out.mono ?_
  rintro e w2 ⟨⟨u, rfl⟩, kv1, vv1, l1, hl1, hl2, hl3, hM1⟩
  obtain ⟨ka2, kc2, rfl⟩ := As.form0 (hM1.get (i := 1) rfl)
  obtain ⟨va2, vc2, rfl⟩ := As.form0 (hM1.get (i := 2) rfl)
  have S5 := hideIt (hM1.store5 (i := 3) rfl (.int .i64 m.lv) (.int .i64 sp0) (.int .i64 low) (.slice ka2 l1 kc2) (.slice va2 l1 vc2))
  have a0 := hM1.cell (i := 0) rfl 0 (.int .i64 m.lv) rfl
  have a1 := hM1.cell (i := 0) rfl 1 (.int .i64 sp0) rfl
  have a2 := hM1.cell (i := 0) rfl 2 (.int .i64 low) rfl
  have a3 := hM1.cell (i := 0) rfl 3 (.slice ka2 l1 kc2) rfl
  have a4 := hM1.cell (i := 0) rfl 4 (.slice va2 l1 vc2) rfl
  have r0 := hM1.cell (i := 3) rfl 0 (.int .i64 0) rfl
  have f0 := hM1.free (i := 3) rfl 0
  have r1 := hM1.cell (i := 3) rfl 1 (.int .i64 0) rfl
  have f1 := hM1.free (i := 3) rfl 1
  have r2 := hM1.cell (i := 3) rfl 2 (.int .i64 0) rfl
  have f2 := hM1.free (i := 3) rfl 2
  have r3 := hM1.cell (i := 3) rfl 3 (.slice none 0 0) rfl
  have f3 := hM1.free (i := 3) rfl 3
  have r4 := hM1.cell (i := 3) rfl 4 (.slice none 0 0) rfl
  have f4 := hM1.free (i := 3) rfl 4
  have HL := hideIt (And.intro hl1 hl2)
  clear CT A0 hM1 hl1 hl2 n0 n1 n2 n3 n4 y1 q13 hlz0 hlz1 hlz2 hlb1 y2 q11 hlb2
  go_wp2
  refine bodyPost_ret (v := .agg #[.int .i64 m.lv, .int .i64 sp0, .int .i64 low, .slice ka2 l1 kc2, .slice va2 l1 vc2]) (by simp [results, Tryz.results85, go_sem, *]) rfl ?_
  rw [HLW.out]
  refine ⟨.slice ka2 l1 kc2, .slice va2 l1 vc2, by rw [HS0.out]; rfl, HL.out.1.trans HL.out.2.symm, ?_⟩
  have e1 : (lftN m low (s.sp[0]?.getD 0)).ks.length = l1 := HL.out.1
  rw [e1]
  exact S5.out.sub (.cons _ (.cons_cons _ (.cons_cons _ (.cons _ (.cons _ (.cons _ (List.Sublist.refl _)))))))
set_option maxRecDepth 100000 in
set_option maxHeartbeats 6400000 in
theorem piece_top (m : Nd) (mid : Nat) (s : St) (kv vv bv pv xv yv ka va : Value) (fr : List As) (w0 w : World) (B : Nat) (hmid : mid < m.ks.length)
    (h : M w0 B w fr) (hR : RowsIn s kv vv bv pv xv yv fr) (hka : .row 3 1 ka m.ks.length (ints m.ks) ∈ fr) (hva : .row 3 1 va m.vs.length (ints m.vs) ∈ fr) (hn : m.ks.length = m.vs.length) (_h7 : m.ks.length ≤ 7) (hlaid : s.laid = 2) (hsp : s.sp.length = 2) (hlv : 0 ≤ m.lv ∧ m.lv ≤ 9) :
    Calls Tryz.prog 85 #[.agg #[.int .i64 m.lv, .int .i64 m.lk, .int .i64 m.hi, ka, va], .int .i64 mid, .agg #[.int .i64 s.kd, .int .i64 s.key, .int .i64 s.val, .int .i64 s.step, .int .i64 s.pg, kv, vv, bv, pv, .string s.sw, .int .i64 s.ver, xv, yv, .int .i64 s.laid, .int .i64 s.lv, .int .i64 s.low, .int .i64 s.ch, .int .i64 s.pt]] w fun e w' => ∃ kv' vv', e = .returned (.agg #[.int .i64 (topN m (m.ks[mid]?.getD 0) (s.sp[1]?.getD 0) (s.sp[0]?.getD 0)).lv, .int .i64 (topN m (m.ks[mid]?.getD 0) (s.sp[1]?.getD 0) (s.sp[0]?.getD 0)).lk, .int .i64 (topN m (m.ks[mid]?.getD 0) (s.sp[1]?.getD 0) (s.sp[0]?.getD 0)).hi, kv', vv']) ∧ (topN m (m.ks[mid]?.getD 0) (s.sp[1]?.getD 0) (s.sp[0]?.getD 0)).ks.length = (topN m (m.ks[mid]?.getD 0) (s.sp[1]?.getD 0) (s.sp[0]?.getD 0)).vs.length ∧
      M w0 B w' (.row 3 1 kv' (topN m (m.ks[mid]?.getD 0) (s.sp[1]?.getD 0) (s.sp[0]?.getD 0)).ks.length (ints (topN m (m.ks[mid]?.getD 0) (s.sp[1]?.getD 0) (s.sp[0]?.getD 0)).ks) :: .row 3 1 vv' (topN m (m.ks[mid]?.getD 0) (s.sp[1]?.getD 0) (s.sp[0]?.getD 0)).ks.length (ints (topN m (m.ks[mid]?.getD 0) (s.sp[1]?.getD 0) (s.sp[0]?.getD 0)).vs) :: fr) := by
  obtain ⟨i0, hi0, hz0, hz1, hz2⟩ := info_parts infoInt
  obtain ⟨na, nc, rfl⟩ := As.form0 (h.holds _ hka)
  obtain ⟨nva, nvc, rfl⟩ := As.form0 (h.holds _ hva)
  obtain ⟨ak, ck, rfl⟩ := As.form0 (h.holds _ hR.keys)
  obtain ⟨av, cv, rfl⟩ := As.form0 (h.holds _ hR.vals)
  obtain ⟨ab, cb, rfl⟩ := As.form0 (h.holds _ hR.bel)
  obtain ⟨ap, cp, rfl⟩ := As.form0 (h.holds _ hR.pts)
  obtain ⟨ax, cx, rfl⟩ := As.form0 (h.holds _ hR.sp)
  obtain ⟨ay, cy, rfl⟩ := As.form0 (h.holds _ hR.sv)
  have A0 := ((h.alloc #[.int .i64 m.lv, .int .i64 m.lk, .int .i64 m.hi, .slice na m.ks.length nc, .slice nva m.vs.length nvc] 67).alloc #[.int .i64 s.kd, .int .i64 s.key, .int .i64 s.val, .int .i64 s.step, .int .i64 s.pg, .slice ak s.keys.length ck, .slice av s.vals.length cv, .slice ab s.bel.length cb, .slice ap s.pts.length cp, .string s.sw, .int .i64 s.ver, .slice ax s.sp.length cx, .slice ay s.sv.length cy, .int .i64 s.laid, .int .i64 s.lv, .int .i64 s.low, .int .i64 s.ch, .int .i64 s.pt] 92).alloc #[.int .i64 0, .int .i64 0, .int .i64 0, .slice none 0 0, .slice none 0 0] 67
  rw [alloc_size, alloc_size] at A0
  have HLD := hideIt hlaid
  have HN := hideIt hn
  have HSP2 := hideIt hsp
  have HSP : Hid (s.sp.length = 2) := hsp
  obtain ⟨hlv1, hlv2⟩ := hlv
  obtain ⟨sl, hsl⟩ : ∃ l, s.sp.length = l := ⟨_, rfl⟩
  clear h hlaid hn hsp hsl sl
  go_enter Tryz.func85, Tryz.ntmps85
  go_upto_region 1 with fail
  generalize ((w.alloc (.cells #[.int .i64 m.lv, .int .i64 m.lk, .int .i64 m.hi, .slice na m.ks.length nc, .slice nva m.vs.length nvc] 67)).alloc (.cells #[.int .i64 s.kd, .int .i64 s.key, .int .i64 s.val, .int .i64 s.step, .int .i64 s.pg, .slice ak s.keys.length ck, .slice av s.vals.length cv, .slice ab s.bel.length cb, .slice ap s.pts.length cp, .string s.sw, .int .i64 s.ver, .slice ax s.sp.length cx, .slice ay s.sv.length cy, .int .i64 s.laid, .int .i64 s.lv, .int .i64 s.low, .int .i64 s.ch, .int .i64 s.pt] 92)).alloc (.cells #[.int .i64 0, .int .i64 0, .int .i64 0, .slice none 0 0, .slice none 0 0] 67) = W at A0 ⊢
  generalize w.heap.size = g0 at A0 ⊢
  replace A0 := hideIt A0
  have rK : Rd _ (.slice na m.ks.length nc) m.ks := owns_rd (A0.out.holds _ (show As.row 3 1 (.slice na m.ks.length nc) m.ks.length (ints m.ks) ∈ _ by simp [hka]))
  obtain ⟨b1, o1, rfl, -, x1⟩ := rK.elem mid hmid
  have y1 := x1 _ (Below.refl _ _)
  obtain ⟨low, hlow⟩ : ∃ x, m.ks[mid]?.getD 0 = x := ⟨_, rfl⟩
  rw [hlow] at y1
  have HLW := hideIt hlow
  have hmid2 : (mid : Int) < (m.ks.length : Int) := by omega
  have hmid0 : (0 : Int) ≤ (mid : Int) := by omega
  have HKA := hideIt hka
  have HVA := hideIt hva
  have HR := hideIt hR
  have n3 := A0.out.cell (i := 2) rfl 3 (.slice (some ⟨b1, o1, none⟩) m.ks.length nc) rfl
  have n0 := A0.out.cell (i := 2) rfl 0 (.int .i64 m.lv) rfl
  have n1 := A0.out.cell (i := 2) rfl 1 (.int .i64 m.lk) rfl
  have n2 := A0.out.cell (i := 2) rfl 2 (.int .i64 m.hi) rfl
  have n4 := A0.out.cell (i := 2) rfl 4 (.slice nva m.vs.length nvc) rfl
  have q13 := A0.out.cell (i := 1) rfl 13 (.int .i64 s.laid) rfl
  have hlz0 := A0.out.lt (i := 2) rfl
  have hlz1 := A0.out.lt (i := 1) rfl
  have hlz2 := A0.out.lt (i := 0) rfl
  have hlb1 := rK.blk_lt mid hmid
  have hb0 : (s.laid == 0) = false := by rw [HLD.out]; rfl
  have hb1 : (s.laid == 1) = false := by rw [HLD.out]; rfl
  have rS : Rd _ (.slice ax s.sp.length cx) s.sp := owns_rd (A0.out.holds _ (show As.row 3 1 (.slice ax s.sp.length cx) s.sp.length (ints s.sp) ∈ _ by simp [hR.sp]))
  obtain ⟨b2, o2, rfl, -, x2⟩ := rS.elem 0 (by rw [HSP.out]; omega)
  have y2 := x2 _ (Below.refl _ _)
  rw [Nat.add_zero] at y2
  obtain ⟨b3, o3, e3, -, x3⟩ := rS.elem 1 (by rw [HSP.out]; omega)
  cases e3
  have y3 := x3 _ (Below.refl _ _)
  obtain ⟨sp0, hsp0⟩ : ∃ x, s.sp[0]?.getD 0 = x := ⟨_, rfl⟩
  rw [hsp0] at y2
  have HS0 := hideIt hsp0
  obtain ⟨sp1, hsp1⟩ : ∃ x, s.sp[1]?.getD 0 = x := ⟨_, rfl⟩
  rw [hsp1] at y3
  have HS1 := hideIt hsp1
  have q11 := A0.out.cell (i := 1) rfl 11 (.slice (some ⟨b2, o2, none⟩) s.sp.length cx) rfl
  have hlb2 := rS.blk_lt 0 (by rw [HSP.out]; omega)
  have hspi : (0 : Int) < (s.sp.length : Int) := by rw [HSP.out]; decide
  have hspi1 : (1 : Int) < (s.sp.length : Int) := by rw [HSP.out]; decide
  have r0 := A0.out.cell (i := 0) rfl 0 (.int .i64 0) rfl
  have r1 := A0.out.cell (i := 0) rfl 1 (.int .i64 0) rfl
  have r2 := A0.out.cell (i := 0) rfl 2 (.int .i64 0) rfl
  have r3 := A0.out.cell (i := 0) rfl 3 (.slice none 0 0) rfl
  have r4 := A0.out.cell (i := 0) rfl 4 (.slice none 0 0) rfl
  have f0 := A0.out.free (i := 0) rfl 0
  have f1 := A0.out.free (i := 0) rfl 1
  have f2 := A0.out.free (i := 0) rfl 2
  have f3 := A0.out.free (i := 0) rfl 3
  have f4 := A0.out.free (i := 0) rfl 4
  clear rS x2 x3 hsp0 hsp1 hka hva hR rK x1 hlow
  have SA : M w0 B (World.drew _) _ := (((A0.out.store5 (i := 0) rfl (.int .i64 (m.lv + 1)) (.int .i64 (-1)) (.int .i64 10000) (.slice (some ⟨W.heap.size, 0, none⟩) 2 2) (.slice (some ⟨W.heap.size + 1, 0, none⟩) 2 2)).alloc #[.int .i64 0, .int .i64 low] 3).alloc #[.int .i64 sp1, .int .i64 sp0] 3).drewN 1
  have SB : M w0 B (World.drew _) _ := (((A0.out.store5 (i := 0) rfl (.int .i64 (m.lv + 1)) (.int .i64 (-1)) (.int .i64 10000) (.slice (some ⟨W.heap.size + 1, 0, none⟩) 2 2) (.slice (some ⟨W.heap.size, 0, none⟩) 2 2)).alloc #[.int .i64 sp1, .int .i64 sp0] 3).alloc #[.int .i64 0, .int .i64 low] 3).drewN 1
  simp only [alloc_size, sz_setCell] at SA SB
  have HA := hideIt SA
  have HB := hideIt SB
  clear SA SB
  go_wp2_with fail
  go_region
  · obtain ⟨WA, hWA⟩ : ∃ X, X = (((((((W.setCell ⟨g0 + 1 + 1, 0, none⟩ (.int .i64 (m.lv + 1))).setCell ⟨g0 + 1 + 1, 1, none⟩ (.int .i64 (-1))).setCell ⟨g0 + 1 + 1, 2, none⟩ (.int .i64 10000)).setCell ⟨g0 + 1 + 1, 3, none⟩ (.slice (some ⟨W.heap.size, 0, none⟩) 2 2)).setCell ⟨g0 + 1 + 1, 4, none⟩ (.slice (some ⟨W.heap.size + 1, 0, none⟩) 2 2)).alloc (.cells #[.int .i64 0, .int .i64 low] 3)).alloc (.cells #[.int .i64 sp1, .int .i64 sp0] 3)).drew := ⟨_, rfl⟩
    rw [← hWA] at HA ⊢
    have HA2 := HA
    clear hWA HA HB A0 r0 r1 r2 r3 r4 f0 f1 f2 f3 f4 n0 n1 n2 n3 n4 y1 y2 y3 q11 q13 hlz0 hlz1 hlz2 hlb1 hlb2
    have a0 := HA2.out.cell (i := 2) rfl 0 (.int .i64 (m.lv + 1)) rfl
    have a1 := HA2.out.cell (i := 2) rfl 1 (.int .i64 (-1)) rfl
    have a2 := HA2.out.cell (i := 2) rfl 2 (.int .i64 10000) rfl
    have a3 := HA2.out.cell (i := 2) rfl 3 (.slice (some ⟨W.heap.size, 0, none⟩) 2 2) rfl
    have a4 := HA2.out.cell (i := 2) rfl 4 (.slice (some ⟨W.heap.size + 1, 0, none⟩) 2 2) rfl
    go_wp2
    refine bodyPost_ret (v := .agg #[.int .i64 (m.lv + 1), .int .i64 (-1), .int .i64 10000, .slice (some ⟨W.heap.size, 0, none⟩) 2 2, .slice (some ⟨W.heap.size + 1, 0, none⟩) 2 2]) (by simp [results, Tryz.results85, go_sem, *]) rfl ?_
    rw [HLW.out, HS0.out, HS1.out]
    refine ⟨_, _, rfl, rfl, ?_⟩
    have h1 := HA2.out.blkRow (show 2 ≤ 100 by decide)
    have h2 := h1.mvAt (pre := []) (a := [_]) (b := [_])
    simp only [List.nil_append, List.cons_append] at h2
    exact (h2.blkRow (show 2 ≤ 100 by decide)).sub (.cons_cons _ (.cons_cons _ (.cons _ (.cons _ (.cons _ (List.Sublist.refl _))))))
  · obtain ⟨WA, hWA⟩ : ∃ X, X = (((((((W.setCell ⟨g0 + 1 + 1, 0, none⟩ (.int .i64 (m.lv + 1))).setCell ⟨g0 + 1 + 1, 1, none⟩ (.int .i64 (-1))).setCell ⟨g0 + 1 + 1, 2, none⟩ (.int .i64 10000)).setCell ⟨g0 + 1 + 1, 3, none⟩ (.slice (some ⟨W.heap.size + 1, 0, none⟩) 2 2)).setCell ⟨g0 + 1 + 1, 4, none⟩ (.slice (some ⟨W.heap.size, 0, none⟩) 2 2)).alloc (.cells #[.int .i64 sp1, .int .i64 sp0] 3)).alloc (.cells #[.int .i64 0, .int .i64 low] 3)).drew := ⟨_, rfl⟩
    rw [← hWA] at HB ⊢
    have HA2 := HB
    clear hWA HA HB A0 r0 r1 r2 r3 r4 f0 f1 f2 f3 f4 n0 n1 n2 n3 n4 y1 y2 y3 q11 q13 hlz0 hlz1 hlz2 hlb1 hlb2
    have a0 := HA2.out.cell (i := 2) rfl 0 (.int .i64 (m.lv + 1)) rfl
    have a1 := HA2.out.cell (i := 2) rfl 1 (.int .i64 (-1)) rfl
    have a2 := HA2.out.cell (i := 2) rfl 2 (.int .i64 10000) rfl
    have a3 := HA2.out.cell (i := 2) rfl 3 (.slice (some ⟨W.heap.size + 1, 0, none⟩) 2 2) rfl
    have a4 := HA2.out.cell (i := 2) rfl 4 (.slice (some ⟨W.heap.size, 0, none⟩) 2 2) rfl
    go_wp2
    refine bodyPost_ret (v := .agg #[.int .i64 (m.lv + 1), .int .i64 (-1), .int .i64 10000, .slice (some ⟨W.heap.size + 1, 0, none⟩) 2 2, .slice (some ⟨W.heap.size, 0, none⟩) 2 2]) (by simp [results, Tryz.results85, go_sem, *]) rfl ?_
    rw [HLW.out, HS0.out, HS1.out]
    refine ⟨_, _, rfl, rfl, ?_⟩
    have h1 := HA2.out.blkRow (show 2 ≤ 100 by decide)
    have h2 := h1.mvAt (pre := []) (a := [_]) (b := [_])
    simp only [List.nil_append, List.cons_append] at h2
    have h3 := (h2.blkRow (show 2 ≤ 100 by decide)).mvAt (pre := []) (a := [_]) (b := [_])
    simp only [List.nil_append, List.cons_append] at h3
    exact h3.sub (.cons_cons _ (.cons_cons _ (.cons _ (.cons _ (.cons _ (List.Sublist.refl _))))))
end Go.Proofs.YtajobgmnmbnhiaaGreatDoor.Sap
