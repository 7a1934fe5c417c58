/- WHAT IS PROVED HERE: what tree.tellRead answers where it leads on, to a Scan and to a Get; what tree.Tell answers to the text of a page. Conditions: named at each theorem. -/
import Derived.Test.YtajobgmnmbnhiaaGreatDoorPt22
import Derived.Test.YtajobgmnmbnhiaaGreatDoorPt24
namespace Go.Proofs.YtajobgmnmbnhiaaGreatDoor.Sap
open Go.RowKit
theorem OwnS.m {w w' : World} {s : St} {kv vv bv pv xv yv : Value} (h : OwnS w' w.heap.size s kv vv bv pv xv yv) (hb : Below w.heap.size w w') :
    M w w.heap.size w' [.row 3 1 kv s.keys.length (ints s.keys), .row 3 1 vv s.vals.length (ints s.vals), .row 3 1 bv s.bel.length (ints s.bel), .row 3 1 pv s.pts.length (ints s.pts), .row 3 1 xv s.sp.length (ints s.sp), .row 3 1 yv s.sv.length (ints s.sv)] := by
  refine ⟨fun a ha => ?_, ?_, hb, hb.size⟩
  · simp only [List.mem_cons, List.not_mem_nil, or_false] at ha
    rcases ha with rfl | rfl | rfl | rfl | rfl | rfl
    · exact h.keys
    · exact h.vals
    · exact h.bel
    · exact h.pts
    · exact h.sp
    · exact h.sv
  · refine List.pairwise_cons.2 ⟨fun b hb => ?_, List.pairwise_cons.2 ⟨fun b hb => ?_, List.pairwise_cons.2 ⟨fun b hb => ?_, List.pairwise_cons.2 ⟨fun b hb => ?_, List.pairwise_cons.2 ⟨fun b hb => ?_, List.pairwise_singleton _ _⟩⟩⟩⟩⟩
    · simp only [List.mem_cons, List.not_mem_nil, or_false] at hb
      rcases hb with rfl | rfl | rfl | rfl | rfl
      · exact h.keys_vals
      · exact h.keys_bel
      · exact h.keys_pts
      · exact h.keys_sp
      · exact h.keys_sv
    · simp only [List.mem_cons, List.not_mem_nil, or_false] at hb
      rcases hb with rfl | rfl | rfl | rfl
      · exact h.vals_bel
      · exact h.vals_pts
      · exact h.vals_sp
      · exact h.vals_sv
    · simp only [List.mem_cons, List.not_mem_nil, or_false] at hb
      rcases hb with rfl | rfl | rfl
      · exact h.bel_pts
      · exact h.bel_sp
      · exact h.bel_sv
    · simp only [List.mem_cons, List.not_mem_nil, or_false] at hb
      rcases hb with rfl | rfl
      · exact h.pts_sp
      · exact h.pts_sv
    · simp only [List.mem_cons, List.not_mem_nil, or_false] at hb
      subst hb
      exact h.sp_sv
theorem Own.m2 {w w' : World} {kv vv : Value} {ks vs : List Int} (h : Own w' w.heap.size kv vv ks vs) (hb : Below w.heap.size w w') : M w w.heap.size w' [.row 3 1 kv ks.length (ints ks), .row 3 1 vv vs.length (ints vs)] := by
  refine ⟨fun a ha => ?_, ?_, hb, hb.size⟩
  · simp only [List.mem_cons, List.not_mem_nil, or_false] at ha
    rcases ha with rfl | rfl
    · exact h.1
    · exact h.2.1
  · refine List.pairwise_cons.2 ⟨fun b hb => ?_, List.pairwise_singleton _ _⟩
    simp only [List.mem_cons, List.not_mem_nil, or_false] at hb
    subst hb
    exact h.2.2
theorem M.mvAt {w0 w : World} {B : Nat} {pre a b c : List As} (h : M w0 B w (pre ++ (a ++ (b ++ c)))) : M w0 B w (pre ++ (b ++ (a ++ c))) := by
  refine h.perm (List.Perm.append_left _ ?_)
  rw [← List.append_assoc, ← List.append_assoc]
  exact List.Perm.append_right _ List.perm_append_comm
def rdGo (s : St) (n : Nd) : Prop := s.lv < n.lv ∨ n.hi ≤ wantV s
set_option maxRecDepth 100000 in
set_option maxHeartbeats 6400000 in
theorem tellRead_on (s : St) (n : Nd) (kv vv bv pv xv yv : Value) (t : ByteArray) (ver : Int) (fr : List As) (w0 w : World) (B : Nat) (htab : Tab w0) (hB : B = w0.heap.size) (hs : StOk s) (hu : Unp t.data.toList n) (hgo : rdGo s n) (hst1 : s.step ≤ 1000000000) (hnx : 0 ≤ onwV n (wantV s)) (hI : StI { s with pg := onwV n (wantV s), step := s.step + 1 })
    (h : M w0 B w (.row 3 1 kv s.keys.length (ints s.keys) :: .row 3 1 vv s.vals.length (ints s.vals) :: .row 3 1 bv s.bel.length (ints s.bel) :: .row 3 1 pv s.pts.length (ints s.pts) :: .row 3 1 xv s.sp.length (ints s.sp) :: .row 3 1 yv s.sv.length (ints s.sv) :: fr)) :
    Calls Tryz.prog 68 #[.agg #[.int .i64 s.kd, .int .i64 s.key, .int .i64 s.val, .int .i64 s.step, .int .i64 s.pg, kv, vv, bv, pv, .string s.sw, .int .i64 s.ver, xv, yv, .int .i64 s.laid, .int .i64 s.lv, .int .i64 s.low, .int .i64 s.ch, .int .i64 s.pt], .agg #[.int .i64 ver, .int .i64 0, .string t, .bool false]] w fun e w' => OnR { s with pg := onwV n (wantV s), step := s.step + 1 } e ∧ M w0 B w' fr := by
  obtain ⟨ak, ck, rfl⟩ := As.form0 (h.get (i := 0) rfl)
  obtain ⟨av, cv, rfl⟩ := As.form0 (h.get (i := 1) rfl)
  obtain ⟨ab, cb, rfl⟩ := As.form0 (h.get (i := 2) rfl)
  obtain ⟨ap, cp, rfl⟩ := As.form0 (h.get (i := 3) rfl)
  obtain ⟨ax, cx, rfl⟩ := As.form0 (h.get (i := 4) rfl)
  obtain ⟨ay, cy, rfl⟩ := As.form0 (h.get (i := 5) rfl)
  have htl : t.size ≤ 47 := by
    have := (len_packT n hu.1).2
    rw [hu.2, ba_size] at this; exact this
  have hr := right_bd n hu.1
  have HR := hideIt hr
  have HS := hideIt hs
  have HU := hideIt hu
  have hlv0 := hr.1
  have A0 := ((h.alloc #[.int .i64 s.kd, .int .i64 s.key, .int .i64 s.val, .int .i64 s.step, .int .i64 s.pg, .slice ak s.keys.length ck, .slice av s.vals.length cv, .slice ab s.bel.length cb, .slice ap s.pts.length cp, .string s.sw, .int .i64 s.ver, .slice ax s.sp.length cx, .slice ay s.sv.length cy, .int .i64 s.laid, .int .i64 s.lv, .int .i64 s.low, .int .i64 s.ch, .int .i64 s.pt] 92).alloc #[.int .i64 ver, .int .i64 0, .string t, .bool false] 99).alloc #[.int .i64 0, .bool false, .int .i64 0, .int .i64 0, .slice none 0 0, .slice none 0 0, .slice none 0 0] 46
  rw [alloc_size, alloc_size] at A0
  have CU := hideIt (fun W => unpack_any t W (by omega))
  have HT : Hid (∀ W l, M w0 B W l → Tab W) := fun W l hm => htab.below (hB ▸ hm.bl)
  have rt := A0.cell (i := 1) rfl 2 (.string t) rfl
  have A1 := hideIt A0
  have HGO := hideIt hgo
  have HI := hideIt hI
  have HNX0 := hideIt hnx
  have hst0 := hs.step.1
  clear hs hu htab hB hr htl h A0 hgo hI hnx
  go_enter Tryz.func68, Tryz.ntmps68
  go_wp2_with fail
  refine (CU.out _).mono ?_
  rintro e w2 ⟨hR, hb⟩
  refine Or.elim hR (fun h1 => ?_) (fun h1 => absurd HU.out (h1.1 n))
  clear hR
  obtain ⟨n', kv2, vv2, hu', hO2, rfl⟩ := h1
  obtain rfl : n = n' := HU.out.uniq hu'
  have A3 := A1.out.join (Own.m2 hO2 hb)
  clear hO2 hb CU A1 rt hu'
  obtain ⟨na, nc, rfl⟩ := As.form0 (A3.get (i := 0) rfl)
  obtain ⟨nva, nvc, rfl⟩ := As.form0 (A3.get (i := 1) rfl)
  have A4 := hideIt (A3.alloc #[.int .i64 n.lv, .int .i64 n.lk, .int .i64 n.hi, .slice na n.ks.length nc, .slice nva n.vs.length nvc] 67)
  clear A3
  have HSV : Hid (∀ W (l : List As), M w0 B W l → As.row 3 1 (.slice ak s.keys.length ck) s.keys.length (ints s.keys) ∈ l → As.row 3 1 (.slice av s.vals.length cv) s.vals.length (ints s.vals) ∈ l → As.row 3 1 (.slice ab s.bel.length cb) s.bel.length (ints s.bel) ∈ l → As.row 3 1 (.slice ap s.pts.length cp) s.pts.length (ints s.pts) ∈ l → As.row 3 1 (.slice ax s.sp.length cx) s.sp.length (ints s.sp) ∈ l → As.row 3 1 (.slice ay s.sv.length cy) s.sv.length (ints s.sv) ∈ l → StV W s (.slice ak s.keys.length ck) (.slice av s.vals.length cv) (.slice ab s.bel.length cb) (.slice ap s.pts.length cp) (.slice ax s.sp.length cx) (.slice ay s.sv.length cy)) := by
    intro W l hW h1 h2 h3 h4 h5 h6
    exact ⟨owns_rd (hW.holds _ h1), owns_rd (hW.holds _ h2), owns_rd (hW.holds _ h3), owns_rd (hW.holds _ h4), owns_rd (hW.holds _ h5), owns_rd (hW.holds _ h6)⟩
  have HNR : Hid (∀ W (l : List As), M w0 B W l → As.row 3 1 (.slice na n.ks.length nc) n.ks.length (ints n.ks) ∈ l → As.row 3 1 (.slice nva n.vs.length nvc) n.vs.length (ints n.vs) ∈ l → Rd W (.slice na n.ks.length nc) n.ks ∧ Rd W (.slice nva n.vs.length nvc) n.vs) := fun W l hW h1 h2 => ⟨owns_rd (hW.holds _ h1), owns_rd (hW.holds _ h2)⟩
  obtain ⟨gx, hgx⟩ : ∃ g, w.heap.size = g := ⟨_, rfl⟩
  rw [hgx] at A4 ⊢
  clear hgx
  go_wp2_with (refine wpList_load_row rfl 92 _ rfl _ rfl 92 _ (0, 0) _ (A4.out.block (i := 5) rfl) Tryz.underlying92 rfl infoState ?_)
  refine (wanted_any s _ _ _ _ _ _ _ (HSV.out _ _ A4.out (by simp) (by simp) (by simp) (by simp) (by simp) (by simp)) HS.out.i).mono ?_
  rintro e w3 ⟨rfl, hb3⟩
  have A5 := hideIt (A4.out.below hb3)
  clear A4 hb3
  obtain ⟨L, hL⟩ : ∃ x, wantV s = x := ⟨_, rfl⟩
  rw [hL]
  have HL := hideIt hL
  clear hL
  have q0 := A5.out.cell (i := 5) rfl 0 (.int .i64 s.kd) rfl
  have q14 := A5.out.cell (i := 5) rfl 14 (.int .i64 s.lv) rfl
  have n0 := A5.out.cell (i := 0) rfl 0 (.int .i64 n.lv) rfl
  have n1 := A5.out.cell (i := 0) rfl 1 (.int .i64 n.lk) rfl
  have n2 := A5.out.cell (i := 0) rfl 2 (.int .i64 n.hi) rfl
  have n3 := A5.out.cell (i := 0) rfl 3 (.slice na n.ks.length nc) rfl
  have n4 := A5.out.cell (i := 0) rfl 4 (.slice nva n.vs.length nvc) rfl
  have hgo := HGO.out
  unfold rdGo at hgo
  rw [HL.out] at hgo HI HNX0
  go_upto_region 5 with fail
  go_cut [34] (fun u wy => u = .bool true ∧ wy = w3)
  case first =>
    by_cases hl : s.lv < n.lv
    · clear hgo
      go_wp2
      go_meet
      case rel => exact ⟨rfl, rfl⟩
    · have hhi : n.hi ≤ L := by rcases hgo with h | h; exact absurd h hl; exact h
      have hl2 : decide (s.lv < n.lv) = false := decide_eq_false hl
      clear hgo hl
      go_wp2
      go_meet
      case rel => exact ⟨rfl, rfl⟩
  case rest =>
  obtain ⟨rfl, rfl⟩ := hcut
  clear hgo
  obtain ⟨nx, hnx⟩ : ∃ x, onwV n L = x := ⟨_, rfl⟩
  rw [hnx] at HI HNX0
  have HNX := hideIt hnx
  clear hnx
  go_wp2_with fail
  refine (onward_any n _ _ L _ (HNR.out _ _ A5.out (by simp) (by simp)).1 (HNR.out _ _ A5.out (by simp) (by simp)).2 HR.out.2.2.2.1 HR.out.2.2.2.2.1).mono ?_
  rintro e w4 ⟨rfl, hb4⟩
  rw [HNX.out]
  have A6 := hideIt (A5.out.below hb4)
  clear A5 hb4 q0 q14 n0 n1 n2 n3 n4
  go_wp2_with (refine wpList_load_row rfl 92 _ rfl _ rfl 92 _ (0, 0) _ (A6.out.block (i := 5) rfl) Tryz.underlying92 rfl infoState ?_)
  refine (readOn_any s nx _ _ _ _ _ _ _ (HT.out _ _ A6.out) (HSV.out _ _ A6.out (by simp) (by simp) (by simp) (by simp) (by simp) (by simp)) HI.out (by omega) hst0 HNX0.out).mono ?_
  rintro e w5 ⟨⟨c5, rfl, hc5⟩, hb5⟩
  have A7 := hideIt (A6.out.below hb5)
  have HC5 := hideIt hc5
  clear hc5 hb5 A6 HI
  rw [show ans0 = #[.int .i64 0, .bool false, .int .i64 0, .int .i64 0, .slice none 0 0, .slice none 0 0, .slice none 0 0] from rfl]
  have r0 := A7.out.cell (i := 3) rfl 0 (.int .i64 0) rfl
  have f0 := A7.out.free (i := 3) rfl 0
  have r1 := A7.out.cell (i := 3) rfl 1 (.bool false) rfl
  have f1 := A7.out.free (i := 3) rfl 1
  have r2 := A7.out.cell (i := 3) rfl 2 (.int .i64 0) rfl
  have f2 := A7.out.free (i := 3) rfl 2
  have r3 := A7.out.cell (i := 3) rfl 3 (.int .i64 0) rfl
  have f3 := A7.out.free (i := 3) rfl 3
  have r4 := A7.out.cell (i := 3) rfl 4 (.slice none 0 0) rfl
  have f4 := A7.out.free (i := 3) rfl 4
  have r5 := A7.out.cell (i := 3) rfl 5 (.slice none 0 0) rfl
  have f5 := A7.out.free (i := 3) rfl 5
  have r6 := A7.out.cell (i := 3) rfl 6 (.slice none 0 0) rfl
  have f6 := A7.out.free (i := 3) rfl 6
  have S7 := hideIt (A7.out.store7 (i := 3) rfl (.int .i64 0) (.bool false) (.int .i64 0) (.int .i64 0) (.slice none 0 0) (.slice none 0 0) (.slice none 0 0))
  clear A7
  go_wp2
  refine bodyPost_ret (v := .tuple #[.string c5, .agg #[.int .i64 0, .bool false, .int .i64 0, .int .i64 0, .slice none 0 0, .slice none 0 0, .slice none 0 0], .bool false, .int .i64 0]) (by simp [results, Tryz.results68, go_sem, *]) rfl ?_
  rw [HL.out, HNX.out]
  exact ⟨⟨c5, rfl, HC5.out⟩, S7.out.sub (.cons _ (.cons _ (.cons _ (.cons _ (.cons _ (.cons _ (.cons _ (.cons _ (.cons _ (.cons _ (.cons _ (.cons _ (List.Sublist.refl _)))))))))))))⟩
set_option maxRecDepth 100000 in
set_option maxHeartbeats 6400000 in
theorem tellRead_get (s : St) (n : Nd) (kv vv bv pv xv yv : Value) (t : ByteArray) (ver : Int) (fr : List As) (w0 w : World) (B : Nat) (htab : Tab w0) (hB : B = w0.heap.size) (hs : StOk s) (hu : Unp t.data.toList n) (hgo : ¬ rdGo s n) (hk1 : s.kd = 1)
    (h : M w0 B w (.row 3 1 kv s.keys.length (ints s.keys) :: .row 3 1 vv s.vals.length (ints s.vals) :: .row 3 1 bv s.bel.length (ints s.bel) :: .row 3 1 pv s.pts.length (ints s.pts) :: .row 3 1 xv s.sp.length (ints s.sp) :: .row 3 1 yv s.sv.length (ints s.sv) :: fr)) :
    Calls Tryz.prog 68 #[.agg #[.int .i64 s.kd, .int .i64 s.key, .int .i64 s.val, .int .i64 s.step, .int .i64 s.pg, kv, vv, bv, pv, .string s.sw, .int .i64 s.ver, xv, yv, .int .i64 s.laid, .int .i64 s.lv, .int .i64 s.low, .int .i64 s.ch, .int .i64 s.pt], .agg #[.int .i64 ver, .int .i64 0, .string t, .bool false]] w fun e w' => e = .returned (.tuple #[.string ⟨#[]⟩, .agg (ansG (fndB n.ks s.key n.ks.length) (fndV n.ks n.vs s.key n.ks.length) s.step), .bool true, .int .i64 0]) ∧ M w0 B w' fr := by
  obtain ⟨ak, ck, rfl⟩ := As.form0 (h.get (i := 0) rfl)
  obtain ⟨av, cv, rfl⟩ := As.form0 (h.get (i := 1) rfl)
  obtain ⟨ab, cb, rfl⟩ := As.form0 (h.get (i := 2) rfl)
  obtain ⟨ap, cp, rfl⟩ := As.form0 (h.get (i := 3) rfl)
  obtain ⟨ax, cx, rfl⟩ := As.form0 (h.get (i := 4) rfl)
  obtain ⟨ay, cy, rfl⟩ := As.form0 (h.get (i := 5) rfl)
  have htl : t.size ≤ 47 := by
    have := (len_packT n hu.1).2
    rw [hu.2, ba_size] at this; exact this
  have hr := right_bd n hu.1
  have HR := hideIt hr
  have HS := hideIt hs
  have HU := hideIt hu
  have hlv0 := hr.1
  have A0 := ((h.alloc #[.int .i64 s.kd, .int .i64 s.key, .int .i64 s.val, .int .i64 s.step, .int .i64 s.pg, .slice ak s.keys.length ck, .slice av s.vals.length cv, .slice ab s.bel.length cb, .slice ap s.pts.length cp, .string s.sw, .int .i64 s.ver, .slice ax s.sp.length cx, .slice ay s.sv.length cy, .int .i64 s.laid, .int .i64 s.lv, .int .i64 s.low, .int .i64 s.ch, .int .i64 s.pt] 92).alloc #[.int .i64 ver, .int .i64 0, .string t, .bool false] 99).alloc #[.int .i64 0, .bool false, .int .i64 0, .int .i64 0, .slice none 0 0, .slice none 0 0, .slice none 0 0] 46
  rw [alloc_size, alloc_size] at A0
  have CU := hideIt (fun W => unpack_any t W (by omega))
  have HT : Hid (∀ W l, M w0 B W l → Tab W) := fun W l hm => htab.below (hB ▸ hm.bl)
  have rt := A0.cell (i := 1) rfl 2 (.string t) rfl
  have A1 := hideIt A0
  have HGO := hideIt hgo
  have HK1 := hideIt hk1
  clear hs hu htab hB hr htl h A0 hgo hk1
  go_enter Tryz.func68, Tryz.ntmps68
  go_wp2_with fail
  refine (CU.out _).mono ?_
  rintro e w2 ⟨hR, hb⟩
  refine Or.elim hR (fun h1 => ?_) (fun h1 => absurd HU.out (h1.1 n))
  clear hR
  obtain ⟨n', kv2, vv2, hu', hO2, rfl⟩ := h1
  obtain rfl : n = n' := HU.out.uniq hu'
  have A3 := A1.out.join (Own.m2 hO2 hb)
  clear hO2 hb CU A1 rt hu'
  obtain ⟨na, nc, rfl⟩ := As.form0 (A3.get (i := 0) rfl)
  obtain ⟨nva, nvc, rfl⟩ := As.form0 (A3.get (i := 1) rfl)
  have A4 := hideIt (A3.alloc #[.int .i64 n.lv, .int .i64 n.lk, .int .i64 n.hi, .slice na n.ks.length nc, .slice nva n.vs.length nvc] 67)
  clear A3
  have HSV : Hid (∀ W (l : List As), M w0 B W l → As.row 3 1 (.slice ak s.keys.length ck) s.keys.length (ints s.keys) ∈ l → As.row 3 1 (.slice av s.vals.length cv) s.vals.length (ints s.vals) ∈ l → As.row 3 1 (.slice ab s.bel.length cb) s.bel.length (ints s.bel) ∈ l → As.row 3 1 (.slice ap s.pts.length cp) s.pts.length (ints s.pts) ∈ l → As.row 3 1 (.slice ax s.sp.length cx) s.sp.length (ints s.sp) ∈ l → As.row 3 1 (.slice ay s.sv.length cy) s.sv.length (ints s.sv) ∈ l → StV W s (.slice ak s.keys.length ck) (.slice av s.vals.length cv) (.slice ab s.bel.length cb) (.slice ap s.pts.length cp) (.slice ax s.sp.length cx) (.slice ay s.sv.length cy)) := by
    intro W l hW h1 h2 h3 h4 h5 h6
    exact ⟨owns_rd (hW.holds _ h1), owns_rd (hW.holds _ h2), owns_rd (hW.holds _ h3), owns_rd (hW.holds _ h4), owns_rd (hW.holds _ h5), owns_rd (hW.holds _ h6)⟩
  have HNR : Hid (∀ W (l : List As), M w0 B W l → As.row 3 1 (.slice na n.ks.length nc) n.ks.length (ints n.ks) ∈ l → As.row 3 1 (.slice nva n.vs.length nvc) n.vs.length (ints n.vs) ∈ l → Rd W (.slice na n.ks.length nc) n.ks ∧ Rd W (.slice nva n.vs.length nvc) n.vs) := fun W l hW h1 h2 => ⟨owns_rd (hW.holds _ h1), owns_rd (hW.holds _ h2)⟩
  obtain ⟨gx, hgx⟩ : ∃ g, w.heap.size = g := ⟨_, rfl⟩
  rw [hgx] at A4 ⊢
  clear hgx
  go_wp2_with (refine wpList_load_row rfl 92 _ rfl _ rfl 92 _ (0, 0) _ (A4.out.block (i := 5) rfl) Tryz.underlying92 rfl infoState ?_)
  refine (wanted_any s _ _ _ _ _ _ _ (HSV.out _ _ A4.out (by simp) (by simp) (by simp) (by simp) (by simp) (by simp)) HS.out.i).mono ?_
  rintro e w3 ⟨rfl, hb3⟩
  have A5 := hideIt (A4.out.below hb3)
  clear A4 hb3
  obtain ⟨L, hL⟩ : ∃ x, wantV s = x := ⟨_, rfl⟩
  rw [hL]
  have HL := hideIt hL
  clear hL
  have q0 := A5.out.cell (i := 5) rfl 0 (.int .i64 s.kd) rfl
  have q14 := A5.out.cell (i := 5) rfl 14 (.int .i64 s.lv) rfl
  have n0 := A5.out.cell (i := 0) rfl 0 (.int .i64 n.lv) rfl
  have n1 := A5.out.cell (i := 0) rfl 1 (.int .i64 n.lk) rfl
  have n2 := A5.out.cell (i := 0) rfl 2 (.int .i64 n.hi) rfl
  have n3 := A5.out.cell (i := 0) rfl 3 (.slice na n.ks.length nc) rfl
  have n4 := A5.out.cell (i := 0) rfl 4 (.slice nva n.vs.length nvc) rfl
  have hd1 : decide (s.lv < n.lv) = false := decide_eq_false (fun h => HGO.out (Or.inl h))
  have hd2 : decide (n.hi ≤ L) = false := decide_eq_false (fun h => HGO.out (Or.inr (by rw [HL.out]; exact h)))
  have hkb : (s.kd == 4) = false := by rw [HK1.out]; rfl
  have hkb2 : (s.kd == 2) = false := by rw [HK1.out]; rfl
  have hkb3 : (s.kd == 3) = false := by rw [HK1.out]; rfl
  have CS := lookUp_any s n _ _ _ _ _ _ _ _ w3 (HSV.out _ _ A5.out (by simp) (by simp) (by simp) (by simp) (by simp) (by simp)) (HNR.out _ _ A5.out (by simp) (by simp)).1 (HNR.out _ _ A5.out (by simp) (by simp)).2 HR.out.2.2.2.1 HR.out.2.2.2.2.1
  obtain ⟨fd, hfd⟩ : ∃ x, fndB n.ks s.key n.ks.length = x := ⟨_, rfl⟩
  obtain ⟨va, hva⟩ : ∃ x, fndV n.ks n.vs s.key n.ks.length = x := ⟨_, rfl⟩
  rw [hfd, hva] at CS
  have HCS := hideIt CS
  have HFD := hideIt hfd
  have HVA := hideIt hva
  clear CS hfd hva
  go_wp2_with (refine wpList_load_row rfl 92 _ rfl _ rfl 92 _ (0, 0) _ (A5.out.block (i := 5) rfl) Tryz.underlying92 rfl infoState ?_)
  refine HCS.out.mono ?_
  rintro e w5 ⟨rfl, hb5⟩
  have A7 := hideIt (A5.out.below hb5)
  clear hb5 A5 HCS q0 q14 n0 n1 n2 n3 n4
  rw [show ansG fd va s.step = #[.int .i64 0, .bool fd, .int .i64 va, .int .i64 s.step, .slice none 0 0, .slice none 0 0, .slice none 0 0] from rfl]
  have r0 := A7.out.cell (i := 3) rfl 0 (.int .i64 0) rfl
  have f0 := A7.out.free (i := 3) rfl 0
  have r1 := A7.out.cell (i := 3) rfl 1 (.bool false) rfl
  have f1 := A7.out.free (i := 3) rfl 1
  have r2 := A7.out.cell (i := 3) rfl 2 (.int .i64 0) rfl
  have f2 := A7.out.free (i := 3) rfl 2
  have r3 := A7.out.cell (i := 3) rfl 3 (.int .i64 0) rfl
  have f3 := A7.out.free (i := 3) rfl 3
  have r4 := A7.out.cell (i := 3) rfl 4 (.slice none 0 0) rfl
  have f4 := A7.out.free (i := 3) rfl 4
  have r5 := A7.out.cell (i := 3) rfl 5 (.slice none 0 0) rfl
  have f5 := A7.out.free (i := 3) rfl 5
  have r6 := A7.out.cell (i := 3) rfl 6 (.slice none 0 0) rfl
  have f6 := A7.out.free (i := 3) rfl 6
  have S7 := hideIt (A7.out.store7 (i := 3) rfl (.int .i64 0) (.bool fd) (.int .i64 va) (.int .i64 s.step) (.slice none 0 0) (.slice none 0 0) (.slice none 0 0))
  clear A7
  go_wp2
  refine bodyPost_ret (v := .tuple #[.string ⟨#[]⟩, .agg #[.int .i64 0, .bool fd, .int .i64 va, .int .i64 s.step, .slice none 0 0, .slice none 0 0, .slice none 0 0], .bool true, .int .i64 0]) (by simp [results, Tryz.results68, go_sem, *]) rfl ?_
  rw [HFD.out, HVA.out]
  exact ⟨rfl, S7.out.sub (.cons _ (.cons _ (.cons _ (.cons _ (.cons _ (.cons _ (.cons _ (.cons _ (.cons _ (.cons _ (.cons _ (.cons _ (List.Sublist.refl _)))))))))))))⟩
set_option maxRecDepth 100000 in
set_option maxHeartbeats 6400000 in
theorem tellRead_scan (s : St) (n : Nd) (kv vv bv pv xv yv : Value) (t : ByteArray) (ver : Int) (fr : List As) (w0 w : World) (B : Nat) (htab : Tab w0) (hB : B = w0.heap.size) (hs : StOk s) (hu : Unp t.data.toList n) (hgo : ¬ rdGo s n) (hk4 : s.kd = 4) (hst1 : s.step ≤ 1000000000) (hb63 : s.bel.length ≤ 63) (hsk : ∀ x ∈ s.keys, 0 ≤ x ∧ x ≤ 10000) (hlk : scEnd s n = false → 0 ≤ n.lk ∧ StI { scS s n with pg := n.lk, step := s.step + 1 })
    (h : M w0 B w (.row 3 1 kv s.keys.length (ints s.keys) :: .row 3 1 vv s.vals.length (ints s.vals) :: .row 3 1 bv s.bel.length (ints s.bel) :: .row 3 1 pv s.pts.length (ints s.pts) :: .row 3 1 xv s.sp.length (ints s.sp) :: .row 3 1 yv s.sv.length (ints s.sv) :: fr)) :
    Calls Tryz.prog 68 #[.agg #[.int .i64 s.kd, .int .i64 s.key, .int .i64 s.val, .int .i64 s.step, .int .i64 s.pg, kv, vv, bv, pv, .string s.sw, .int .i64 s.ver, xv, yv, .int .i64 s.laid, .int .i64 s.lv, .int .i64 s.low, .int .i64 s.ch, .int .i64 s.pt], .agg #[.int .i64 ver, .int .i64 0, .string t, .bool false]] w fun e w' => ScR (scO s n) w0 B w' fr e := by
  obtain ⟨ak, ck, rfl⟩ := As.form0 (h.get (i := 0) rfl)
  obtain ⟨av, cv, rfl⟩ := As.form0 (h.get (i := 1) rfl)
  obtain ⟨ab, cb, rfl⟩ := As.form0 (h.get (i := 2) rfl)
  obtain ⟨ap, cp, rfl⟩ := As.form0 (h.get (i := 3) rfl)
  obtain ⟨ax, cx, rfl⟩ := As.form0 (h.get (i := 4) rfl)
  obtain ⟨ay, cy, rfl⟩ := As.form0 (h.get (i := 5) rfl)
  have htl : t.size ≤ 47 := by
    have := (len_packT n hu.1).2
    rw [hu.2, ba_size] at this; exact this
  have hr := right_bd n hu.1
  have HR := hideIt hr
  have HS := hideIt hs
  have HU := hideIt hu
  have hlv0 := hr.1
  have A0 := ((h.alloc #[.int .i64 s.kd, .int .i64 s.key, .int .i64 s.val, .int .i64 s.step, .int .i64 s.pg, .slice ak s.keys.length ck, .slice av s.vals.length cv, .slice ab s.bel.length cb, .slice ap s.pts.length cp, .string s.sw, .int .i64 s.ver, .slice ax s.sp.length cx, .slice ay s.sv.length cy, .int .i64 s.laid, .int .i64 s.lv, .int .i64 s.low, .int .i64 s.ch, .int .i64 s.pt] 92).alloc #[.int .i64 ver, .int .i64 0, .string t, .bool false] 99).alloc #[.int .i64 0, .bool false, .int .i64 0, .int .i64 0, .slice none 0 0, .slice none 0 0, .slice none 0 0] 46
  rw [alloc_size, alloc_size] at A0
  have CU := hideIt (fun W => unpack_any t W (by omega))
  have HT : Hid (∀ W l, M w0 B W l → Tab W) := fun W l hm => htab.below (hB ▸ hm.bl)
  have rt := A0.cell (i := 1) rfl 2 (.string t) rfl
  have A1 := hideIt A0
  have HGO := hideIt hgo
  have HLK := hideIt hlk
  have HSK := hideIt hsk
  have hst0 := hs.step.1
  have hsp : s.sp = [] := by rcases hs.spk with h | h; exact absurd h (by omega); exact h
  have hsv : s.sv = [] := List.eq_nil_of_length_eq_zero (by have := hs.spl; rw [hsp] at this; exact this.symm)
  have HSP := hideIt hsp
  have HSV0 := hideIt hsv
  have HBB := hideIt (And.intro hB htab)
  have HK4 := hideIt hk4
  clear hs hu htab hB hr htl h A0 hgo hlk hsk hsp hsv hk4
  go_enter Tryz.func68, Tryz.ntmps68
  go_wp2_with fail
  refine (CU.out _).mono ?_
  rintro e w2 ⟨hR, hb⟩
  refine Or.elim hR (fun h1 => ?_) (fun h1 => absurd HU.out (h1.1 n))
  clear hR
  obtain ⟨n', kv2, vv2, hu', hO2, rfl⟩ := h1
  obtain rfl : n = n' := HU.out.uniq hu'
  have A3 := A1.out.join (Own.m2 hO2 hb)
  clear hO2 hb CU A1 rt hu'
  obtain ⟨na, nc, rfl⟩ := As.form0 (A3.get (i := 0) rfl)
  obtain ⟨nva, nvc, rfl⟩ := As.form0 (A3.get (i := 1) rfl)
  have A4 := hideIt (A3.alloc #[.int .i64 n.lv, .int .i64 n.lk, .int .i64 n.hi, .slice na n.ks.length nc, .slice nva n.vs.length nvc] 67)
  clear A3
  have HSV : Hid (∀ W (l : List As), M w0 B W l → As.row 3 1 (.slice ak s.keys.length ck) s.keys.length (ints s.keys) ∈ l → As.row 3 1 (.slice av s.vals.length cv) s.vals.length (ints s.vals) ∈ l → As.row 3 1 (.slice ab s.bel.length cb) s.bel.length (ints s.bel) ∈ l → As.row 3 1 (.slice ap s.pts.length cp) s.pts.length (ints s.pts) ∈ l → As.row 3 1 (.slice ax s.sp.length cx) s.sp.length (ints s.sp) ∈ l → As.row 3 1 (.slice ay s.sv.length cy) s.sv.length (ints s.sv) ∈ l → StV W s (.slice ak s.keys.length ck) (.slice av s.vals.length cv) (.slice ab s.bel.length cb) (.slice ap s.pts.length cp) (.slice ax s.sp.length cx) (.slice ay s.sv.length cy)) := by
    intro W l hW h1 h2 h3 h4 h5 h6
    exact ⟨owns_rd (hW.holds _ h1), owns_rd (hW.holds _ h2), owns_rd (hW.holds _ h3), owns_rd (hW.holds _ h4), owns_rd (hW.holds _ h5), owns_rd (hW.holds _ h6)⟩
  have HNR : Hid (∀ W (l : List As), M w0 B W l → As.row 3 1 (.slice na n.ks.length nc) n.ks.length (ints n.ks) ∈ l → As.row 3 1 (.slice nva n.vs.length nvc) n.vs.length (ints n.vs) ∈ l → Rd W (.slice na n.ks.length nc) n.ks ∧ Rd W (.slice nva n.vs.length nvc) n.vs) := fun W l hW h1 h2 => ⟨owns_rd (hW.holds _ h1), owns_rd (hW.holds _ h2)⟩
  obtain ⟨gx, hgx⟩ : ∃ g, w.heap.size = g := ⟨_, rfl⟩
  rw [hgx] at A4 ⊢
  clear hgx
  go_wp2_with (refine wpList_load_row rfl 92 _ rfl _ rfl 92 _ (0, 0) _ (A4.out.block (i := 5) rfl) Tryz.underlying92 rfl infoState ?_)
  refine (wanted_any s _ _ _ _ _ _ _ (HSV.out _ _ A4.out (by simp) (by simp) (by simp) (by simp) (by simp) (by simp)) HS.out.i).mono ?_
  rintro e w3 ⟨rfl, hb3⟩
  have A5 := hideIt (A4.out.below hb3)
  clear A4 hb3
  obtain ⟨L, hL⟩ : ∃ x, wantV s = x := ⟨_, rfl⟩
  rw [hL]
  have HL := hideIt hL
  clear hL
  have q0 := A5.out.cell (i := 5) rfl 0 (.int .i64 s.kd) rfl
  have q14 := A5.out.cell (i := 5) rfl 14 (.int .i64 s.lv) rfl
  have n0 := A5.out.cell (i := 0) rfl 0 (.int .i64 n.lv) rfl
  have n1 := A5.out.cell (i := 0) rfl 1 (.int .i64 n.lk) rfl
  have n2 := A5.out.cell (i := 0) rfl 2 (.int .i64 n.hi) rfl
  have n3 := A5.out.cell (i := 0) rfl 3 (.slice na n.ks.length nc) rfl
  have n4 := A5.out.cell (i := 0) rfl 4 (.slice nva n.vs.length nvc) rfl
  have hd1 : decide (s.lv < n.lv) = false := decide_eq_false (fun h => HGO.out (Or.inl h))
  have hd2 : decide (n.hi ≤ L) = false := decide_eq_false (fun h => HGO.out (Or.inr (by rw [HL.out]; exact h)))
  have hkb : (s.kd == 4) = true := by rw [HK4.out]; rfl
  have hop := HS.out.op
  simp only [opR, HK4.out, Bool.and_eq_true, Bool.or_eq_true, decide_eq_true_eq] at hop
  have A6 := (A5.out.mvAt (pre := []) (a := [_, _, _, _, _, _]) (b := [_, _, _, _])).mvAt (pre := [_, _, _, _]) (a := [_]) (b := [_, _])
  have e1 : s.vals.length = s.keys.length := HS.out.kl.symm
  have e2 : s.sp.length = 0 := by rw [HSP.out]; rfl
  have e3 : s.sv.length = 0 := by rw [HSV0.out]; rfl
  simp only [List.nil_append, List.cons_append, e1, e2, e3] at A6
  have CS := scanLeaf_any s n _ _ _ _ _ _ ax ay cx cy HSP.out HSV0.out _ w0 w3 B HBB.out.2 HBB.out.1 HS.out.i HS.out.kl HS.out.bl hb63 hst0 hst1 (by omega) (by omega) (by have := HR.out.2.2.1; omega) (by have := HR.out.2.2.1; omega) A6 HR.out.2.2.2.1 HR.out.2.2.2.2.1 (fun x hx => by have := HR.out.2.2.2.2.2.2.1 x hx; omega) HSK.out HLK.out
  have A5o := A5.out
  simp only [e1, e2, e3] at A5o
  have A5b := hideIt A5o
  clear A5o
  obtain ⟨o, ho⟩ : ∃ o, scO s n = o := ⟨_, rfl⟩
  rw [ho] at CS
  have HCS := hideIt CS
  have HO := hideIt ho
  clear CS ho hop A6 e1 e2 e3
  rcases o.is with ⟨s', rfl⟩ | ⟨fd, va, pt, ks, vs, cs, rfl⟩
  · go_wp2_with (refine wpList_load_row rfl 92 _ rfl _ rfl 92 _ (0, 0) _ (A5b.out.block (i := 5) rfl) Tryz.underlying92 rfl infoState ?_)
    refine HCS.out.mono ?_
    rintro e w5 ⟨⟨c5, rfl, hc5⟩, hM5⟩
    have A7 := hideIt hM5
    have HC5 := hideIt hc5
    clear hc5 hM5 A5 A5b HCS q0 q14 n0 n1 n2 n3 n4
    have r0 := A7.out.cell (i := 1) rfl 0 (.int .i64 0) rfl
    have f0 := A7.out.free (i := 1) rfl 0
    have r1 := A7.out.cell (i := 1) rfl 1 (.bool false) rfl
    have f1 := A7.out.free (i := 1) rfl 1
    have r2 := A7.out.cell (i := 1) rfl 2 (.int .i64 0) rfl
    have f2 := A7.out.free (i := 1) rfl 2
    have r3 := A7.out.cell (i := 1) rfl 3 (.int .i64 0) rfl
    have f3 := A7.out.free (i := 1) rfl 3
    have r4 := A7.out.cell (i := 1) rfl 4 (.slice none 0 0) rfl
    have f4 := A7.out.free (i := 1) rfl 4
    have r5 := A7.out.cell (i := 1) rfl 5 (.slice none 0 0) rfl
    have f5 := A7.out.free (i := 1) rfl 5
    have r6 := A7.out.cell (i := 1) rfl 6 (.slice none 0 0) rfl
    have f6 := A7.out.free (i := 1) rfl 6
    have S7 := hideIt (A7.out.store7 (i := 1) rfl (.int .i64 0) (.bool false) (.int .i64 0) (.int .i64 0) (.slice none 0 0) (.slice none 0 0) (.slice none 0 0))
    clear A7
    rw [show ans0 = #[.int .i64 0, .bool false, .int .i64 0, .int .i64 0, .slice none 0 0, .slice none 0 0, .slice none 0 0] from rfl]
    go_wp2
    refine bodyPost_ret (v := .tuple #[.string c5, .agg #[.int .i64 0, .bool false, .int .i64 0, .int .i64 0, .slice none 0 0, .slice none 0 0, .slice none 0 0], .bool false, .int .i64 0]) (by simp [results, Tryz.results68, go_sem, *]) rfl ?_
    rw [HO.out]
    exact ⟨⟨c5, rfl, HC5.out⟩, S7.out.sub (.cons _ (.cons _ (.cons _ (.cons _ (.cons _ (.cons _ (List.Sublist.refl _)))))))⟩
  · go_wp2_with (refine wpList_load_row rfl 92 _ rfl _ rfl 92 _ (0, 0) _ (A5b.out.block (i := 5) rfl) Tryz.underlying92 rfl infoState ?_)
    refine HCS.out.mono ?_
    rintro e w5 ⟨kv5, vv5, cv5, rfl, hM5⟩
    obtain ⟨a5, b5, rfl⟩ := As.form0 (hM5.get (i := 0) rfl)
    obtain ⟨a6, b6, rfl⟩ := As.form0 (hM5.get (i := 1) rfl)
    obtain ⟨a7, b7, rfl⟩ := As.form0 (hM5.get (i := 2) rfl)
    have A7 := hideIt hM5
    clear hM5 A5 A5b HCS q0 q14 n0 n1 n2 n3 n4
    have r0 := A7.out.cell (i := 4) rfl 0 (.int .i64 0) rfl
    have f0 := A7.out.free (i := 4) rfl 0
    have r1 := A7.out.cell (i := 4) rfl 1 (.bool false) rfl
    have f1 := A7.out.free (i := 4) rfl 1
    have r2 := A7.out.cell (i := 4) rfl 2 (.int .i64 0) rfl
    have f2 := A7.out.free (i := 4) rfl 2
    have r3 := A7.out.cell (i := 4) rfl 3 (.int .i64 0) rfl
    have f3 := A7.out.free (i := 4) rfl 3
    have r4 := A7.out.cell (i := 4) rfl 4 (.slice none 0 0) rfl
    have f4 := A7.out.free (i := 4) rfl 4
    have r5 := A7.out.cell (i := 4) rfl 5 (.slice none 0 0) rfl
    have f5 := A7.out.free (i := 4) rfl 5
    have r6 := A7.out.cell (i := 4) rfl 6 (.slice none 0 0) rfl
    have f6 := A7.out.free (i := 4) rfl 6
    have S7 := hideIt (A7.out.store7 (i := 4) rfl (.int .i64 0) (.bool fd) (.int .i64 va) (.int .i64 pt) (.slice a5 ks.length b5) (.slice a6 vs.length b6) (.slice a7 cs.length b7))
    clear A7
    go_wp2
    refine bodyPost_ret (v := .tuple #[.string ⟨#[]⟩, .agg #[.int .i64 0, .bool fd, .int .i64 va, .int .i64 pt, .slice a5 ks.length b5, .slice a6 vs.length b6, .slice a7 cs.length b7], .bool true, .int .i64 0]) (by simp [results, Tryz.results68, go_sem, *]) rfl ?_
    rw [HO.out]
    exact ⟨_, _, _, rfl, S7.out.sub (.cons_cons _ (.cons_cons _ (.cons_cons _ (.cons _ (.cons _ (.cons _ (.cons _ (.cons _ (.cons _ (List.Sublist.refl _))))))))))⟩
def Res : Type := St ⊕ (Int × Bool × Int × Int × List Int × List Int × List (Int × Int))
def Res.on (s : St) : Res := Sum.inl s
def Res.fin (er : Int) (fd : Bool) (va pt : Int) (ks vs : List Int) (cs : List (Int × Int)) : Res := Sum.inr (er, fd, va, pt, ks, vs, cs)
theorem Res.is (o : Res) : (∃ s, o = .on s) ∨ ∃ er fd va pt ks vs cs, o = .fin er fd va pt ks vs cs := by
  rcases o with s | ⟨er, fd, va, pt, ks, vs, cs⟩
  · exact Or.inl ⟨s, rfl⟩
  · exact Or.inr ⟨er, fd, va, pt, ks, vs, cs, rfl⟩
def ResM (o : Res) (w0 : World) (B : Nat) (w' : World) (fr : List As) (e : Ending) : Prop :=
  match o with
  | .inl s' => OnR s' e ∧ M w0 B w' fr
  | .inr (er, fd, va, pt, ks, vs, cs) => ∃ kv' vv' cv', e = .returned (.tuple #[.string ⟨#[]⟩, .agg #[.int .i64 er, .bool fd, .int .i64 va, .int .i64 pt, kv', vv', cv'], .bool true, .int .i64 0]) ∧ M w0 B w' (.row 3 1 kv' ks.length (ints ks) :: .row 3 1 vv' vs.length (ints vs) :: .row 76 2 cv' cs.length (cutc cs) :: fr)
set_option maxRecDepth 100000 in
set_option maxHeartbeats 6400000 in
theorem tell_pass (s : St) (f t : ByteArray) (ver : Int) (o : Res) (w : World) (hf : f.data.toList = frT s) (hs : StOk s) (hsw : s.sw = ⟨#[]⟩)
    (hC : ∀ kv vv bv pv xv yv fr W, M w w.heap.size W (.row 3 1 kv s.keys.length (ints s.keys) :: .row 3 1 vv s.vals.length (ints s.vals) :: .row 3 1 bv s.bel.length (ints s.bel) :: .row 3 1 pv s.pts.length (ints s.pts) :: .row 3 1 xv s.sp.length (ints s.sp) :: .row 3 1 yv s.sv.length (ints s.sv) :: fr) → Calls Tryz.prog 68 #[.agg #[.int .i64 s.kd, .int .i64 s.key, .int .i64 s.val, .int .i64 s.step, .int .i64 s.pg, kv, vv, bv, pv, .string s.sw, .int .i64 s.ver, xv, yv, .int .i64 s.laid, .int .i64 s.lv, .int .i64 s.low, .int .i64 s.ch, .int .i64 s.pt], .agg #[.int .i64 ver, .int .i64 0, .string t, .bool false]] W fun e w' => ResM o w w.heap.size w' fr e) :
    Calls Tryz.prog 47 #[.string f, .agg #[.int .i64 ver, .int .i64 0, .string t, .bool false]] w fun e w' => ResM o w w.heap.size w' [] e := by
  have A0 := hideIt (((M.start w).alloc #[.int .i64 ver, .int .i64 0, .string t, .bool false] 99).alloc #[.int .i64 0, .bool false, .int .i64 0, .int .i64 0, .slice none 0 0, .slice none 0 0, .slice none 0 0] 46)
  rw [alloc_size] at A0
  have CR := hideIt (fun W => readFrame_yes s f W hf hs)
  have HC := hideIt hC
  have hsb : s.sw.toList.isEmpty = true := by rw [hsw, ByteArray.toList_eq]; rfl
  clear hf hs hC hsw
  go_enter Tryz.func47, Tryz.ntmps47
  go_wp2_with fail
  refine (CR.out _).mono ?_
  rintro e w1 ⟨⟨kv, vv, bv, pv, xv, yv, hO, rfl⟩, hb⟩
  have A1 := A0.out.join (hO.m hb)
  clear hO hb CR
  obtain ⟨ak, ck, rfl⟩ := As.form0 (A1.get (i := 0) rfl)
  obtain ⟨av, cv, rfl⟩ := As.form0 (A1.get (i := 1) rfl)
  obtain ⟨ab, cb, rfl⟩ := As.form0 (A1.get (i := 2) rfl)
  obtain ⟨ap, cp, rfl⟩ := As.form0 (A1.get (i := 3) rfl)
  obtain ⟨ax, cx, rfl⟩ := As.form0 (A1.get (i := 4) rfl)
  obtain ⟨ay, cy, rfl⟩ := As.form0 (A1.get (i := 5) rfl)
  have A2 := hideIt (A1.alloc #[.int .i64 s.kd, .int .i64 s.key, .int .i64 s.val, .int .i64 s.step, .int .i64 s.pg, .slice ak s.keys.length ck, .slice av s.vals.length cv, .slice ab s.bel.length cb, .slice ap s.pts.length cp, .string s.sw, .int .i64 s.ver, .slice ax s.sp.length cx, .slice ay s.sv.length cy, .int .i64 s.laid, .int .i64 s.lv, .int .i64 s.low, .int .i64 s.ch, .int .i64 s.pt] 92)
  clear A0 A1
  have q9 := A2.out.cell (i := 0) rfl 9 (.string s.sw) rfl
  have rt0 := A2.out.cell (i := 8) rfl 0 (.int .i64 ver) rfl
  have rt1 := A2.out.cell (i := 8) rfl 1 (.int .i64 0) rfl
  have rt2 := A2.out.cell (i := 8) rfl 2 (.string t) rfl
  have rt3 := A2.out.cell (i := 8) rfl 3 (.bool false) rfl
  have A3 := A2.out.mvAt (pre := []) (a := [_]) (b := [_, _, _, _, _, _])
  simp only [List.nil_append, List.cons_append] at A3
  have HCC := hideIt (HC.out _ _ _ _ _ _ _ _ A3)
  clear HC A3
  rcases o.is with ⟨s', rfl⟩ | ⟨er, fd, va, pt, ks, vs, cs, rfl⟩
  · go_wp2_with (refine wpList_load_row rfl 92 _ rfl _ rfl 92 _ (0, 0) _ (A2.out.block (i := 0) rfl) Tryz.underlying92 rfl infoState ?_)
    refine HCC.out.mono ?_
    rintro e w5 ⟨⟨c5, rfl, hc5⟩, hM5⟩
    have A7 := hideIt hM5
    have HC5 := hideIt hc5
    clear hc5 hM5 A2 HCC q9 rt0 rt1 rt2 rt3
    have r0 := A7.out.cell (i := 1) rfl 0 (.int .i64 0) rfl
    have f0 := A7.out.free (i := 1) rfl 0
    have r1 := A7.out.cell (i := 1) rfl 1 (.bool false) rfl
    have f1 := A7.out.free (i := 1) rfl 1
    have r2 := A7.out.cell (i := 1) rfl 2 (.int .i64 0) rfl
    have f2 := A7.out.free (i := 1) rfl 2
    have r3 := A7.out.cell (i := 1) rfl 3 (.int .i64 0) rfl
    have f3 := A7.out.free (i := 1) rfl 3
    have r4 := A7.out.cell (i := 1) rfl 4 (.slice none 0 0) rfl
    have f4 := A7.out.free (i := 1) rfl 4
    have r5 := A7.out.cell (i := 1) rfl 5 (.slice none 0 0) rfl
    have f5 := A7.out.free (i := 1) rfl 5
    have r6 := A7.out.cell (i := 1) rfl 6 (.slice none 0 0) rfl
    have f6 := A7.out.free (i := 1) rfl 6
    have S7 := hideIt (A7.out.store7 (i := 1) rfl (.int .i64 0) (.bool false) (.int .i64 0) (.int .i64 0) (.slice none 0 0) (.slice none 0 0) (.slice none 0 0))
    clear A7
    rw [show ans0 = #[.int .i64 0, .bool false, .int .i64 0, .int .i64 0, .slice none 0 0, .slice none 0 0, .slice none 0 0] from rfl]
    go_wp2
    refine bodyPost_ret (v := .tuple #[.string c5, .agg #[.int .i64 0, .bool false, .int .i64 0, .int .i64 0, .slice none 0 0, .slice none 0 0, .slice none 0 0], .bool false, .int .i64 0]) (by simp [results, Tryz.results47, go_sem, *]) rfl ?_
    exact ⟨⟨c5, rfl, HC5.out⟩, S7.out.sub (List.nil_sublist _)⟩
  · go_wp2_with (refine wpList_load_row rfl 92 _ rfl _ rfl 92 _ (0, 0) _ (A2.out.block (i := 0) rfl) Tryz.underlying92 rfl infoState ?_)
    refine HCC.out.mono ?_
    rintro e w5 ⟨kv5, vv5, cv5, rfl, hM5⟩
    obtain ⟨a5, b5, rfl⟩ := As.form0 (hM5.get (i := 0) rfl)
    obtain ⟨a6, b6, rfl⟩ := As.form0 (hM5.get (i := 1) rfl)
    obtain ⟨a7, b7, rfl⟩ := As.form0 (hM5.get (i := 2) rfl)
    have A7 := hideIt hM5
    clear hM5 A2 HCC q9 rt0 rt1 rt2 rt3
    have r0 := A7.out.cell (i := 4) rfl 0 (.int .i64 0) rfl
    have f0 := A7.out.free (i := 4) rfl 0
    have r1 := A7.out.cell (i := 4) rfl 1 (.bool false) rfl
    have f1 := A7.out.free (i := 4) rfl 1
    have r2 := A7.out.cell (i := 4) rfl 2 (.int .i64 0) rfl
    have f2 := A7.out.free (i := 4) rfl 2
    have r3 := A7.out.cell (i := 4) rfl 3 (.int .i64 0) rfl
    have f3 := A7.out.free (i := 4) rfl 3
    have r4 := A7.out.cell (i := 4) rfl 4 (.slice none 0 0) rfl
    have f4 := A7.out.free (i := 4) rfl 4
    have r5 := A7.out.cell (i := 4) rfl 5 (.slice none 0 0) rfl
    have f5 := A7.out.free (i := 4) rfl 5
    have r6 := A7.out.cell (i := 4) rfl 6 (.slice none 0 0) rfl
    have f6 := A7.out.free (i := 4) rfl 6
    have S7 := hideIt (A7.out.store7 (i := 4) rfl (.int .i64 er) (.bool fd) (.int .i64 va) (.int .i64 pt) (.slice a5 ks.length b5) (.slice a6 vs.length b6) (.slice a7 cs.length b7))
    clear A7
    go_wp2
    refine bodyPost_ret (v := .tuple #[.string ⟨#[]⟩, .agg #[.int .i64 er, .bool fd, .int .i64 va, .int .i64 pt, .slice a5 ks.length b5, .slice a6 vs.length b6, .slice a7 cs.length b7], .bool true, .int .i64 0]) (by simp [results, Tryz.results47, go_sem, *]) rfl ?_
    exact ⟨_, _, _, rfl, S7.out.sub (.cons_cons _ (.cons_cons _ (.cons_cons _ (List.nil_sublist _))))⟩
theorem tell_on (s : St) (n : Nd) (f t : ByteArray) (ver : Int) (w : World) (htab : Tab w) (hf : f.data.toList = frT s) (hs : StOk s) (hu : Unp t.data.toList n) (hsw : s.sw = ⟨#[]⟩) (hgo : rdGo s n) (hst1 : s.step ≤ 1000000000) (hnx : 0 ≤ onwV n (wantV s)) (hI : StI { s with pg := onwV n (wantV s), step := s.step + 1 }) :
    Calls Tryz.prog 47 #[.string f, .agg #[.int .i64 ver, .int .i64 0, .string t, .bool false]] w fun e w' => ResM (.on { s with pg := onwV n (wantV s), step := s.step + 1 }) w w.heap.size w' [] e :=
  tell_pass s f t ver _ w hf hs hsw fun kv vv bv pv xv yv fr W hM => tellRead_on s n kv vv bv pv xv yv t ver fr w W _ htab rfl hs hu hgo hst1 hnx hI hM
theorem tell_get (s : St) (n : Nd) (f t : ByteArray) (ver : Int) (w : World) (htab : Tab w) (hf : f.data.toList = frT s) (hs : StOk s) (hu : Unp t.data.toList n) (hsw : s.sw = ⟨#[]⟩) (hgo : ¬ rdGo s n) (hk1 : s.kd = 1) :
    Calls Tryz.prog 47 #[.string f, .agg #[.int .i64 ver, .int .i64 0, .string t, .bool false]] w fun e w' => ResM (.fin 0 (fndB n.ks s.key n.ks.length) (fndV n.ks n.vs s.key n.ks.length) s.step [] [] []) w w.heap.size w' [] e :=
  tell_pass s f t ver _ w hf hs hsw fun kv vv bv pv xv yv fr W hM => (tellRead_get s n kv vv bv pv xv yv t ver fr w W _ htab rfl hs hu hgo hk1 hM).mono fun _ _ ⟨he, hM'⟩ => ⟨_, _, _, he, M.consNil (M.consNil (M.consNil hM'))⟩
def Out.res : Out → Res
  | .inl s => .inl s
  | .inr r => .inr (0, r)
theorem ScR.res {o : Out} {w0 w' : World} {B : Nat} {fr : List As} {e : Ending} (h : ScR o w0 B w' fr e) : ResM o.res w0 B w' fr e := by
  cases o with
  | inl s' => exact h
  | inr r => exact h
theorem tell_scan (s : St) (n : Nd) (f t : ByteArray) (ver : Int) (w : World) (htab : Tab w) (hf : f.data.toList = frT s) (hs : StOk s) (hu : Unp t.data.toList n) (hsw : s.sw = ⟨#[]⟩) (hgo : ¬ rdGo s n) (hk4 : s.kd = 4) (hst1 : s.step ≤ 1000000000) (hb63 : s.bel.length ≤ 63) (hsk : ∀ x ∈ s.keys, 0 ≤ x ∧ x ≤ 10000) (hlk : scEnd s n = false → 0 ≤ n.lk ∧ StI { scS s n with pg := n.lk, step := s.step + 1 }) :
    Calls Tryz.prog 47 #[.string f, .agg #[.int .i64 ver, .int .i64 0, .string t, .bool false]] w fun e w' => ResM (scO s n).res w w.heap.size w' [] e :=
  tell_pass s f t ver _ w hf hs hsw fun kv vv bv pv xv yv fr W hM => (tellRead_scan s n kv vv bv pv xv yv t ver fr w W _ htab rfl hs hu hgo hk4 hst1 hb63 hsk hlk hM).mono fun _ _ h => h.res
def entV (s : St) : Int := if 0 < s.lv then s.ch else s.val
set_option maxRecDepth 100000 in
theorem entered_any (s : St) (kv vv bv pv xv yv : Value) (w : World) (hv : StV w s kv vv bv pv xv yv) :
    Calls Tryz.prog 102 #[.agg #[.int .i64 s.kd, .int .i64 s.key, .int .i64 s.val, .int .i64 s.step, .int .i64 s.pg, kv, vv, bv, pv, .string s.sw, .int .i64 s.ver, xv, yv, .int .i64 s.laid, .int .i64 s.lv, .int .i64 s.low, .int .i64 s.ch, .int .i64 s.pt]] w fun e w' => e = .returned (.int .i64 (entV s)) ∧ Below w.heap.size w w' := by
  obtain ⟨ak, ck, rfl⟩ := hv.keys.len
  obtain ⟨av, cv, rfl⟩ := hv.vals.len
  obtain ⟨ab, cb, rfl⟩ := hv.bel.len
  obtain ⟨ap, cp, rfl⟩ := hv.pts.len
  obtain ⟨ax, cx, rfl⟩ := hv.sp.len
  obtain ⟨ay, cy, rfl⟩ := hv.sv.len
  have B0 : ∀ o, Hid (Below w.heap.size w (w.alloc o)) := fun o => (Below.refl _ _).alloc (Nat.le_refl _) o
  clear hv
  by_cases hlv : 0 < s.lv
  · have HW : Hid (entV s = s.ch) := by unfold Hid entV; rw [if_pos hlv]
    go_enter Tryz.func102, Tryz.ntmps102
    go_wp2
    go_ret
    exact ⟨ret_int HW.out.symm, (B0 _).out⟩
  · have HW : Hid (entV s = s.val) := by unfold Hid entV; rw [if_neg hlv]
    have hlv2 : decide (0 < s.lv) = false := decide_eq_false hlv
    clear hlv
    go_enter Tryz.func102, Tryz.ntmps102
    go_wp2
    go_ret
    exact ⟨ret_int HW.out.symm, (B0 _).out⟩
def pgsV (s : St) : Int := if s.pg = 0 then 2 else 1
set_option maxRecDepth 100000 in
theorem pagesToSplit_any (s : St) (kv vv bv pv xv yv : Value) (w : World) (hv : StV w s kv vv bv pv xv yv) :
    Calls Tryz.prog 84 #[.agg #[.int .i64 s.kd, .int .i64 s.key, .int .i64 s.val, .int .i64 s.step, .int .i64 s.pg, kv, vv, bv, pv, .string s.sw, .int .i64 s.ver, xv, yv, .int .i64 s.laid, .int .i64 s.lv, .int .i64 s.low, .int .i64 s.ch, .int .i64 s.pt]] w fun e w' => e = .returned (.int .i64 (pgsV s)) ∧ Below w.heap.size w w' := by
  obtain ⟨ak, ck, rfl⟩ := hv.keys.len
  obtain ⟨av, cv, rfl⟩ := hv.vals.len
  obtain ⟨ab, cb, rfl⟩ := hv.bel.len
  obtain ⟨ap, cp, rfl⟩ := hv.pts.len
  obtain ⟨ax, cx, rfl⟩ := hv.sp.len
  obtain ⟨ay, cy, rfl⟩ := hv.sv.len
  have B0 : ∀ o, Hid (Below w.heap.size w (w.alloc o)) := fun o => (Below.refl _ _).alloc (Nat.le_refl _) o
  clear hv
  by_cases hp : s.pg = 0
  · have HW : Hid (pgsV s = 2) := by unfold Hid pgsV; rw [if_pos hp]
    have hpb : (s.pg == 0) = true := by simp [hp]
    clear hp
    go_enter Tryz.func84, Tryz.ntmps84
    go_wp2
    go_ret
    exact ⟨ret_int HW.out.symm, (B0 _).out⟩
  · have HW : Hid (pgsV s = 1) := by unfold Hid pgsV; rw [if_neg hp]
    have hpb : (s.pg == 0) = false := by simp [hp]
    clear hp
    go_enter Tryz.func84, Tryz.ntmps84
    go_wp2
    go_ret
    exact ⟨ret_int HW.out.symm, (B0 _).out⟩
def crowd (lv : Int) (l : Nat) : Bool := if lv = 0 then decide (5 < l) else decide (6 < l)
set_option maxRecDepth 100000 in
theorem crowded_any (lv lk hi : Int) (l : Nat) (ka va : Option Addr) (kc vl vc : Nat) (w : World) (hl : l ≤ 100) :
    Calls Tryz.prog 83 #[.agg #[.int .i64 lv, .int .i64 lk, .int .i64 hi, .slice ka l kc, .slice va vl vc]] w fun e w' => e = .returned (.bool (crowd lv l)) ∧ Below w.heap.size w w' := by
  have B0 : ∀ o, Hid (Below w.heap.size w (w.alloc o)) := fun o => (Below.refl _ _).alloc (Nat.le_refl _) o
  by_cases h0 : lv = 0
  · have HW : Hid (crowd lv l = decide (5 < l)) := by unfold Hid crowd; rw [if_pos h0]
    have hb : (lv == 0) = true := by simp [h0]
    clear h0
    go_enter Tryz.func83, Tryz.ntmps83
    go_wp2
    all_goals
      go_ret
      refine ⟨ret_bool ?_, (B0 _).out⟩
      rw [HW.out]
      simp
      try omega
  · have HW : Hid (crowd lv l = decide (6 < l)) := by unfold Hid crowd; rw [if_neg h0]
    have hb : (lv == 0) = false := by simp [h0]
    clear h0
    go_enter Tryz.func83, Tryz.ntmps83
    go_wp2
    all_goals
      go_ret
      refine ⟨ret_bool ?_, (B0 _).out⟩
      rw [HW.out]
      simp
      try omega
structure RowsIn (s : St) (kv vv bv pv xv yv : Value) (fr : List As) : Prop where
  keys : .row 3 1 kv s.keys.length (ints s.keys) ∈ fr
  vals : .row 3 1 vv s.vals.length (ints s.vals) ∈ fr
  bel : .row 3 1 bv s.bel.length (ints s.bel) ∈ fr
  pts : .row 3 1 pv s.pts.length (ints s.pts) ∈ fr
  sp : .row 3 1 xv s.sp.length (ints s.sp) ∈ fr
  sv : .row 3 1 yv s.sv.length (ints s.sv) ∈ fr
theorem RowsIn.stv {s : St} {kv vv bv pv xv yv : Value} {fr l : List As} {w0 w : World} {B : Nat} (h : RowsIn s kv vv bv pv xv yv fr) (hM : M w0 B w l) (hl : ∀ a ∈ fr, a ∈ l) : StV w s kv vv bv pv xv yv :=
  ⟨owns_rd (hM.holds _ (hl _ h.keys)), owns_rd (hM.holds _ (hl _ h.vals)), owns_rd (hM.holds _ (hl _ h.bel)), owns_rd (hM.holds _ (hl _ h.pts)), owns_rd (hM.holds _ (hl _ h.sp)), owns_rd (hM.holds _ (hl _ h.sv))⟩
theorem RowsIn.sub {s : St} {kv vv bv pv xv yv : Value} {fr l : List As} (h : RowsIn s kv vv bv pv xv yv fr) (hl : ∀ a ∈ fr, a ∈ l) : RowsIn s kv vv bv pv xv yv l := ⟨hl _ h.keys, hl _ h.vals, hl _ h.bel, hl _ h.pts, hl _ h.sp, hl _ h.sv⟩
set_option maxRecDepth 100000 in
set_option maxHeartbeats 6400000 in
theorem changed_any (n : Nd) (s : St) (kv vv bv pv xv yv ka va : Value) (fr : List As) (w0 w : World) (B : Nat) (hI : StI s) (hk : s.kd = 2 ∨ s.kd = 3) (hkey : 0 ≤ wantV s) (hkey2 : wantV s ≤ 9999)
    (h : M w0 B w fr) (hR : RowsIn s kv vv bv pv xv yv fr) (hka : .row 3 1 ka n.ks.length (ints n.ks) ∈ fr) (hva : .row 3 1 va n.vs.length (ints n.vs) ∈ fr) (hn : n.ks.length = n.vs.length) (h6 : n.ks.length ≤ 6) (ht6 : (tkK n.ks 0 (wantV s) [] n.ks.length).length ≤ 6) :
    Calls Tryz.prog 82 #[.agg #[.int .i64 n.lv, .int .i64 n.lk, .int .i64 n.hi, ka, va], .agg #[.int .i64 s.kd, .int .i64 s.key, .int .i64 s.val, .int .i64 s.step, .int .i64 s.pg, kv, vv, bv, pv, .string s.sw, .int .i64 s.ver, xv, yv, .int .i64 s.laid, .int .i64 s.lv, .int .i64 s.low, .int .i64 s.ch, .int .i64 s.pt]] w fun e w' => ∃ kv' vv' l, e = .returned (.agg #[.int .i64 n.lv, .int .i64 n.lk, .int .i64 n.hi, kv', vv']) ∧ (chK n s.kd (wantV s)).length = l ∧ (chV n s.kd (wantV s) (entV s)).length = l ∧ l ≤ 14 ∧
      M w0 B w' (.row 3 1 kv' l (ints (chK n s.kd (wantV s))) :: .row 3 1 vv' l (ints (chV n s.kd (wantV s) (entV s))) :: fr) := by
  obtain ⟨i0, hi0, hz0, hz1, hz2⟩ := info_parts infoInt
  obtain ⟨na, nc, rfl⟩ := As.form0 (h.holds _ hka)
  obtain ⟨nva, nvc, rfl⟩ := As.form0 (h.holds _ hva)
  obtain ⟨ak, ck, rfl⟩ := As.form0 (h.holds _ hR.keys)
  obtain ⟨av, cv, rfl⟩ := As.form0 (h.holds _ hR.vals)
  obtain ⟨ab, cb, rfl⟩ := As.form0 (h.holds _ hR.bel)
  obtain ⟨ap, cp, rfl⟩ := As.form0 (h.holds _ hR.pts)
  obtain ⟨ax, cx, rfl⟩ := As.form0 (h.holds _ hR.sp)
  obtain ⟨ay, cy, rfl⟩ := As.form0 (h.holds _ hR.sv)
  have A0 := hideIt (((h.alloc #[.int .i64 n.lv, .int .i64 n.lk, .int .i64 n.hi, .slice na n.ks.length nc, .slice nva n.vs.length nvc] 67).alloc #[.int .i64 s.kd, .int .i64 s.key, .int .i64 s.val, .int .i64 s.step, .int .i64 s.pg, .slice ak s.keys.length ck, .slice av s.vals.length cv, .slice ab s.bel.length cb, .slice ap s.pts.length cp, .string s.sw, .int .i64 s.ver, .slice ax s.sp.length cx, .slice ay s.sv.length cy, .int .i64 s.laid, .int .i64 s.lv, .int .i64 s.low, .int .i64 s.ch, .int .i64 s.pt] 92).alloc #[.int .i64 0, .int .i64 0, .int .i64 0, .slice none 0 0, .slice none 0 0] 67)
  rw [alloc_size, alloc_size] at A0
  have HR := hideIt hR
  have HI := hideIt hI
  have HKA := hideIt hka
  have HVA := hideIt hva
  have HN := hideIt hn
  have HCH : Hid (chK n s.kd (wantV s) = tkK n.ks (wantV s + 1) n.hi (tkK n.ks 0 (wantV s) [] n.ks.length ++ (if s.kd = 2 then [wantV s] else [])) n.ks.length ∧ chV n s.kd (wantV s) (entV s) = tkV n.ks n.vs (wantV s + 1) n.hi (tkV n.ks n.vs 0 (wantV s) [] n.ks.length ++ (if s.kd = 2 then [entV s] else [])) n.ks.length) := ⟨rfl, rfl⟩
  have HK := hideIt hk
  clear h hka hva hn hR hI hk
  go_enter Tryz.func82, Tryz.ntmps82
  go_wp2_with (refine wpList_load_row rfl 92 _ rfl _ rfl 92 _ (0, 0) _ (A0.out.block (i := 1) rfl) Tryz.underlying92 rfl infoState ?_)
  refine (wanted_any s _ _ _ _ _ _ _ (HR.out.stv A0.out (fun a ha => by simp [ha])) HI.out).mono ?_
  rintro e w1 ⟨rfl, hb⟩
  obtain ⟨key, hkq⟩ : ∃ x, wantV s = x := ⟨_, rfl⟩
  obtain ⟨v, hvq⟩ : ∃ x, entV s = x := ⟨_, rfl⟩
  have HKQ := hideIt hkq
  have HVQ := hideIt hvq
  rw [hkq] at hkey hkey2 ht6 HCH ⊢
  rw [hvq] at HCH
  have A1 := (A0.out.below hb).alloc #[.int .i64 n.lv, .int .i64 n.lk, .int .i64 n.hi, .slice none 0 0, .slice none 0 0] 67
  have c := fun j v hv => (A0.out.below hb).cell (i := 2) rfl j v hv
  have n0 := c 0 (.int .i64 n.lv) rfl
  have n1 := c 1 (.int .i64 n.lk) rfl
  have n2 := c 2 (.int .i64 n.hi) rfl
  have n3 := c 3 (.slice na n.ks.length nc) rfl
  have n4 := c 4 (.slice nva n.vs.length nvc) rfl
  have hszl := (A0.out.below hb).lt (i := 2) rfl
  have A1 := M.rowNil (e := 3) (z := 1) (M.rowNil (e := 3) (z := 1) A1)
  have CT := hideIt (takeOver_any _ 0 n n.lv n.lk n.hi 0 key [] [] (.slice none 0 0) (.slice none 0 0) (.slice na n.ks.length nc) (.slice nva n.vs.length nvc) _ w0 _ B rfl rfl (by omega) A1 (by simp [HKA.out]) (by simp [HVA.out]) HN.out (by omega))
  clear c A0 A1 hb hkq hvq
  go_wp2_with fail
  refine CT.out.mono ?_
  rintro e w2 ⟨⟨u, rfl⟩, kv1, vv1, l1, hl1, hl2, hl3, hM1⟩
  obtain ⟨g0, hg0⟩ : ∃ g, w.heap.size = g := ⟨_, rfl⟩
  obtain ⟨ga, hga⟩ : ∃ g, w1.heap.size = g := ⟨_, rfl⟩
  rw [hg0, hga] at hM1
  rw [hg0, hga]
  have A2 := hideIt hM1
  rw [hl1] at ht6
  have HL := hideIt (And.intro hl1 hl2)
  clear CT n0 n1 n2 n3 n4 hszl hg0 hga hM1 hl1 hl2
  obtain ⟨ka1, kc1, rfl⟩ := As.form0 (A2.out.get (i := 1) rfl)
  obtain ⟨va1, vc1, rfl⟩ := As.form0 (A2.out.get (i := 2) rfl)
  have p0 := A2.out.cell (i := 4) rfl 0 (.int .i64 s.kd) rfl
  rcases HK.out with hk2 | hk2
  · have hkb : (s.kd == 2) = true := by rw [hk2]; rfl
    have HK2 := hideIt hk2
    clear hk2
    go_wp2_with (refine wpList_load_row rfl 92 _ rfl _ rfl 92 _ (0, 0) _ (A2.out.block (i := 4) rfl) Tryz.underlying92 rfl infoState ?_)
    refine (entered_any s _ _ _ _ _ _ _ (HR.out.stv A2.out (fun a ha => by simp [ha]))).mono ?_
    rintro e w3 ⟨rfl, hb⟩
    rw [HVQ.out]
    have A2b := hideIt (A2.out.below hb)
    clear A2 hb p0
    have q3 := A2b.out.cell (i := 0) rfl 3 (.slice ka1 l1 kc1) rfl
    have q4 := A2b.out.cell (i := 0) rfl 4 (.slice va1 l1 vc1) rfl
    have f3 := A2b.out.free (i := 0) rfl 3
    have f4 := A2b.out.free (i := 0) rfl 4
    have hlg := A2b.out.lt (i := 0) rfl
    go_upto_region 7 with (at_builtin; refine wpList_append_lies _ rfl _ _ 22 rfl B 3 i0 (.int .i64 0) 1 8 Tryz.underlying22 hi0 hz0 hz1 hz2 rfl (by decide) _ l1 (ints (tkK n.ks 0 key [] n.ks.length)) rfl (World.ownsRow.alloc (A2b.out.get (i := 1) rfl) _) ⟨_, 0, none⟩ 1 1 [.int .i64 key] rfl rfl (news_one _ _ _) (by simp [Value.oneCell']) (by omega) (by unfold maxLen; omega) (by omega) (by have := A2b.out.sz; simp at this ⊢; omega) _ rfl ?_; intro g1 cap1 w5 hown hgrow hat hlt1; rw [← ints_snoc] at hown; have hm := (A2b.out.allocd _).lies (i := 1) rfl hown hgrow hat; clear q3 q4 f3 f4 hlg hown hgrow hat; have q3 := hm.cell (i := 0) rfl 3 (.slice ka1 l1 kc1) rfl; have f3 := hm.free (i := 0) rfl 3; have hlg := hm.lt (i := 0) rfl; have H1 := hideIt (hm.store (i := 0) (j := 3) rfl (.slice (some ⟨g1, 0, none⟩) (l1 + 1) cap1) rfl); clear hm A2b)
    have q4 := H1.out.cell (i := 0) rfl 4 (.slice va1 l1 vc1) rfl
    have f4 := H1.out.free (i := 0) rfl 4
    go_upto_region 8 with (at_builtin; refine wpList_append_lies _ rfl _ _ 22 rfl B 3 i0 (.int .i64 0) 1 8 Tryz.underlying22 hi0 hz0 hz1 hz2 rfl (by decide) _ l1 (ints (tkV n.ks n.vs 0 key [] n.ks.length)) rfl (World.ownsRow.alloc (H1.out.get (i := 2) rfl) _) ⟨_, 0, none⟩ 1 1 [.int .i64 v] rfl rfl (by have := news_one (w5.setCell ⟨ga, 3, none⟩ (.slice (some ⟨g1, 0, none⟩) (l1 + 1) cap1)) (.int .i64 v) 3; simpa using this) (by simp [Value.oneCell']) (by omega) (by unfold maxLen; omega) (by omega) (by have := H1.out.sz; simp at this ⊢; omega) _ rfl ?_; intro g2 cap2 w7 hown hgrow hat hlt2; rw [← ints_snoc] at hown; have hm := (H1.out.allocd _).lies (i := 2) rfl hown hgrow hat; clear q3 q4 f3 f4 hlg hown hgrow hat; have q4 := hm.cell (i := 0) rfl 4 (.slice va1 l1 vc1) rfl; have f4 := hm.free (i := 0) rfl 4; have hlg := hm.lt (i := 0) rfl; have A3 := hideIt (hm.store (i := 0) (j := 4) rfl (.slice (some ⟨g2, 0, none⟩) (l1 + 1) cap2) rfl); clear hm H1)
    have CT2 := hideIt (takeOver_any _ (l1 + 1) n n.lv n.lk n.hi (key + 1) n.hi (tkK n.ks 0 key [] n.ks.length ++ [key]) (tkV n.ks n.vs 0 key [] n.ks.length ++ [v]) (.slice (some ⟨g1, 0, none⟩) (l1 + 1) cap1) (.slice (some ⟨g2, 0, none⟩) (l1 + 1) cap2) (.slice na n.ks.length nc) (.slice nva n.vs.length nvc) _ w0 _ B (by rw [List.length_append, HL.out.1]; rfl) (by rw [List.length_append, HL.out.2]; rfl) (by omega) A3.out (by simp [HKA.out]) (by simp [HVA.out]) HN.out (by omega))
    have n0 := A3.out.cell (i := 5) rfl 0 (.int .i64 n.lv) rfl
    have n1 := A3.out.cell (i := 5) rfl 1 (.int .i64 n.lk) rfl
    have n2 := A3.out.cell (i := 5) rfl 2 (.int .i64 n.hi) rfl
    have n3 := A3.out.cell (i := 5) rfl 3 (.slice na n.ks.length nc) rfl
    have n4 := A3.out.cell (i := 5) rfl 4 (.slice nva n.vs.length nvc) rfl
    clear A3
    go_wp2_with fail
    refine CT2.out.mono ?_
    rintro e w6 ⟨⟨u, rfl⟩, kv2, vv2, l2, hm1, hm2, hm3, hM2⟩
    obtain ⟨ka2, kc2, rfl⟩ := As.form0 (hM2.get (i := 1) rfl)
    obtain ⟨va2, vc2, rfl⟩ := As.form0 (hM2.get (i := 2) rfl)
    have S5 := hideIt (hM2.store5 (i := 3) rfl (.int .i64 n.lv) (.int .i64 n.lk) (.int .i64 n.hi) (.slice ka2 l2 kc2) (.slice va2 l2 vc2))
    have a0 := hM2.cell (i := 0) rfl 0 (.int .i64 n.lv) rfl
    have a1 := hM2.cell (i := 0) rfl 1 (.int .i64 n.lk) rfl
    have a2 := hM2.cell (i := 0) rfl 2 (.int .i64 n.hi) rfl
    have a3 := hM2.cell (i := 0) rfl 3 (.slice ka2 l2 kc2) rfl
    have a4 := hM2.cell (i := 0) rfl 4 (.slice va2 l2 vc2) rfl
    have r0 := hM2.cell (i := 3) rfl 0 (.int .i64 0) rfl
    have f0 := hM2.free (i := 3) rfl 0
    have r1 := hM2.cell (i := 3) rfl 1 (.int .i64 0) rfl
    have f1 := hM2.free (i := 3) rfl 1
    have r2 := hM2.cell (i := 3) rfl 2 (.int .i64 0) rfl
    have f2 := hM2.free (i := 3) rfl 2
    have r3 := hM2.cell (i := 3) rfl 3 (.slice none 0 0) rfl
    have f3 := hM2.free (i := 3) rfl 3
    have r4 := hM2.cell (i := 3) rfl 4 (.slice none 0 0) rfl
    have f4 := hM2.free (i := 3) rfl 4
    have HCC : Hid (chK n s.kd key = tkK n.ks (key + 1) n.hi (tkK n.ks 0 key [] n.ks.length ++ [key]) n.ks.length ∧ chV n s.kd key v = tkV n.ks n.vs (key + 1) n.hi (tkV n.ks n.vs 0 key [] n.ks.length ++ [v]) n.ks.length) := by
      have h9 := HCH.out
      rw [if_pos HK2.out, if_pos HK2.out] at h9
      exact h9
    have HM := hideIt (And.intro hm1 hm2)
    clear CT2 hM2 n0 n1 n2 n3 n4 HCH hm1 hm2
    go_wp2
    refine bodyPost_ret (v := .agg #[.int .i64 n.lv, .int .i64 n.lk, .int .i64 n.hi, .slice ka2 l2 kc2, .slice va2 l2 vc2]) (by simp [results, Tryz.results82, go_sem, *]) rfl ?_
    rw [HKQ.out, HVQ.out]
    refine ⟨_, _, l2, rfl, by rw [HCC.out.1]; exact HM.out.1, by rw [HCC.out.2]; exact HM.out.2, by omega, ?_⟩
    rw [HCC.out.1, HCC.out.2]
    exact S5.out.sub (.cons _ (.cons_cons _ (.cons_cons _ (.cons _ (.cons _ (.cons _ (List.Sublist.refl _)))))))
  · have hkb : (s.kd == 2) = false := by rw [hk2]; rfl
    have HK2 := hideIt hk2
    clear hk2
    have A3 := A2
    clear A2
    have CT2 := hideIt (takeOver_any _ (l1) n n.lv n.lk n.hi (key + 1) n.hi (tkK n.ks 0 key [] n.ks.length) (tkV n.ks n.vs 0 key [] n.ks.length) (.slice ka1 l1 kc1) (.slice va1 l1 vc1) (.slice na n.ks.length nc) (.slice nva n.vs.length nvc) _ w0 _ B HL.out.1 HL.out.2 (by omega) A3.out (by simp [HKA.out]) (by simp [HVA.out]) HN.out (by omega))
    have n0 := A3.out.cell (i := 5) rfl 0 (.int .i64 n.lv) rfl
    have n1 := A3.out.cell (i := 5) rfl 1 (.int .i64 n.lk) rfl
    have n2 := A3.out.cell (i := 5) rfl 2 (.int .i64 n.hi) rfl
    have n3 := A3.out.cell (i := 5) rfl 3 (.slice na n.ks.length nc) rfl
    have n4 := A3.out.cell (i := 5) rfl 4 (.slice nva n.vs.length nvc) rfl
    clear A3
    go_wp2_with fail
    refine CT2.out.mono ?_
    rintro e w6 ⟨⟨u, rfl⟩, kv2, vv2, l2, hm1, hm2, hm3, hM2⟩
    obtain ⟨ka2, kc2, rfl⟩ := As.form0 (hM2.get (i := 1) rfl)
    obtain ⟨va2, vc2, rfl⟩ := As.form0 (hM2.get (i := 2) rfl)
    have S5 := hideIt (hM2.store5 (i := 3) rfl (.int .i64 n.lv) (.int .i64 n.lk) (.int .i64 n.hi) (.slice ka2 l2 kc2) (.slice va2 l2 vc2))
    have a0 := hM2.cell (i := 0) rfl 0 (.int .i64 n.lv) rfl
    have a1 := hM2.cell (i := 0) rfl 1 (.int .i64 n.lk) rfl
    have a2 := hM2.cell (i := 0) rfl 2 (.int .i64 n.hi) rfl
    have a3 := hM2.cell (i := 0) rfl 3 (.slice ka2 l2 kc2) rfl
    have a4 := hM2.cell (i := 0) rfl 4 (.slice va2 l2 vc2) rfl
    have r0 := hM2.cell (i := 3) rfl 0 (.int .i64 0) rfl
    have f0 := hM2.free (i := 3) rfl 0
    have r1 := hM2.cell (i := 3) rfl 1 (.int .i64 0) rfl
    have f1 := hM2.free (i := 3) rfl 1
    have r2 := hM2.cell (i := 3) rfl 2 (.int .i64 0) rfl
    have f2 := hM2.free (i := 3) rfl 2
    have r3 := hM2.cell (i := 3) rfl 3 (.slice none 0 0) rfl
    have f3 := hM2.free (i := 3) rfl 3
    have r4 := hM2.cell (i := 3) rfl 4 (.slice none 0 0) rfl
    have f4 := hM2.free (i := 3) rfl 4
    have HCC : Hid (chK n s.kd key = tkK n.ks (key + 1) n.hi (tkK n.ks 0 key [] n.ks.length) n.ks.length ∧ chV n s.kd key v = tkV n.ks n.vs (key + 1) n.hi (tkV n.ks n.vs 0 key [] n.ks.length) n.ks.length) := by
      have h9 := HCH.out
      rw [if_neg (by rw [HK2.out]; decide), if_neg (by rw [HK2.out]; decide), List.append_nil, List.append_nil] at h9
      exact h9
    have HM := hideIt (And.intro hm1 hm2)
    clear CT2 hM2 n0 n1 n2 n3 n4 HCH hm1 hm2
    go_wp2
    refine bodyPost_ret (v := .agg #[.int .i64 n.lv, .int .i64 n.lk, .int .i64 n.hi, .slice ka2 l2 kc2, .slice va2 l2 vc2]) (by simp [results, Tryz.results82, go_sem, *]) rfl ?_
    rw [HKQ.out, HVQ.out]
    refine ⟨_, _, l2, rfl, by rw [HCC.out.1]; exact HM.out.1, by rw [HCC.out.2]; exact HM.out.2, by omega, ?_⟩
    rw [HCC.out.1, HCC.out.2]
    exact S5.out.sub (.cons _ (.cons_cons _ (.cons_cons _ (.cons _ (.cons _ (.cons _ (List.Sublist.refl _)))))))
end Go.Proofs.YtajobgmnmbnhiaaGreatDoor.Sap
