/- WHAT IS PROVED HERE: what tree.scanLeaf answers. Conditions: named at the theorem. -/
import Derived.Test.YtajobgmnmbnhiaaGreatDoorPt21
namespace Go.Proofs.YtajobgmnmbnhiaaGreatDoor.Sap
open Go.RowKit
theorem M.scIn {w0 w : World} {B : Nat} {x y s k v : As} {fr : List As} (h : M w0 B w (x :: y :: s :: k :: v :: fr)) : M w0 B w (s :: k :: v :: x :: y :: fr) :=
  h.perm (List.Perm.append_right (l₁ := [s, k, v] ++ [x, y]) (l₂ := [x, y] ++ [s, k, v]) fr List.perm_append_comm)
theorem M.scOut {w0 w : World} {B : Nat} {c s k v x y b p a d : As} {fr : List As} (h : M w0 B w (c :: s :: k :: v :: x :: y :: b :: p :: a :: d :: fr)) : M w0 B w (k :: v :: c :: fr) := by
  have h1 : M w0 B w ([c] ++ ([k, v] ++ fr)) := h.sub (.cons_cons _ (.cons _ (.cons_cons _ (.cons_cons _ (.cons _ (.cons _ (.cons _ (.cons _ (.cons _ (.cons _ (List.Sublist.refl _)))))))))))
  exact h1.perm (l' := ([k, v] ++ [c]) ++ fr) (by rw [← List.append_assoc]; exact List.Perm.append_right _ List.perm_append_comm)
theorem M.scOn {w0 w : World} {B : Nat} {s k v x y b p a d : As} {fr : List As} (h : M w0 B w (s :: k :: v :: x :: y :: b :: p :: a :: d :: fr)) : M w0 B w fr :=
  h.sub (.cons _ (.cons _ (.cons _ (.cons _ (.cons _ (.cons _ (.cons _ (.cons _ (.cons _ (List.Sublist.refl _))))))))))
def ScR (o : Out) (w0 : World) (B : Nat) (w' : World) (fr : List As) (e : Ending) : Prop :=
  match o with
  | .inl s' => OnR s' e ∧ M w0 B w' fr
  | .inr (fd, va, pt, ks, vs, cs) => ∃ kv' vv' cv', e = .returned (.tuple #[.string ⟨#[]⟩, .agg #[.int .i64 0, .bool fd, .int .i64 va, .int .i64 pt, kv', vv', cv'], .bool true, .int .i64 0]) ∧ M w0 B w' (.row 3 1 kv' ks.length (ints ks) :: .row 3 1 vv' vs.length (ints vs) :: .row 76 2 cv' cs.length (cutc cs) :: fr)
set_option maxRecDepth 100000 in
set_option maxHeartbeats 6400000 in
theorem scanLeaf_any (s : St) (n : Nd) (kv vv bv pv ka va : Value) (ax ay : Option Addr) (cx cy : Nat) (hsp : s.sp = []) (hsv : s.sv = []) (fr : List As) (w0 w : World) (B : Nat) (htab : Tab w0) (hB : B = w0.heap.size) (hI : StI s) (hkl : s.keys.length = s.vals.length) (hbl : s.bel.length = s.pts.length) (hb63 : s.bel.length ≤ 63) (hs0 : 0 ≤ s.step) (hs1 : s.step ≤ 1000000000) (hv0 : 0 ≤ s.val) (hv1 : s.val ≤ 10000) (_hh1 : 1 ≤ n.hi) (_hh2 : n.hi ≤ 10000)
    (h : M w0 B w (.row 3 1 kv s.keys.length (ints s.keys) :: .row 3 1 vv s.keys.length (ints s.vals) :: .row 3 1 bv s.bel.length (ints s.bel) :: .row 3 1 pv s.pts.length (ints s.pts) :: .row 3 1 ka n.ks.length (ints n.ks) :: .row 3 1 va n.vs.length (ints n.vs) :: fr))
    (hn : n.ks.length = n.vs.length) (h6 : n.ks.length ≤ 6) (hkr : ∀ x ∈ n.ks, 0 ≤ x ∧ x ≤ 10000) (hsk : ∀ x ∈ s.keys, 0 ≤ x ∧ x ≤ 10000) (hlk : scEnd s n = false → 0 ≤ n.lk ∧ StI { scS s n with pg := n.lk, step := s.step + 1 }) :
    Calls Tryz.prog 90 #[.agg #[.int .i64 s.kd, .int .i64 s.key, .int .i64 s.val, .int .i64 s.step, .int .i64 s.pg, kv, vv, bv, pv, .string s.sw, .int .i64 s.ver, .slice ax 0 cx, .slice ay 0 cy, .int .i64 s.laid, .int .i64 s.lv, .int .i64 s.low, .int .i64 s.ch, .int .i64 s.pt], .agg #[.int .i64 n.lv, .int .i64 n.lk, .int .i64 n.hi, ka, va]] w fun e w' => ScR (scO s n) w0 B w' fr e := by
  obtain ⟨i0, hi0, hz0, hz1, hz2⟩ := info_parts infoInt
  obtain ⟨ak, ck, rfl⟩ := As.form0 (h.get (i := 0) rfl)
  obtain ⟨av, cv, rfl⟩ := As.form0 (h.get (i := 1) rfl)
  obtain ⟨ab, cb, rfl⟩ := As.form0 (h.get (i := 2) rfl)
  obtain ⟨ap, cp, rfl⟩ := As.form0 (h.get (i := 3) rfl)
  obtain ⟨na, nc, rfl⟩ := As.form0 (h.get (i := 4) rfl)
  obtain ⟨nva, nvc, rfl⟩ := As.form0 (h.get (i := 5) rfl)
  have A0 := ((h.alloc #[.int .i64 s.kd, .int .i64 s.key, .int .i64 s.val, .int .i64 s.step, .int .i64 s.pg, .slice ak s.keys.length ck, .slice av s.keys.length cv, .slice ab s.bel.length cb, .slice ap s.pts.length cp, .string s.sw, .int .i64 s.ver, .slice ax 0 cx, .slice ay 0 cy, .int .i64 s.laid, .int .i64 s.lv, .int .i64 s.low, .int .i64 s.ch, .int .i64 s.pt] 92).alloc #[.int .i64 n.lv, .int .i64 n.lk, .int .i64 n.hi, .slice na n.ks.length nc, .slice nva n.vs.length nvc] 67).alloc #[.int .i64 0, .bool false, .int .i64 0, .int .i64 0, .slice none 0 0, .slice none 0 0, .slice none 0 0] 46
  rw [alloc_size, alloc_size] at A0
  have A1 := A0.scIn
  have CA := hideIt (addKeys_any w.heap.size s n _ _ (.slice ab s.bel.length cb) (.slice ap s.pts.length cp) (.slice na n.ks.length nc) (.slice nva n.vs.length nvc) ax ay cx cy hsp hsv _ w0 _ B hI hkl A1 (.tail _ (.tail _ (.head _))) (.tail _ (.tail _ (.tail _ (.head _)))) (.tail _ (.tail _ (.tail _ (.tail _ (.head _))))) (.tail _ (.tail _ (.tail _ (.tail _ (.tail _ (.head _)))))) hn h6)
  have c := fun j v hv => A0.cell (i := 1) rfl j v hv
  have n0 := c 0 (.int .i64 n.lv) rfl
  have n1 := c 1 (.int .i64 n.lk) rfl
  have n2 := c 2 (.int .i64 n.hi) rfl
  have n3 := c 3 (.slice na n.ks.length nc) rfl
  have n4 := c 4 (.slice nva n.vs.length nvc) rfl
  have HT : Hid (∀ W l, M w0 B W l → Tab W) := fun W l hm => htab.below (hB ▸ hm.bl)
  have hkL := hI.keysL
  have HLK := hideIt hlk
  have HBL := hideIt hbl
  have hb63' : s.pts.length ≤ 63 := by omega
  have HSK : Hid (∀ x ∈ scK s n, 0 ≤ x ∧ x ≤ 10000) := by
    unfold Hid scK
    have : ∀ k, ∀ x ∈ adK n.ks (wantV s) s.val s.keys k, 0 ≤ x ∧ x ≤ 10000 := by
      intro k
      induction k with
      | zero => exact hsk
      | succ k ih =>
        intro x hx
        unfold adK at hx
        split at hx
        · rcases List.mem_append.1 hx with hx | hx
          · exact ih x hx
          · rw [List.mem_singleton] at hx
            subst hx
            rcases Nat.lt_or_ge k n.ks.length with hk | hk
            · rw [List.getElem?_eq_getElem hk]; exact hkr _ (List.getElem_mem _)
            · rw [List.getElem?_eq_none hk]; simp
        · exact ih x hx
    exact this _
  clear A0 A1 c h hI hkl hlk htab hB hbl hkr hsk hn h6
  go_enter Tryz.func90, Tryz.ntmps90
  go_wp2_with fail
  refine CA.out.mono ?_
  rintro e w1 ⟨⟨u, rfl⟩, kv', vv', l, hl1, hl2, hM1⟩
  obtain ⟨gs, hgs⟩ : ∃ g, w.heap.size = g := ⟨_, rfl⟩
  rw [hgs] at hM1 ⊢
  obtain ⟨gx, hgx⟩ : ∃ g, gs + 1 + 1 = g := ⟨_, rfl⟩
  obtain ⟨gn, hgn⟩ : ∃ g, gs + 1 = g := ⟨_, rfl⟩
  rw [hgx, hgn] at hM1
  rw [hgx, hgn]
  have HK : Hid (adK n.ks (wantV s) s.val s.keys n.ks.length = scK s n ∧ adV n.ks n.vs (wantV s) s.val s.keys s.vals n.ks.length = scV s n) := ⟨rfl, rfl⟩
  rw [HK.out.1] at hl1 hM1
  rw [HK.out.2] at hl2 hM1
  have hl12 : l ≤ 12 := by rw [← hl1]; exact adK_len _ _ _ _ _ hkL
  have HL1 := hideIt hl1
  have HL2 := hideIt hl2
  clear CA HK n0 n1 n2 n3 n4 hl1 hl2 hgs hgx hgn
  obtain ⟨ka2, kc2, rfl⟩ := As.form0 (hM1.get (i := 1) rfl)
  obtain ⟨va2, vc2, rfl⟩ := As.form0 (hM1.get (i := 2) rfl)
  have HM := hideIt hM1
  clear hM1
  have s2 := HM.out.cell (i := 0) rfl 2 (.int .i64 s.val) rfl
  have n2 := HM.out.cell (i := 4) rfl 2 (.int .i64 n.hi) rfl
  have k5 := HM.out.cell (i := 0) rfl 5 (.slice ka2 l kc2) rfl
  by_cases hf : 12 ≤ l
  · obtain rfl : l = 12 := by omega
    have hE : scEnd s n = true := by unfold scEnd; rw [HL1.out]; rfl
    have HE := hideIt hE
    have h1 : As.holds w1 B (.row 3 1 (.slice ka2 12 kc2) (12) (ints (scK s n))) := HM.out.get (i := 1) rfl
    have rk : Rd w1 (.slice ka2 12 kc2) (scK s n) := by rw [← HL1.out] at h1 ⊢; exact owns_rd h1
    obtain ⟨b1, o1, rfl, -, x1⟩ := rk.elem 11 (by omega)
    have y1 := x1 _ (Below.refl _ _)
    obtain ⟨z, hz⟩ : ∃ y, (scK s n)[11]?.getD 0 = y := ⟨_, rfl⟩
    rw [hz] at y1
    have hzb := HSK.out z (by rw [← hz, List.getElem?_eq_getElem (by rw [HL1.out]; omega)]; exact List.getElem_mem _)
    obtain ⟨hzb1, hzb2⟩ := hzb
    have HBB : Hid (scB s n = z + 1) := by
      unfold Hid scB
      rw [if_pos (by rw [HL1.out]; omega), List.getLast?_eq_getElem?, HL1.out]
      rw [show 12 - 1 = 11 from rfl, hz]
    clear h1 rk x1 hz hE hf HLK
    by_cases hh : s.val + 1 < n.hi
    · skip
      go_upto_region 9 with fail
      go_cut [] (fun wy => ∃ g1 cap1, Hid (M w0 B wy (.blk gs #[.int .i64 s.kd, .int .i64 s.key, .int .i64 s.val, .int .i64 s.step, .int .i64 s.pg, .slice (some ⟨b1, o1, none⟩) 12 kc2, .slice va2 12 vc2, .slice (some ⟨g1, 0, none⟩) (s.bel.length + 1) cap1, .slice ap s.pts.length cp, .string s.sw, .int .i64 s.ver, .slice ax 0 cx, .slice ay 0 cy, .int .i64 s.laid, .int .i64 s.lv, .int .i64 s.low, .int .i64 s.ch, .int .i64 s.pt] 92 :: .row 3 1 (.slice (some ⟨b1, o1, none⟩) 12 kc2) (12) (ints (scK s n)) :: .row 3 1 (.slice va2 12 vc2) (12) (ints (scV s n)) :: .blk gx #[.int .i64 0, .bool false, .int .i64 0, .int .i64 0, .slice none 0 0, .slice none 0 0, .slice none 0 0] 46 :: .blk gn #[.int .i64 n.lv, .int .i64 n.lk, .int .i64 n.hi, .slice na n.ks.length nc, .slice nva n.vs.length nvc] 67 :: .row 3 1 (.slice (some ⟨g1, 0, none⟩) (s.bel.length + 1) cap1) (s.bel.length + 1) (ints (s.bel ++ [z + 1])) :: .row 3 1 (.slice ap s.pts.length cp) (s.pts.length) (ints (s.pts)) :: .row 3 1 (.slice na n.ks.length nc) (n.ks.length) (ints (n.ks)) :: .row 3 1 (.slice nva n.vs.length nvc) (n.vs.length) (ints (n.vs)) :: fr)))
      case first =>
        have s7 := HM.out.cell (i := 0) rfl 7 (.slice ab s.bel.length cb) rfl
        have hl9 := HM.out.lt (i := 0) rfl
        go_wp2_with (at_builtin; refine wpList_append_lies _ rfl _ _ 22 rfl B 3 i0 (.int .i64 0) 1 8 Tryz.underlying22 hi0 hz0 hz1 hz2 rfl (by decide) _ (s.bel.length) (ints (s.bel)) rfl (World.ownsRow.alloc (HM.out.get (i := 5) rfl) _) ⟨_, 0, none⟩ 1 1 [.int .i64 (z + 1)] rfl rfl (news_one _ _ _) (by simp [Value.oneCell']) (by omega) (by unfold maxLen; omega) (by omega) (by have := HM.out.sz; simp at this ⊢; omega) _ rfl ?_; intro gq capq w5 hown hgrow hat hlt1; rw [← ints_snoc] at hown; have hm := (HM.out.allocd _).lies (i := 5) rfl hown hgrow hat; clear hown hgrow hat; have z7 := hm.cell (i := 0) rfl 7 (.slice ab s.bel.length cb) rfl; have y7 := hm.free (i := 0) rfl 7; have hlg := hm.lt (i := 0) rfl; have H1 := hideIt (hm.store (i := 0) (j := 7) rfl (.slice (some ⟨gq, 0, none⟩) (s.bel.length + 1) capq) rfl); clear hm)
        go_wp2
        go_meet
        case rel => exact ⟨_, _, H1.out⟩
      case rest =>
        obtain ⟨g1, cap1, hM2⟩ := hcut
        clear HM s2 n2 k5 y1
        go_upto_region 10 with fail
        go_cut [] (fun wy => ∃ g2 cap2, Hid (M w0 B wy (.blk gs #[.int .i64 s.kd, .int .i64 s.key, .int .i64 s.val, .int .i64 s.step, .int .i64 s.pg, .slice (some ⟨b1, o1, none⟩) 12 kc2, .slice va2 12 vc2, .slice (some ⟨g1, 0, none⟩) (s.bel.length + 1) cap1, .slice (some ⟨g2, 0, none⟩) (s.pts.length + 1) cap2, .string s.sw, .int .i64 s.ver, .slice ax 0 cx, .slice ay 0 cy, .int .i64 s.laid, .int .i64 s.lv, .int .i64 s.low, .int .i64 s.ch, .int .i64 s.pt] 92 :: .row 3 1 (.slice (some ⟨b1, o1, none⟩) 12 kc2) (12) (ints (scK s n)) :: .row 3 1 (.slice va2 12 vc2) (12) (ints (scV s n)) :: .blk gx #[.int .i64 0, .bool false, .int .i64 0, .int .i64 0, .slice none 0 0, .slice none 0 0, .slice none 0 0] 46 :: .blk gn #[.int .i64 n.lv, .int .i64 n.lk, .int .i64 n.hi, .slice na n.ks.length nc, .slice nva n.vs.length nvc] 67 :: .row 3 1 (.slice (some ⟨g1, 0, none⟩) (s.bel.length + 1) cap1) (s.bel.length + 1) (ints (s.bel ++ [z + 1])) :: .row 3 1 (.slice (some ⟨g2, 0, none⟩) (s.pts.length + 1) cap2) (s.pts.length + 1) (ints (s.pts ++ [s.step])) :: .row 3 1 (.slice na n.ks.length nc) (n.ks.length) (ints (n.ks)) :: .row 3 1 (.slice nva n.vs.length nvc) (n.vs.length) (ints (n.vs)) :: fr)))
        case first =>
          have s8 := hM2.out.cell (i := 0) rfl 8 (.slice ap s.pts.length cp) rfl
          have s3 := hM2.out.cell (i := 0) rfl 3 (.int .i64 s.step) rfl
          have hl9 := hM2.out.lt (i := 0) rfl
          go_wp2_with (at_builtin; refine wpList_append_lies _ rfl _ _ 22 rfl B 3 i0 (.int .i64 0) 1 8 Tryz.underlying22 hi0 hz0 hz1 hz2 rfl (by decide) _ (s.pts.length) (ints (s.pts)) rfl (World.ownsRow.alloc (hM2.out.get (i := 6) rfl) _) ⟨_, 0, none⟩ 1 1 [.int .i64 s.step] rfl rfl (news_one _ _ _) (by simp [Value.oneCell']) (by omega) (by unfold maxLen; omega) (by omega) (by have := hM2.out.sz; simp at this ⊢; omega) _ rfl ?_; intro gq capq w5 hown hgrow hat hlt1; rw [← ints_snoc] at hown; have hm := (hM2.out.allocd _).lies (i := 6) rfl hown hgrow hat; clear hown hgrow hat; have z7 := hm.cell (i := 0) rfl 8 (.slice ap s.pts.length cp) rfl; have y7 := hm.free (i := 0) rfl 8; have hlg := hm.lt (i := 0) rfl; have H1 := hideIt (hm.store (i := 0) (j := 8) rfl (.slice (some ⟨gq, 0, none⟩) (s.pts.length + 1) capq) rfl); clear hm)
          go_wp2
          go_meet
          case rel => exact ⟨_, _, H1.out⟩
        case rest =>
          obtain ⟨g2, cap2, hM3⟩ := hcut
          clear hM2
          have SV : StV wc (scS s n) (.slice (some ⟨b1, o1, none⟩) 12 kc2) (.slice va2 12 vc2) (.slice (some ⟨g1, 0, none⟩) (s.bel.length + 1) cap1) (.slice (some ⟨g2, 0, none⟩) (s.pts.length + 1) cap2) (.slice ax 0 cx) (.slice ay 0 cy) := by
            refine ⟨?_, ?_, ?_, ?_, rd0 hsp, rd0 hsv⟩
            · have h1 : As.holds wc B (.row 3 1 (.slice (some ⟨b1, o1, none⟩) 12 kc2) (12) (ints (scK s n))) := hM3.out.get (i := 1) rfl
              show Rd wc _ (scK s n)
              rw [← HL1.out] at h1 ⊢; exact owns_rd h1
            · have h1 : As.holds wc B (.row 3 1 (.slice va2 12 vc2) (12) (ints (scV s n))) := hM3.out.get (i := 2) rfl
              show Rd wc _ (scV s n)
              rw [← HL2.out] at h1 ⊢; exact owns_rd h1
            · have h1 : As.holds wc B (.row 3 1 (.slice (some ⟨g1, 0, none⟩) (s.bel.length + 1) cap1) (s.bel.length + 1) (ints (s.bel ++ [z + 1]))) := hM3.out.get (i := 5) rfl
              show Rd wc _ (s.bel ++ [scB s n])
              rw [HBB.out]
              rw [show s.bel.length + 1 = (s.bel ++ [z + 1]).length by simp] at h1 ⊢; exact owns_rd h1
            · have h1 : As.holds wc B (.row 3 1 (.slice (some ⟨g2, 0, none⟩) (s.pts.length + 1) cap2) (s.pts.length + 1) (ints (s.pts ++ [s.step]))) := hM3.out.get (i := 6) rfl
              show Rd wc _ (s.pts ++ [s.step])
              rw [show s.pts.length + 1 = (s.pts ++ [s.step]).length by simp] at h1 ⊢; exact owns_rd h1
          have hzl : ((scS s n).bel.zip (scS s n).pts).length = (scS s n).bel.length := by
            have := HBL.out
            simp [scS, List.length_zip]; omega
          have CS := scanned_any (scS s n) _ _ _ _ _ _ wc SV (by have := HBL.out; simp [scS]; omega) (by simp [scS]; omega)
          obtain ⟨cl, hcl⟩ : ∃ x, ((scS s n).bel.zip (scS s n).pts).length = x := ⟨_, rfl⟩
          rw [← hzl, hcl] at CS
          have HCL := hideIt hcl
          obtain ⟨fdv, hfdv⟩ : ∃ x, decide (0 < (scS s n).keys.length) = x := ⟨_, rfl⟩
          obtain ⟨lnv, hlnv⟩ : ∃ x, ((scS s n).keys.length : Int) = x := ⟨_, rfl⟩
          rw [hfdv, hlnv, show (scS s n).step = s.step from rfl] at CS
          have HCS := hideIt CS
          have HFD := hideIt hfdv
          have HLN := hideIt hlnv
          have HSO : Hid (scO s n = .fin (decide (0 < (scK s n).length)) (scK s n).length s.step (scK s n) (scV s n) ((scS s n).bel.zip (scS s n).pts)) := by unfold Hid scO; rw [HE.out]; rfl
          clear CS hfdv hlnv hzl SV hcl
          go_wp2_with (refine wpList_load_row rfl 92 _ rfl _ rfl 92 _ (0, 0) _ (hM3.out.block (i := 0) rfl) Tryz.underlying92 rfl infoState ?_)
          refine HCS.out.mono ?_
          rintro e w5 ⟨cv5, rfl, hC⟩
          obtain ⟨ca5, cc5, rfl⟩ := As.form0 (hC.get (i := 0) rfl)
          have hM5 := hideIt (hM3.out.join hC)
          clear hC hM3 HCS
          have r0 := hM5.out.cell (i := 4) rfl 0 (.int .i64 0) rfl
          have f0 := hM5.out.free (i := 4) rfl 0
          have r1 := hM5.out.cell (i := 4) rfl 1 (.bool false) rfl
          have f1 := hM5.out.free (i := 4) rfl 1
          have r2 := hM5.out.cell (i := 4) rfl 2 (.int .i64 0) rfl
          have f2 := hM5.out.free (i := 4) rfl 2
          have r3 := hM5.out.cell (i := 4) rfl 3 (.int .i64 0) rfl
          have f3 := hM5.out.free (i := 4) rfl 3
          have r4 := hM5.out.cell (i := 4) rfl 4 (.slice none 0 0) rfl
          have f4 := hM5.out.free (i := 4) rfl 4
          have r5 := hM5.out.cell (i := 4) rfl 5 (.slice none 0 0) rfl
          have f5 := hM5.out.free (i := 4) rfl 5
          have r6 := hM5.out.cell (i := 4) rfl 6 (.slice none 0 0) rfl
          have f6 := hM5.out.free (i := 4) rfl 6
          have S7 := hideIt (hM5.out.store7 (i := 4) rfl (.int .i64 0) (.bool fdv) (.int .i64 lnv) (.int .i64 s.step) (.slice (some ⟨b1, o1, none⟩) 12 kc2) (.slice va2 12 vc2) (.slice ca5 cl cc5))
          clear hM5
          go_wp2
          refine bodyPost_ret (v := .tuple #[.string ⟨#[]⟩, .agg #[.int .i64 0, .bool fdv, .int .i64 lnv, .int .i64 s.step, .slice (some ⟨b1, o1, none⟩) 12 kc2, .slice va2 12 vc2, .slice ca5 cl cc5], .bool true, .int .i64 0]) (by simp [results, Tryz.results90, go_sem, *]) rfl ?_
          rw [HSO.out]
          have hF := S7.out.scOut
          refine ⟨_, _, _, by rw [← HFD.out, ← HLN.out]; rfl, ?_⟩
          rw [HL1.out, HL2.out, HCL.out]
          exact hF
    · have hh' : n.hi ≤ s.val + 1 := by omega
      clear hh
      go_upto_region 9 with fail
      go_cut [] (fun wy => ∃ g1 cap1, Hid (M w0 B wy (.blk gs #[.int .i64 s.kd, .int .i64 s.key, .int .i64 s.val, .int .i64 s.step, .int .i64 s.pg, .slice (some ⟨b1, o1, none⟩) 12 kc2, .slice va2 12 vc2, .slice (some ⟨g1, 0, none⟩) (s.bel.length + 1) cap1, .slice ap s.pts.length cp, .string s.sw, .int .i64 s.ver, .slice ax 0 cx, .slice ay 0 cy, .int .i64 s.laid, .int .i64 s.lv, .int .i64 s.low, .int .i64 s.ch, .int .i64 s.pt] 92 :: .row 3 1 (.slice (some ⟨b1, o1, none⟩) 12 kc2) (12) (ints (scK s n)) :: .row 3 1 (.slice va2 12 vc2) (12) (ints (scV s n)) :: .blk gx #[.int .i64 0, .bool false, .int .i64 0, .int .i64 0, .slice none 0 0, .slice none 0 0, .slice none 0 0] 46 :: .blk gn #[.int .i64 n.lv, .int .i64 n.lk, .int .i64 n.hi, .slice na n.ks.length nc, .slice nva n.vs.length nvc] 67 :: .row 3 1 (.slice (some ⟨g1, 0, none⟩) (s.bel.length + 1) cap1) (s.bel.length + 1) (ints (s.bel ++ [z + 1])) :: .row 3 1 (.slice ap s.pts.length cp) (s.pts.length) (ints (s.pts)) :: .row 3 1 (.slice na n.ks.length nc) (n.ks.length) (ints (n.ks)) :: .row 3 1 (.slice nva n.vs.length nvc) (n.vs.length) (ints (n.vs)) :: fr)))
      case first =>
        have s7 := HM.out.cell (i := 0) rfl 7 (.slice ab s.bel.length cb) rfl
        have hl9 := HM.out.lt (i := 0) rfl
        go_wp2_with (at_builtin; refine wpList_append_lies _ rfl _ _ 22 rfl B 3 i0 (.int .i64 0) 1 8 Tryz.underlying22 hi0 hz0 hz1 hz2 rfl (by decide) _ (s.bel.length) (ints (s.bel)) rfl (World.ownsRow.alloc (HM.out.get (i := 5) rfl) _) ⟨_, 0, none⟩ 1 1 [.int .i64 (z + 1)] rfl rfl (news_one _ _ _) (by simp [Value.oneCell']) (by omega) (by unfold maxLen; omega) (by omega) (by have := HM.out.sz; simp at this ⊢; omega) _ rfl ?_; intro gq capq w5 hown hgrow hat hlt1; rw [← ints_snoc] at hown; have hm := (HM.out.allocd _).lies (i := 5) rfl hown hgrow hat; clear hown hgrow hat; have z7 := hm.cell (i := 0) rfl 7 (.slice ab s.bel.length cb) rfl; have y7 := hm.free (i := 0) rfl 7; have hlg := hm.lt (i := 0) rfl; have H1 := hideIt (hm.store (i := 0) (j := 7) rfl (.slice (some ⟨gq, 0, none⟩) (s.bel.length + 1) capq) rfl); clear hm)
        go_wp2
        go_meet
        case rel => exact ⟨_, _, H1.out⟩
      case rest =>
        obtain ⟨g1, cap1, hM2⟩ := hcut
        clear HM s2 n2 k5 y1
        go_upto_region 10 with fail
        go_cut [] (fun wy => ∃ g2 cap2, Hid (M w0 B wy (.blk gs #[.int .i64 s.kd, .int .i64 s.key, .int .i64 s.val, .int .i64 s.step, .int .i64 s.pg, .slice (some ⟨b1, o1, none⟩) 12 kc2, .slice va2 12 vc2, .slice (some ⟨g1, 0, none⟩) (s.bel.length + 1) cap1, .slice (some ⟨g2, 0, none⟩) (s.pts.length + 1) cap2, .string s.sw, .int .i64 s.ver, .slice ax 0 cx, .slice ay 0 cy, .int .i64 s.laid, .int .i64 s.lv, .int .i64 s.low, .int .i64 s.ch, .int .i64 s.pt] 92 :: .row 3 1 (.slice (some ⟨b1, o1, none⟩) 12 kc2) (12) (ints (scK s n)) :: .row 3 1 (.slice va2 12 vc2) (12) (ints (scV s n)) :: .blk gx #[.int .i64 0, .bool false, .int .i64 0, .int .i64 0, .slice none 0 0, .slice none 0 0, .slice none 0 0] 46 :: .blk gn #[.int .i64 n.lv, .int .i64 n.lk, .int .i64 n.hi, .slice na n.ks.length nc, .slice nva n.vs.length nvc] 67 :: .row 3 1 (.slice (some ⟨g1, 0, none⟩) (s.bel.length + 1) cap1) (s.bel.length + 1) (ints (s.bel ++ [z + 1])) :: .row 3 1 (.slice (some ⟨g2, 0, none⟩) (s.pts.length + 1) cap2) (s.pts.length + 1) (ints (s.pts ++ [s.step])) :: .row 3 1 (.slice na n.ks.length nc) (n.ks.length) (ints (n.ks)) :: .row 3 1 (.slice nva n.vs.length nvc) (n.vs.length) (ints (n.vs)) :: fr)))
        case first =>
          have s8 := hM2.out.cell (i := 0) rfl 8 (.slice ap s.pts.length cp) rfl
          have s3 := hM2.out.cell (i := 0) rfl 3 (.int .i64 s.step) rfl
          have hl9 := hM2.out.lt (i := 0) rfl
          go_wp2_with (at_builtin; refine wpList_append_lies _ rfl _ _ 22 rfl B 3 i0 (.int .i64 0) 1 8 Tryz.underlying22 hi0 hz0 hz1 hz2 rfl (by decide) _ (s.pts.length) (ints (s.pts)) rfl (World.ownsRow.alloc (hM2.out.get (i := 6) rfl) _) ⟨_, 0, none⟩ 1 1 [.int .i64 s.step] rfl rfl (news_one _ _ _) (by simp [Value.oneCell']) (by omega) (by unfold maxLen; omega) (by omega) (by have := hM2.out.sz; simp at this ⊢; omega) _ rfl ?_; intro gq capq w5 hown hgrow hat hlt1; rw [← ints_snoc] at hown; have hm := (hM2.out.allocd _).lies (i := 6) rfl hown hgrow hat; clear hown hgrow hat; have z7 := hm.cell (i := 0) rfl 8 (.slice ap s.pts.length cp) rfl; have y7 := hm.free (i := 0) rfl 8; have hlg := hm.lt (i := 0) rfl; have H1 := hideIt (hm.store (i := 0) (j := 8) rfl (.slice (some ⟨gq, 0, none⟩) (s.pts.length + 1) capq) rfl); clear hm)
          go_wp2
          go_meet
          case rel => exact ⟨_, _, H1.out⟩
        case rest =>
          obtain ⟨g2, cap2, hM3⟩ := hcut
          clear hM2
          have SV : StV wc (scS s n) (.slice (some ⟨b1, o1, none⟩) 12 kc2) (.slice va2 12 vc2) (.slice (some ⟨g1, 0, none⟩) (s.bel.length + 1) cap1) (.slice (some ⟨g2, 0, none⟩) (s.pts.length + 1) cap2) (.slice ax 0 cx) (.slice ay 0 cy) := by
            refine ⟨?_, ?_, ?_, ?_, rd0 hsp, rd0 hsv⟩
            · have h1 : As.holds wc B (.row 3 1 (.slice (some ⟨b1, o1, none⟩) 12 kc2) (12) (ints (scK s n))) := hM3.out.get (i := 1) rfl
              show Rd wc _ (scK s n)
              rw [← HL1.out] at h1 ⊢; exact owns_rd h1
            · have h1 : As.holds wc B (.row 3 1 (.slice va2 12 vc2) (12) (ints (scV s n))) := hM3.out.get (i := 2) rfl
              show Rd wc _ (scV s n)
              rw [← HL2.out] at h1 ⊢; exact owns_rd h1
            · have h1 : As.holds wc B (.row 3 1 (.slice (some ⟨g1, 0, none⟩) (s.bel.length + 1) cap1) (s.bel.length + 1) (ints (s.bel ++ [z + 1]))) := hM3.out.get (i := 5) rfl
              show Rd wc _ (s.bel ++ [scB s n])
              rw [HBB.out]
              rw [show s.bel.length + 1 = (s.bel ++ [z + 1]).length by simp] at h1 ⊢; exact owns_rd h1
            · have h1 : As.holds wc B (.row 3 1 (.slice (some ⟨g2, 0, none⟩) (s.pts.length + 1) cap2) (s.pts.length + 1) (ints (s.pts ++ [s.step]))) := hM3.out.get (i := 6) rfl
              show Rd wc _ (s.pts ++ [s.step])
              rw [show s.pts.length + 1 = (s.pts ++ [s.step]).length by simp] at h1 ⊢; exact owns_rd h1
          have hzl : ((scS s n).bel.zip (scS s n).pts).length = (scS s n).bel.length := by
            have := HBL.out
            simp [scS, List.length_zip]; omega
          have CS := scanned_any (scS s n) _ _ _ _ _ _ wc SV (by have := HBL.out; simp [scS]; omega) (by simp [scS]; omega)
          obtain ⟨cl, hcl⟩ : ∃ x, ((scS s n).bel.zip (scS s n).pts).length = x := ⟨_, rfl⟩
          rw [← hzl, hcl] at CS
          have HCL := hideIt hcl
          obtain ⟨fdv, hfdv⟩ : ∃ x, decide (0 < (scS s n).keys.length) = x := ⟨_, rfl⟩
          obtain ⟨lnv, hlnv⟩ : ∃ x, ((scS s n).keys.length : Int) = x := ⟨_, rfl⟩
          rw [hfdv, hlnv, show (scS s n).step = s.step from rfl] at CS
          have HCS := hideIt CS
          have HFD := hideIt hfdv
          have HLN := hideIt hlnv
          have HSO : Hid (scO s n = .fin (decide (0 < (scK s n).length)) (scK s n).length s.step (scK s n) (scV s n) ((scS s n).bel.zip (scS s n).pts)) := by unfold Hid scO; rw [HE.out]; rfl
          clear CS hfdv hlnv hzl SV hcl
          go_wp2_with (refine wpList_load_row rfl 92 _ rfl _ rfl 92 _ (0, 0) _ (hM3.out.block (i := 0) rfl) Tryz.underlying92 rfl infoState ?_)
          refine HCS.out.mono ?_
          rintro e w5 ⟨cv5, rfl, hC⟩
          obtain ⟨ca5, cc5, rfl⟩ := As.form0 (hC.get (i := 0) rfl)
          have hM5 := hideIt (hM3.out.join hC)
          clear hC hM3 HCS
          have r0 := hM5.out.cell (i := 4) rfl 0 (.int .i64 0) rfl
          have f0 := hM5.out.free (i := 4) rfl 0
          have r1 := hM5.out.cell (i := 4) rfl 1 (.bool false) rfl
          have f1 := hM5.out.free (i := 4) rfl 1
          have r2 := hM5.out.cell (i := 4) rfl 2 (.int .i64 0) rfl
          have f2 := hM5.out.free (i := 4) rfl 2
          have r3 := hM5.out.cell (i := 4) rfl 3 (.int .i64 0) rfl
          have f3 := hM5.out.free (i := 4) rfl 3
          have r4 := hM5.out.cell (i := 4) rfl 4 (.slice none 0 0) rfl
          have f4 := hM5.out.free (i := 4) rfl 4
          have r5 := hM5.out.cell (i := 4) rfl 5 (.slice none 0 0) rfl
          have f5 := hM5.out.free (i := 4) rfl 5
          have r6 := hM5.out.cell (i := 4) rfl 6 (.slice none 0 0) rfl
          have f6 := hM5.out.free (i := 4) rfl 6
          have S7 := hideIt (hM5.out.store7 (i := 4) rfl (.int .i64 0) (.bool fdv) (.int .i64 lnv) (.int .i64 s.step) (.slice (some ⟨b1, o1, none⟩) 12 kc2) (.slice va2 12 vc2) (.slice ca5 cl cc5))
          clear hM5
          go_wp2
          refine bodyPost_ret (v := .tuple #[.string ⟨#[]⟩, .agg #[.int .i64 0, .bool fdv, .int .i64 lnv, .int .i64 s.step, .slice (some ⟨b1, o1, none⟩) 12 kc2, .slice va2 12 vc2, .slice ca5 cl cc5], .bool true, .int .i64 0]) (by simp [results, Tryz.results90, go_sem, *]) rfl ?_
          rw [HSO.out]
          have hF := S7.out.scOut
          refine ⟨_, _, _, by rw [← HFD.out, ← HLN.out]; rfl, ?_⟩
          rw [HL1.out, HL2.out, HCL.out]
          exact hF
  · have hf' : l < 12 := by omega
    have hfi : (l : Int) < 12 := by omega
    clear hf
    by_cases hh : s.val + 1 < n.hi
    · have HBB : Hid (scB s n = s.val + 1) := by unfold Hid scB; rw [if_neg (by rw [HL1.out]; omega), if_pos hh]
      have HE : Hid (scEnd s n = true) := by unfold Hid scEnd; rw [HBB.out]; simp
      go_upto_region 9 with fail
      go_cut [] (fun wy => ∃ g1 cap1, Hid (M w0 B wy (.blk gs #[.int .i64 s.kd, .int .i64 s.key, .int .i64 s.val, .int .i64 s.step, .int .i64 s.pg, .slice ka2 l kc2, .slice va2 l vc2, .slice (some ⟨g1, 0, none⟩) (s.bel.length + 1) cap1, .slice ap s.pts.length cp, .string s.sw, .int .i64 s.ver, .slice ax 0 cx, .slice ay 0 cy, .int .i64 s.laid, .int .i64 s.lv, .int .i64 s.low, .int .i64 s.ch, .int .i64 s.pt] 92 :: .row 3 1 (.slice ka2 l kc2) (l) (ints (scK s n)) :: .row 3 1 (.slice va2 l vc2) (l) (ints (scV s n)) :: .blk gx #[.int .i64 0, .bool false, .int .i64 0, .int .i64 0, .slice none 0 0, .slice none 0 0, .slice none 0 0] 46 :: .blk gn #[.int .i64 n.lv, .int .i64 n.lk, .int .i64 n.hi, .slice na n.ks.length nc, .slice nva n.vs.length nvc] 67 :: .row 3 1 (.slice (some ⟨g1, 0, none⟩) (s.bel.length + 1) cap1) (s.bel.length + 1) (ints (s.bel ++ [s.val + 1])) :: .row 3 1 (.slice ap s.pts.length cp) (s.pts.length) (ints (s.pts)) :: .row 3 1 (.slice na n.ks.length nc) (n.ks.length) (ints (n.ks)) :: .row 3 1 (.slice nva n.vs.length nvc) (n.vs.length) (ints (n.vs)) :: fr)))
      case first =>
        have s7 := HM.out.cell (i := 0) rfl 7 (.slice ab s.bel.length cb) rfl
        have hl9 := HM.out.lt (i := 0) rfl
        go_wp2_with (at_builtin; refine wpList_append_lies _ rfl _ _ 22 rfl B 3 i0 (.int .i64 0) 1 8 Tryz.underlying22 hi0 hz0 hz1 hz2 rfl (by decide) _ (s.bel.length) (ints (s.bel)) rfl (World.ownsRow.alloc (HM.out.get (i := 5) rfl) _) ⟨_, 0, none⟩ 1 1 [.int .i64 (s.val + 1)] rfl rfl (news_one _ _ _) (by simp [Value.oneCell']) (by omega) (by unfold maxLen; omega) (by omega) (by have := HM.out.sz; simp at this ⊢; omega) _ rfl ?_; intro gq capq w5 hown hgrow hat hlt1; rw [← ints_snoc] at hown; have hm := (HM.out.allocd _).lies (i := 5) rfl hown hgrow hat; clear hown hgrow hat; have z7 := hm.cell (i := 0) rfl 7 (.slice ab s.bel.length cb) rfl; have y7 := hm.free (i := 0) rfl 7; have hlg := hm.lt (i := 0) rfl; have H1 := hideIt (hm.store (i := 0) (j := 7) rfl (.slice (some ⟨gq, 0, none⟩) (s.bel.length + 1) capq) rfl); clear hm)
        go_wp2
        go_meet
        case rel => exact ⟨_, _, H1.out⟩
      case rest =>
        obtain ⟨g1, cap1, hM2⟩ := hcut
        clear HM s2 n2 k5
        go_upto_region 10 with fail
        go_cut [] (fun wy => ∃ g2 cap2, Hid (M w0 B wy (.blk gs #[.int .i64 s.kd, .int .i64 s.key, .int .i64 s.val, .int .i64 s.step, .int .i64 s.pg, .slice ka2 l kc2, .slice va2 l vc2, .slice (some ⟨g1, 0, none⟩) (s.bel.length + 1) cap1, .slice (some ⟨g2, 0, none⟩) (s.pts.length + 1) cap2, .string s.sw, .int .i64 s.ver, .slice ax 0 cx, .slice ay 0 cy, .int .i64 s.laid, .int .i64 s.lv, .int .i64 s.low, .int .i64 s.ch, .int .i64 s.pt] 92 :: .row 3 1 (.slice ka2 l kc2) (l) (ints (scK s n)) :: .row 3 1 (.slice va2 l vc2) (l) (ints (scV s n)) :: .blk gx #[.int .i64 0, .bool false, .int .i64 0, .int .i64 0, .slice none 0 0, .slice none 0 0, .slice none 0 0] 46 :: .blk gn #[.int .i64 n.lv, .int .i64 n.lk, .int .i64 n.hi, .slice na n.ks.length nc, .slice nva n.vs.length nvc] 67 :: .row 3 1 (.slice (some ⟨g1, 0, none⟩) (s.bel.length + 1) cap1) (s.bel.length + 1) (ints (s.bel ++ [s.val + 1])) :: .row 3 1 (.slice (some ⟨g2, 0, none⟩) (s.pts.length + 1) cap2) (s.pts.length + 1) (ints (s.pts ++ [s.step])) :: .row 3 1 (.slice na n.ks.length nc) (n.ks.length) (ints (n.ks)) :: .row 3 1 (.slice nva n.vs.length nvc) (n.vs.length) (ints (n.vs)) :: fr)))
        case first =>
          have s8 := hM2.out.cell (i := 0) rfl 8 (.slice ap s.pts.length cp) rfl
          have s3 := hM2.out.cell (i := 0) rfl 3 (.int .i64 s.step) rfl
          have hl9 := hM2.out.lt (i := 0) rfl
          go_wp2_with (at_builtin; refine wpList_append_lies _ rfl _ _ 22 rfl B 3 i0 (.int .i64 0) 1 8 Tryz.underlying22 hi0 hz0 hz1 hz2 rfl (by decide) _ (s.pts.length) (ints (s.pts)) rfl (World.ownsRow.alloc (hM2.out.get (i := 6) rfl) _) ⟨_, 0, none⟩ 1 1 [.int .i64 s.step] rfl rfl (news_one _ _ _) (by simp [Value.oneCell']) (by omega) (by unfold maxLen; omega) (by omega) (by have := hM2.out.sz; simp at this ⊢; omega) _ rfl ?_; intro gq capq w5 hown hgrow hat hlt1; rw [← ints_snoc] at hown; have hm := (hM2.out.allocd _).lies (i := 6) rfl hown hgrow hat; clear hown hgrow hat; have z7 := hm.cell (i := 0) rfl 8 (.slice ap s.pts.length cp) rfl; have y7 := hm.free (i := 0) rfl 8; have hlg := hm.lt (i := 0) rfl; have H1 := hideIt (hm.store (i := 0) (j := 8) rfl (.slice (some ⟨gq, 0, none⟩) (s.pts.length + 1) capq) rfl); clear hm)
          go_wp2
          go_meet
          case rel => exact ⟨_, _, H1.out⟩
        case rest =>
          obtain ⟨g2, cap2, hM3⟩ := hcut
          clear hM2
          have SV : StV wc (scS s n) (.slice ka2 l kc2) (.slice va2 l vc2) (.slice (some ⟨g1, 0, none⟩) (s.bel.length + 1) cap1) (.slice (some ⟨g2, 0, none⟩) (s.pts.length + 1) cap2) (.slice ax 0 cx) (.slice ay 0 cy) := by
            refine ⟨?_, ?_, ?_, ?_, rd0 hsp, rd0 hsv⟩
            · have h1 : As.holds wc B (.row 3 1 (.slice ka2 l kc2) (l) (ints (scK s n))) := hM3.out.get (i := 1) rfl
              show Rd wc _ (scK s n)
              rw [← HL1.out] at h1 ⊢; exact owns_rd h1
            · have h1 : As.holds wc B (.row 3 1 (.slice va2 l vc2) (l) (ints (scV s n))) := hM3.out.get (i := 2) rfl
              show Rd wc _ (scV s n)
              rw [← HL2.out] at h1 ⊢; exact owns_rd h1
            · have h1 : As.holds wc B (.row 3 1 (.slice (some ⟨g1, 0, none⟩) (s.bel.length + 1) cap1) (s.bel.length + 1) (ints (s.bel ++ [s.val + 1]))) := hM3.out.get (i := 5) rfl
              show Rd wc _ (s.bel ++ [scB s n])
              rw [HBB.out]
              rw [show s.bel.length + 1 = (s.bel ++ [s.val + 1]).length by simp] at h1 ⊢; exact owns_rd h1
            · have h1 : As.holds wc B (.row 3 1 (.slice (some ⟨g2, 0, none⟩) (s.pts.length + 1) cap2) (s.pts.length + 1) (ints (s.pts ++ [s.step]))) := hM3.out.get (i := 6) rfl
              show Rd wc _ (s.pts ++ [s.step])
              rw [show s.pts.length + 1 = (s.pts ++ [s.step]).length by simp] at h1 ⊢; exact owns_rd h1
          have hzl : ((scS s n).bel.zip (scS s n).pts).length = (scS s n).bel.length := by
            have := HBL.out
            simp [scS, List.length_zip]; omega
          have CS := scanned_any (scS s n) _ _ _ _ _ _ wc SV (by have := HBL.out; simp [scS]; omega) (by simp [scS]; omega)
          obtain ⟨cl, hcl⟩ : ∃ x, ((scS s n).bel.zip (scS s n).pts).length = x := ⟨_, rfl⟩
          rw [← hzl, hcl] at CS
          have HCL := hideIt hcl
          obtain ⟨fdv, hfdv⟩ : ∃ x, decide (0 < (scS s n).keys.length) = x := ⟨_, rfl⟩
          obtain ⟨lnv, hlnv⟩ : ∃ x, ((scS s n).keys.length : Int) = x := ⟨_, rfl⟩
          rw [hfdv, hlnv, show (scS s n).step = s.step from rfl] at CS
          have HCS := hideIt CS
          have HFD := hideIt hfdv
          have HLN := hideIt hlnv
          have HSO : Hid (scO s n = .fin (decide (0 < (scK s n).length)) (scK s n).length s.step (scK s n) (scV s n) ((scS s n).bel.zip (scS s n).pts)) := by unfold Hid scO; rw [HE.out]; rfl
          clear CS hfdv hlnv hzl SV hcl
          go_wp2_with (refine wpList_load_row rfl 92 _ rfl _ rfl 92 _ (0, 0) _ (hM3.out.block (i := 0) rfl) Tryz.underlying92 rfl infoState ?_)
          refine HCS.out.mono ?_
          rintro e w5 ⟨cv5, rfl, hC⟩
          obtain ⟨ca5, cc5, rfl⟩ := As.form0 (hC.get (i := 0) rfl)
          have hM5 := hideIt (hM3.out.join hC)
          clear hC hM3 HCS
          have r0 := hM5.out.cell (i := 4) rfl 0 (.int .i64 0) rfl
          have f0 := hM5.out.free (i := 4) rfl 0
          have r1 := hM5.out.cell (i := 4) rfl 1 (.bool false) rfl
          have f1 := hM5.out.free (i := 4) rfl 1
          have r2 := hM5.out.cell (i := 4) rfl 2 (.int .i64 0) rfl
          have f2 := hM5.out.free (i := 4) rfl 2
          have r3 := hM5.out.cell (i := 4) rfl 3 (.int .i64 0) rfl
          have f3 := hM5.out.free (i := 4) rfl 3
          have r4 := hM5.out.cell (i := 4) rfl 4 (.slice none 0 0) rfl
          have f4 := hM5.out.free (i := 4) rfl 4
          have r5 := hM5.out.cell (i := 4) rfl 5 (.slice none 0 0) rfl
          have f5 := hM5.out.free (i := 4) rfl 5
          have r6 := hM5.out.cell (i := 4) rfl 6 (.slice none 0 0) rfl
          have f6 := hM5.out.free (i := 4) rfl 6
          have S7 := hideIt (hM5.out.store7 (i := 4) rfl (.int .i64 0) (.bool fdv) (.int .i64 lnv) (.int .i64 s.step) (.slice ka2 l kc2) (.slice va2 l vc2) (.slice ca5 cl cc5))
          clear hM5
          go_wp2
          refine bodyPost_ret (v := .tuple #[.string ⟨#[]⟩, .agg #[.int .i64 0, .bool fdv, .int .i64 lnv, .int .i64 s.step, .slice ka2 l kc2, .slice va2 l vc2, .slice ca5 cl cc5], .bool true, .int .i64 0]) (by simp [results, Tryz.results90, go_sem, *]) rfl ?_
          rw [HSO.out]
          have hF := S7.out.scOut
          refine ⟨_, _, _, by rw [← HFD.out, ← HLN.out]; rfl, ?_⟩
          rw [HL1.out, HL2.out, HCL.out]
          exact hF
    · have hh' : n.hi ≤ s.val + 1 := by omega
      have HBB : Hid (scB s n = n.hi) := by unfold Hid scB; rw [if_neg (by rw [HL1.out]; omega), if_neg hh]
      clear hh
      by_cases he : n.hi = s.val + 1
      · have heb : (n.hi == s.val + 1) = true := by simp [he]
        have HE : Hid (scEnd s n = true) := by unfold Hid scEnd; rw [HBB.out, he]; simp
        clear he
        go_upto_region 9 with fail
        go_cut [] (fun wy => ∃ g1 cap1, Hid (M w0 B wy (.blk gs #[.int .i64 s.kd, .int .i64 s.key, .int .i64 s.val, .int .i64 s.step, .int .i64 s.pg, .slice ka2 l kc2, .slice va2 l vc2, .slice (some ⟨g1, 0, none⟩) (s.bel.length + 1) cap1, .slice ap s.pts.length cp, .string s.sw, .int .i64 s.ver, .slice ax 0 cx, .slice ay 0 cy, .int .i64 s.laid, .int .i64 s.lv, .int .i64 s.low, .int .i64 s.ch, .int .i64 s.pt] 92 :: .row 3 1 (.slice ka2 l kc2) (l) (ints (scK s n)) :: .row 3 1 (.slice va2 l vc2) (l) (ints (scV s n)) :: .blk gx #[.int .i64 0, .bool false, .int .i64 0, .int .i64 0, .slice none 0 0, .slice none 0 0, .slice none 0 0] 46 :: .blk gn #[.int .i64 n.lv, .int .i64 n.lk, .int .i64 n.hi, .slice na n.ks.length nc, .slice nva n.vs.length nvc] 67 :: .row 3 1 (.slice (some ⟨g1, 0, none⟩) (s.bel.length + 1) cap1) (s.bel.length + 1) (ints (s.bel ++ [n.hi])) :: .row 3 1 (.slice ap s.pts.length cp) (s.pts.length) (ints (s.pts)) :: .row 3 1 (.slice na n.ks.length nc) (n.ks.length) (ints (n.ks)) :: .row 3 1 (.slice nva n.vs.length nvc) (n.vs.length) (ints (n.vs)) :: fr)))
        case first =>
          have s7 := HM.out.cell (i := 0) rfl 7 (.slice ab s.bel.length cb) rfl
          have hl9 := HM.out.lt (i := 0) rfl
          go_wp2_with (at_builtin; refine wpList_append_lies _ rfl _ _ 22 rfl B 3 i0 (.int .i64 0) 1 8 Tryz.underlying22 hi0 hz0 hz1 hz2 rfl (by decide) _ (s.bel.length) (ints (s.bel)) rfl (World.ownsRow.alloc (HM.out.get (i := 5) rfl) _) ⟨_, 0, none⟩ 1 1 [.int .i64 (n.hi)] rfl rfl (news_one _ _ _) (by simp [Value.oneCell']) (by omega) (by unfold maxLen; omega) (by omega) (by have := HM.out.sz; simp at this ⊢; omega) _ rfl ?_; intro gq capq w5 hown hgrow hat hlt1; rw [← ints_snoc] at hown; have hm := (HM.out.allocd _).lies (i := 5) rfl hown hgrow hat; clear hown hgrow hat; have z7 := hm.cell (i := 0) rfl 7 (.slice ab s.bel.length cb) rfl; have y7 := hm.free (i := 0) rfl 7; have hlg := hm.lt (i := 0) rfl; have H1 := hideIt (hm.store (i := 0) (j := 7) rfl (.slice (some ⟨gq, 0, none⟩) (s.bel.length + 1) capq) rfl); clear hm)
          go_wp2
          go_meet
          case rel => exact ⟨_, _, H1.out⟩
        case rest =>
          obtain ⟨g1, cap1, hM2⟩ := hcut
          clear HM s2 n2 k5
          go_upto_region 10 with fail
          go_cut [] (fun wy => ∃ g2 cap2, Hid (M w0 B wy (.blk gs #[.int .i64 s.kd, .int .i64 s.key, .int .i64 s.val, .int .i64 s.step, .int .i64 s.pg, .slice ka2 l kc2, .slice va2 l vc2, .slice (some ⟨g1, 0, none⟩) (s.bel.length + 1) cap1, .slice (some ⟨g2, 0, none⟩) (s.pts.length + 1) cap2, .string s.sw, .int .i64 s.ver, .slice ax 0 cx, .slice ay 0 cy, .int .i64 s.laid, .int .i64 s.lv, .int .i64 s.low, .int .i64 s.ch, .int .i64 s.pt] 92 :: .row 3 1 (.slice ka2 l kc2) (l) (ints (scK s n)) :: .row 3 1 (.slice va2 l vc2) (l) (ints (scV s n)) :: .blk gx #[.int .i64 0, .bool false, .int .i64 0, .int .i64 0, .slice none 0 0, .slice none 0 0, .slice none 0 0] 46 :: .blk gn #[.int .i64 n.lv, .int .i64 n.lk, .int .i64 n.hi, .slice na n.ks.length nc, .slice nva n.vs.length nvc] 67 :: .row 3 1 (.slice (some ⟨g1, 0, none⟩) (s.bel.length + 1) cap1) (s.bel.length + 1) (ints (s.bel ++ [n.hi])) :: .row 3 1 (.slice (some ⟨g2, 0, none⟩) (s.pts.length + 1) cap2) (s.pts.length + 1) (ints (s.pts ++ [s.step])) :: .row 3 1 (.slice na n.ks.length nc) (n.ks.length) (ints (n.ks)) :: .row 3 1 (.slice nva n.vs.length nvc) (n.vs.length) (ints (n.vs)) :: fr)))
          case first =>
            have s8 := hM2.out.cell (i := 0) rfl 8 (.slice ap s.pts.length cp) rfl
            have s3 := hM2.out.cell (i := 0) rfl 3 (.int .i64 s.step) rfl
            have hl9 := hM2.out.lt (i := 0) rfl
            go_wp2_with (at_builtin; refine wpList_append_lies _ rfl _ _ 22 rfl B 3 i0 (.int .i64 0) 1 8 Tryz.underlying22 hi0 hz0 hz1 hz2 rfl (by decide) _ (s.pts.length) (ints (s.pts)) rfl (World.ownsRow.alloc (hM2.out.get (i := 6) rfl) _) ⟨_, 0, none⟩ 1 1 [.int .i64 s.step] rfl rfl (news_one _ _ _) (by simp [Value.oneCell']) (by omega) (by unfold maxLen; omega) (by omega) (by have := hM2.out.sz; simp at this ⊢; omega) _ rfl ?_; intro gq capq w5 hown hgrow hat hlt1; rw [← ints_snoc] at hown; have hm := (hM2.out.allocd _).lies (i := 6) rfl hown hgrow hat; clear hown hgrow hat; have z7 := hm.cell (i := 0) rfl 8 (.slice ap s.pts.length cp) rfl; have y7 := hm.free (i := 0) rfl 8; have hlg := hm.lt (i := 0) rfl; have H1 := hideIt (hm.store (i := 0) (j := 8) rfl (.slice (some ⟨gq, 0, none⟩) (s.pts.length + 1) capq) rfl); clear hm)
            go_wp2
            go_meet
            case rel => exact ⟨_, _, H1.out⟩
          case rest =>
            obtain ⟨g2, cap2, hM3⟩ := hcut
            clear hM2
            have SV : StV wc (scS s n) (.slice ka2 l kc2) (.slice va2 l vc2) (.slice (some ⟨g1, 0, none⟩) (s.bel.length + 1) cap1) (.slice (some ⟨g2, 0, none⟩) (s.pts.length + 1) cap2) (.slice ax 0 cx) (.slice ay 0 cy) := by
              refine ⟨?_, ?_, ?_, ?_, rd0 hsp, rd0 hsv⟩
              · have h1 : As.holds wc B (.row 3 1 (.slice ka2 l kc2) (l) (ints (scK s n))) := hM3.out.get (i := 1) rfl
                show Rd wc _ (scK s n)
                rw [← HL1.out] at h1 ⊢; exact owns_rd h1
              · have h1 : As.holds wc B (.row 3 1 (.slice va2 l vc2) (l) (ints (scV s n))) := hM3.out.get (i := 2) rfl
                show Rd wc _ (scV s n)
                rw [← HL2.out] at h1 ⊢; exact owns_rd h1
              · have h1 : As.holds wc B (.row 3 1 (.slice (some ⟨g1, 0, none⟩) (s.bel.length + 1) cap1) (s.bel.length + 1) (ints (s.bel ++ [n.hi]))) := hM3.out.get (i := 5) rfl
                show Rd wc _ (s.bel ++ [scB s n])
                rw [HBB.out]
                rw [show s.bel.length + 1 = (s.bel ++ [n.hi]).length by simp] at h1 ⊢; exact owns_rd h1
              · have h1 : As.holds wc B (.row 3 1 (.slice (some ⟨g2, 0, none⟩) (s.pts.length + 1) cap2) (s.pts.length + 1) (ints (s.pts ++ [s.step]))) := hM3.out.get (i := 6) rfl
                show Rd wc _ (s.pts ++ [s.step])
                rw [show s.pts.length + 1 = (s.pts ++ [s.step]).length by simp] at h1 ⊢; exact owns_rd h1
            have hzl : ((scS s n).bel.zip (scS s n).pts).length = (scS s n).bel.length := by
              have := HBL.out
              simp [scS, List.length_zip]; omega
            have CS := scanned_any (scS s n) _ _ _ _ _ _ wc SV (by have := HBL.out; simp [scS]; omega) (by simp [scS]; omega)
            obtain ⟨cl, hcl⟩ : ∃ x, ((scS s n).bel.zip (scS s n).pts).length = x := ⟨_, rfl⟩
            rw [← hzl, hcl] at CS
            have HCL := hideIt hcl
            obtain ⟨fdv, hfdv⟩ : ∃ x, decide (0 < (scS s n).keys.length) = x := ⟨_, rfl⟩
            obtain ⟨lnv, hlnv⟩ : ∃ x, ((scS s n).keys.length : Int) = x := ⟨_, rfl⟩
            rw [hfdv, hlnv, show (scS s n).step = s.step from rfl] at CS
            have HCS := hideIt CS
            have HFD := hideIt hfdv
            have HLN := hideIt hlnv
            have HSO : Hid (scO s n = .fin (decide (0 < (scK s n).length)) (scK s n).length s.step (scK s n) (scV s n) ((scS s n).bel.zip (scS s n).pts)) := by unfold Hid scO; rw [HE.out]; rfl
            clear CS hfdv hlnv hzl SV hcl
            go_wp2_with (refine wpList_load_row rfl 92 _ rfl _ rfl 92 _ (0, 0) _ (hM3.out.block (i := 0) rfl) Tryz.underlying92 rfl infoState ?_)
            refine HCS.out.mono ?_
            rintro e w5 ⟨cv5, rfl, hC⟩
            obtain ⟨ca5, cc5, rfl⟩ := As.form0 (hC.get (i := 0) rfl)
            have hM5 := hideIt (hM3.out.join hC)
            clear hC hM3 HCS
            have r0 := hM5.out.cell (i := 4) rfl 0 (.int .i64 0) rfl
            have f0 := hM5.out.free (i := 4) rfl 0
            have r1 := hM5.out.cell (i := 4) rfl 1 (.bool false) rfl
            have f1 := hM5.out.free (i := 4) rfl 1
            have r2 := hM5.out.cell (i := 4) rfl 2 (.int .i64 0) rfl
            have f2 := hM5.out.free (i := 4) rfl 2
            have r3 := hM5.out.cell (i := 4) rfl 3 (.int .i64 0) rfl
            have f3 := hM5.out.free (i := 4) rfl 3
            have r4 := hM5.out.cell (i := 4) rfl 4 (.slice none 0 0) rfl
            have f4 := hM5.out.free (i := 4) rfl 4
            have r5 := hM5.out.cell (i := 4) rfl 5 (.slice none 0 0) rfl
            have f5 := hM5.out.free (i := 4) rfl 5
            have r6 := hM5.out.cell (i := 4) rfl 6 (.slice none 0 0) rfl
            have f6 := hM5.out.free (i := 4) rfl 6
            have S7 := hideIt (hM5.out.store7 (i := 4) rfl (.int .i64 0) (.bool fdv) (.int .i64 lnv) (.int .i64 s.step) (.slice ka2 l kc2) (.slice va2 l vc2) (.slice ca5 cl cc5))
            clear hM5
            go_wp2
            refine bodyPost_ret (v := .tuple #[.string ⟨#[]⟩, .agg #[.int .i64 0, .bool fdv, .int .i64 lnv, .int .i64 s.step, .slice ka2 l kc2, .slice va2 l vc2, .slice ca5 cl cc5], .bool true, .int .i64 0]) (by simp [results, Tryz.results90, go_sem, *]) rfl ?_
            rw [HSO.out]
            have hF := S7.out.scOut
            refine ⟨_, _, _, by rw [← HFD.out, ← HLN.out]; rfl, ?_⟩
            rw [HL1.out, HL2.out, HCL.out]
            exact hF
      · have heb : (n.hi == s.val + 1) = false := by simp [he]
        have HE : Hid (scEnd s n = false) := by
          unfold Hid scEnd
          rw [HBB.out, HL1.out]
          simp [he]; omega
        clear he
        go_upto_region 9 with fail
        go_cut [] (fun wy => ∃ g1 cap1, Hid (M w0 B wy (.blk gs #[.int .i64 s.kd, .int .i64 s.key, .int .i64 s.val, .int .i64 s.step, .int .i64 s.pg, .slice ka2 l kc2, .slice va2 l vc2, .slice (some ⟨g1, 0, none⟩) (s.bel.length + 1) cap1, .slice ap s.pts.length cp, .string s.sw, .int .i64 s.ver, .slice ax 0 cx, .slice ay 0 cy, .int .i64 s.laid, .int .i64 s.lv, .int .i64 s.low, .int .i64 s.ch, .int .i64 s.pt] 92 :: .row 3 1 (.slice ka2 l kc2) (l) (ints (scK s n)) :: .row 3 1 (.slice va2 l vc2) (l) (ints (scV s n)) :: .blk gx #[.int .i64 0, .bool false, .int .i64 0, .int .i64 0, .slice none 0 0, .slice none 0 0, .slice none 0 0] 46 :: .blk gn #[.int .i64 n.lv, .int .i64 n.lk, .int .i64 n.hi, .slice na n.ks.length nc, .slice nva n.vs.length nvc] 67 :: .row 3 1 (.slice (some ⟨g1, 0, none⟩) (s.bel.length + 1) cap1) (s.bel.length + 1) (ints (s.bel ++ [n.hi])) :: .row 3 1 (.slice ap s.pts.length cp) (s.pts.length) (ints (s.pts)) :: .row 3 1 (.slice na n.ks.length nc) (n.ks.length) (ints (n.ks)) :: .row 3 1 (.slice nva n.vs.length nvc) (n.vs.length) (ints (n.vs)) :: fr)))
        case first =>
          have s7 := HM.out.cell (i := 0) rfl 7 (.slice ab s.bel.length cb) rfl
          have hl9 := HM.out.lt (i := 0) rfl
          go_wp2_with (at_builtin; refine wpList_append_lies _ rfl _ _ 22 rfl B 3 i0 (.int .i64 0) 1 8 Tryz.underlying22 hi0 hz0 hz1 hz2 rfl (by decide) _ (s.bel.length) (ints (s.bel)) rfl (World.ownsRow.alloc (HM.out.get (i := 5) rfl) _) ⟨_, 0, none⟩ 1 1 [.int .i64 (n.hi)] rfl rfl (news_one _ _ _) (by simp [Value.oneCell']) (by omega) (by unfold maxLen; omega) (by omega) (by have := HM.out.sz; simp at this ⊢; omega) _ rfl ?_; intro gq capq w5 hown hgrow hat hlt1; rw [← ints_snoc] at hown; have hm := (HM.out.allocd _).lies (i := 5) rfl hown hgrow hat; clear hown hgrow hat; have z7 := hm.cell (i := 0) rfl 7 (.slice ab s.bel.length cb) rfl; have y7 := hm.free (i := 0) rfl 7; have hlg := hm.lt (i := 0) rfl; have H1 := hideIt (hm.store (i := 0) (j := 7) rfl (.slice (some ⟨gq, 0, none⟩) (s.bel.length + 1) capq) rfl); clear hm)
          go_wp2
          go_meet
          case rel => exact ⟨_, _, H1.out⟩
        case rest =>
          obtain ⟨g1, cap1, hM2⟩ := hcut
          clear HM s2 n2 k5
          go_upto_region 10 with fail
          go_cut [] (fun wy => ∃ g2 cap2, Hid (M w0 B wy (.blk gs #[.int .i64 s.kd, .int .i64 s.key, .int .i64 s.val, .int .i64 s.step, .int .i64 s.pg, .slice ka2 l kc2, .slice va2 l vc2, .slice (some ⟨g1, 0, none⟩) (s.bel.length + 1) cap1, .slice (some ⟨g2, 0, none⟩) (s.pts.length + 1) cap2, .string s.sw, .int .i64 s.ver, .slice ax 0 cx, .slice ay 0 cy, .int .i64 s.laid, .int .i64 s.lv, .int .i64 s.low, .int .i64 s.ch, .int .i64 s.pt] 92 :: .row 3 1 (.slice ka2 l kc2) (l) (ints (scK s n)) :: .row 3 1 (.slice va2 l vc2) (l) (ints (scV s n)) :: .blk gx #[.int .i64 0, .bool false, .int .i64 0, .int .i64 0, .slice none 0 0, .slice none 0 0, .slice none 0 0] 46 :: .blk gn #[.int .i64 n.lv, .int .i64 n.lk, .int .i64 n.hi, .slice na n.ks.length nc, .slice nva n.vs.length nvc] 67 :: .row 3 1 (.slice (some ⟨g1, 0, none⟩) (s.bel.length + 1) cap1) (s.bel.length + 1) (ints (s.bel ++ [n.hi])) :: .row 3 1 (.slice (some ⟨g2, 0, none⟩) (s.pts.length + 1) cap2) (s.pts.length + 1) (ints (s.pts ++ [s.step])) :: .row 3 1 (.slice na n.ks.length nc) (n.ks.length) (ints (n.ks)) :: .row 3 1 (.slice nva n.vs.length nvc) (n.vs.length) (ints (n.vs)) :: fr)))
          case first =>
            have s8 := hM2.out.cell (i := 0) rfl 8 (.slice ap s.pts.length cp) rfl
            have s3 := hM2.out.cell (i := 0) rfl 3 (.int .i64 s.step) rfl
            have hl9 := hM2.out.lt (i := 0) rfl
            go_wp2_with (at_builtin; refine wpList_append_lies _ rfl _ _ 22 rfl B 3 i0 (.int .i64 0) 1 8 Tryz.underlying22 hi0 hz0 hz1 hz2 rfl (by decide) _ (s.pts.length) (ints (s.pts)) rfl (World.ownsRow.alloc (hM2.out.get (i := 6) rfl) _) ⟨_, 0, none⟩ 1 1 [.int .i64 s.step] rfl rfl (news_one _ _ _) (by simp [Value.oneCell']) (by omega) (by unfold maxLen; omega) (by omega) (by have := hM2.out.sz; simp at this ⊢; omega) _ rfl ?_; intro gq capq w5 hown hgrow hat hlt1; rw [← ints_snoc] at hown; have hm := (hM2.out.allocd _).lies (i := 6) rfl hown hgrow hat; clear hown hgrow hat; have z7 := hm.cell (i := 0) rfl 8 (.slice ap s.pts.length cp) rfl; have y7 := hm.free (i := 0) rfl 8; have hlg := hm.lt (i := 0) rfl; have H1 := hideIt (hm.store (i := 0) (j := 8) rfl (.slice (some ⟨gq, 0, none⟩) (s.pts.length + 1) capq) rfl); clear hm)
            go_wp2
            go_meet
            case rel => exact ⟨_, _, H1.out⟩
          case rest =>
            obtain ⟨g2, cap2, hM3⟩ := hcut
            clear hM2
            have SV : StV wc (scS s n) (.slice ka2 l kc2) (.slice va2 l vc2) (.slice (some ⟨g1, 0, none⟩) (s.bel.length + 1) cap1) (.slice (some ⟨g2, 0, none⟩) (s.pts.length + 1) cap2) (.slice ax 0 cx) (.slice ay 0 cy) := by
              refine ⟨?_, ?_, ?_, ?_, rd0 hsp, rd0 hsv⟩
              · have h1 : As.holds wc B (.row 3 1 (.slice ka2 l kc2) (l) (ints (scK s n))) := hM3.out.get (i := 1) rfl
                show Rd wc _ (scK s n)
                rw [← HL1.out] at h1 ⊢; exact owns_rd h1
              · have h1 : As.holds wc B (.row 3 1 (.slice va2 l vc2) (l) (ints (scV s n))) := hM3.out.get (i := 2) rfl
                show Rd wc _ (scV s n)
                rw [← HL2.out] at h1 ⊢; exact owns_rd h1
              · have h1 : As.holds wc B (.row 3 1 (.slice (some ⟨g1, 0, none⟩) (s.bel.length + 1) cap1) (s.bel.length + 1) (ints (s.bel ++ [n.hi]))) := hM3.out.get (i := 5) rfl
                show Rd wc _ (s.bel ++ [scB s n])
                rw [HBB.out]
                rw [show s.bel.length + 1 = (s.bel ++ [n.hi]).length by simp] at h1 ⊢; exact owns_rd h1
              · have h1 : As.holds wc B (.row 3 1 (.slice (some ⟨g2, 0, none⟩) (s.pts.length + 1) cap2) (s.pts.length + 1) (ints (s.pts ++ [s.step]))) := hM3.out.get (i := 6) rfl
                show Rd wc _ (s.pts ++ [s.step])
                rw [show s.pts.length + 1 = (s.pts ++ [s.step]).length by simp] at h1 ⊢; exact owns_rd h1
            have HSO : Hid (scO s n = .on { scS s n with pg := n.lk, step := s.step + 1 }) := by unfold Hid scO; rw [HE.out]; rfl
            obtain ⟨hk1, hk2⟩ := HLK.out HE.out
            have HCS := hideIt (readOn_any (scS s n) n.lk _ _ _ _ _ _ wc (HT.out _ _ hM3.out) SV hk2 (by show s.step ≤ 1000000000; omega) hs0 hk1)
            have n1 := hM3.out.cell (i := 4) rfl 1 (.int .i64 n.lk) rfl
            clear SV hk1 hk2
            go_wp2_with (refine wpList_load_row rfl 92 _ rfl _ rfl 92 _ (0, 0) _ (hM3.out.block (i := 0) rfl) Tryz.underlying92 rfl infoState ?_)
            refine HCS.out.mono ?_
            rintro e w5 ⟨⟨c5, rfl, hc5⟩, hb5⟩
            have hM5 := hideIt (hM3.out.below hb5)
            have HC5 := hideIt hc5
            clear hc5 hb5 hM3 HCS n1
            have r0 := hM5.out.cell (i := 3) rfl 0 (.int .i64 0) rfl
            have f0 := hM5.out.free (i := 3) rfl 0
            have r1 := hM5.out.cell (i := 3) rfl 1 (.bool false) rfl
            have f1 := hM5.out.free (i := 3) rfl 1
            have r2 := hM5.out.cell (i := 3) rfl 2 (.int .i64 0) rfl
            have f2 := hM5.out.free (i := 3) rfl 2
            have r3 := hM5.out.cell (i := 3) rfl 3 (.int .i64 0) rfl
            have f3 := hM5.out.free (i := 3) rfl 3
            have r4 := hM5.out.cell (i := 3) rfl 4 (.slice none 0 0) rfl
            have f4 := hM5.out.free (i := 3) rfl 4
            have r5 := hM5.out.cell (i := 3) rfl 5 (.slice none 0 0) rfl
            have f5 := hM5.out.free (i := 3) rfl 5
            have r6 := hM5.out.cell (i := 3) rfl 6 (.slice none 0 0) rfl
            have f6 := hM5.out.free (i := 3) rfl 6
            have S7 := hideIt (hM5.out.store7 (i := 3) rfl (.int .i64 0) (.bool false) (.int .i64 0) (.int .i64 0) (.slice none 0 0) (.slice none 0 0) (.slice none 0 0))
            clear hM5
            rw [show ans0 = #[.int .i64 0, .bool false, .int .i64 0, .int .i64 0, .slice none 0 0, .slice none 0 0, .slice none 0 0] from rfl]
            go_wp2
            refine bodyPost_ret (v := .tuple #[.string c5, .agg #[.int .i64 0, .bool false, .int .i64 0, .int .i64 0, .slice none 0 0, .slice none 0 0, .slice none 0 0], .bool false, .int .i64 0]) (by simp [results, Tryz.results90, go_sem, *]) rfl ?_
            rw [HSO.out]
            exact ⟨⟨c5, rfl, HC5.out⟩, S7.out.scOn⟩
end Go.Proofs.YtajobgmnmbnhiaaGreatDoor.Sap
