/- WHAT IS PROVED HERE: what tree.scanLeaf answers. Conditions: named at the theorem. -/
import Derived.Test.YtajobgmnmbnhiaaDoorXParseS0
import Derived.Test.YtajobgmnmbnhiaaDoorXD1L4
namespace Go.Proofs.YtajobgmnmbnhiaaDoor.Sap
open Go.RowKit

theorem M.scIn {w0 w : World} {B : Nat} {x y s k v : As} {fr : List As} (h : M w0 B w (x :: y :: s :: k :: v :: fr)) : M w0 B w (s :: k :: v :: x :: y :: fr) :=
  h.perm (List.Perm.append_right (l₁ := [s, k, v] ++ [x, y]) (l₂ := [x, y] ++ [s, k, v]) fr List.perm_append_comm)
theorem M.scOut {w0 w : World} {B : Nat} {c s k v x y b p a d : As} {fr : List As} (h : M w0 B w (c :: s :: k :: v :: x :: y :: b :: p :: a :: d :: fr)) : M w0 B w (k :: v :: c :: fr) := by
  have h1 : M w0 B w ([c] ++ ([k, v] ++ fr)) := h.sub (.cons_cons _ (.cons _ (.cons_cons _ (.cons_cons _ (.cons _ (.cons _ (.cons _ (.cons _ (.cons _ (.cons _ (List.Sublist.refl _)))))))))))
  exact h1.perm (l' := ([k, v] ++ [c]) ++ fr) (by rw [← List.append_assoc]; exact List.Perm.append_right _ List.perm_append_comm)
theorem M.scOn {w0 w : World} {B : Nat} {s k v x y b p a d : As} {fr : List As} (h : M w0 B w (s :: k :: v :: x :: y :: b :: p :: a :: d :: fr)) : M w0 B w fr :=
  h.sub (.cons _ (.cons _ (.cons _ (.cons _ (.cons _ (.cons _ (.cons _ (.cons _ (.cons _ (List.Sublist.refl _))))))))))

/-- What scanLeaf answers. -/
def ScR (o : Out) (w0 : World) (B : Nat) (w' : World) (fr : List As) (e : Ending) : Prop :=
  match o with
  | .inl s' => OnR s' e ∧ M w0 B w' fr
  | .inr (fd, va, pt, ks, vs, cs) => ∃ kv' vv' cv', e = .returned (.tuple #[.string ⟨#[]⟩, .agg #[.int .i64 0, .bool fd, .int .i64 va, .int .i64 pt, kv', vv', cv'], .bool true, .int .i64 0]) ∧ M w0 B w' (.row 3 1 kv' ks.length (ints ks) :: .row 3 1 vv' vs.length (ints vs) :: .row 142 2 cv' cs.length (cutc cs) :: fr)

set_option maxRecDepth 100000 in
set_option maxHeartbeats 6400000 in
theorem scanLeaf_any (s : St) (n : Nd) (kv vv bv pv ka va : Value) (ax ay : Option Addr) (cx cy : Nat) (hsp : s.sp = []) (hsv : s.sv = []) (fr : List As) (w0 w : World) (B : Nat) (htab : Tab w0) (hB : B = w0.heap.size) (hI : StI s) (hkl : s.keys.length = s.vals.length) (hbl : s.bel.length = s.pts.length) (hb63 : s.bel.length ≤ 63) (hs0 : 0 ≤ s.step) (hs1 : s.step ≤ 1000000000) (hv0 : 0 ≤ s.val) (hv1 : s.val ≤ 10000) (_hh1 : 1 ≤ n.hi) (_hh2 : n.hi ≤ 10000)
    (h : M w0 B w (.row 3 1 kv s.keys.length (ints s.keys) :: .row 3 1 vv s.keys.length (ints s.vals) :: .row 3 1 bv s.bel.length (ints s.bel) :: .row 3 1 pv s.pts.length (ints s.pts) :: .row 3 1 ka n.ks.length (ints n.ks) :: .row 3 1 va n.vs.length (ints n.vs) :: fr))
    (hn : n.ks.length = n.vs.length) (h6 : n.ks.length ≤ 6) (hkr : ∀ x ∈ n.ks, 0 ≤ x ∧ x ≤ 10000) (hsk : ∀ x ∈ s.keys, 0 ≤ x ∧ x ≤ 10000) (hlk : scEnd s n = false → 0 ≤ n.lk ∧ StI { scS s n with pg := n.lk, step := s.step + 1 }) :
    Calls Tryd.prog 106 #[.agg #[.int .i64 s.kd, .int .i64 s.key, .int .i64 s.val, .int .i64 s.step, .int .i64 s.pg, kv, vv, bv, pv, .string s.sw, .int .i64 s.ver, .slice ax 0 cx, .slice ay 0 cy, .int .i64 s.laid, .int .i64 s.lv, .int .i64 s.low, .int .i64 s.ch, .int .i64 s.pt], .agg #[.int .i64 n.lv, .int .i64 n.lk, .int .i64 n.hi, ka, va]] w fun e w' => ScR (scO s n) w0 B w' fr e := by
  obtain ⟨i0, hi0, hz0, hz1, hz2⟩ := info_parts infoInt
  obtain ⟨ak, ck, rfl⟩ := As.form0 (h.get (i := 0) rfl)
  obtain ⟨av, cv, rfl⟩ := As.form0 (h.get (i := 1) rfl)
  obtain ⟨ab, cb, rfl⟩ := As.form0 (h.get (i := 2) rfl)
  obtain ⟨ap, cp, rfl⟩ := As.form0 (h.get (i := 3) rfl)
  obtain ⟨na, nc, rfl⟩ := As.form0 (h.get (i := 4) rfl)
  obtain ⟨nva, nvc, rfl⟩ := As.form0 (h.get (i := 5) rfl)
  have A0 := ((h.alloc #[.int .i64 s.kd, .int .i64 s.key, .int .i64 s.val, .int .i64 s.step, .int .i64 s.pg, .slice ak s.keys.length ck, .slice av s.keys.length cv, .slice ab s.bel.length cb, .slice ap s.pts.length cp, .string s.sw, .int .i64 s.ver, .slice ax 0 cx, .slice ay 0 cy, .int .i64 s.laid, .int .i64 s.lv, .int .i64 s.low, .int .i64 s.ch, .int .i64 s.pt] 98).alloc #[.int .i64 n.lv, .int .i64 n.lk, .int .i64 n.hi, .slice na n.ks.length nc, .slice nva n.vs.length nvc] 24).alloc #[.int .i64 0, .bool false, .int .i64 0, .int .i64 0, .slice none 0 0, .slice none 0 0, .slice none 0 0] 76
  rw [alloc_size, alloc_size] at A0
  have A1 := A0.scIn
  have CA := hideIt (addKeys_any w.heap.size s n _ _ (.slice ab s.bel.length cb) (.slice ap s.pts.length cp) (.slice na n.ks.length nc) (.slice nva n.vs.length nvc) ax ay cx cy hsp hsv _ w0 _ B hI hkl A1 (.tail _ (.tail _ (.head _))) (.tail _ (.tail _ (.tail _ (.head _)))) (.tail _ (.tail _ (.tail _ (.tail _ (.head _))))) (.tail _ (.tail _ (.tail _ (.tail _ (.tail _ (.head _)))))) hn h6)
  have c := fun j v hv => A0.cell (i := 1) rfl j v hv
  have n0 := c 0 (.int .i64 n.lv) rfl
  have n1 := c 1 (.int .i64 n.lk) rfl
  have n2 := c 2 (.int .i64 n.hi) rfl
  have n3 := c 3 (.slice na n.ks.length nc) rfl
  have n4 := c 4 (.slice nva n.vs.length nvc) rfl
  have HT : Hid (∀ W l, M w0 B W l → Tab W) := fun W l hm => htab.below (hB ▸ hm.bl)
  have hkL := hI.keysL
  have HLK := hideIt hlk
  have HBL := hideIt hbl
  have hb63' : s.pts.length ≤ 63 := by omega
  have HSK : Hid (∀ x ∈ scK s n, 0 ≤ x ∧ x ≤ 10000) := by
    unfold Hid scK
    have : ∀ k, ∀ x ∈ adK n.ks (wantV s) s.val s.keys k, 0 ≤ x ∧ x ≤ 10000 := by
      intro k
      induction k with
      | zero => exact hsk
      | succ k ih =>
        intro x hx
        unfold adK at hx
        split at hx
        · rcases List.mem_append.1 hx with hx | hx
          · exact ih x hx
          · rw [List.mem_singleton] at hx
            subst hx
            rcases Nat.lt_or_ge k n.ks.length with hk | hk
            · rw [List.getElem?_eq_getElem hk]; exact hkr _ (List.getElem_mem _)
            · rw [List.getElem?_eq_none hk]; simp
        · exact ih x hx
    exact this _
  clear A0 A1 c h hI hkl hlk htab hB hbl hkr hsk hn h6
  go_enter Tryd.func106, Tryd.ntmps106
  go_wp2_with fail
  refine CA.out.mono ?_
  rintro e w1 ⟨⟨u, rfl⟩, kv', vv', l, hl1, hl2, hM1⟩
  obtain ⟨gs, hgs⟩ : ∃ g, w.heap.size = g := ⟨_, rfl⟩
  rw [hgs] at hM1 ⊢
  obtain ⟨gx, hgx⟩ : ∃ g, gs + 1 + 1 = g := ⟨_, rfl⟩
  obtain ⟨gn, hgn⟩ : ∃ g, gs + 1 = g := ⟨_, rfl⟩
  rw [hgx, hgn] at hM1
  rw [hgx, hgn]
  have HK : Hid (adK n.ks (wantV s) s.val s.keys n.ks.length = scK s n ∧ adV n.ks n.vs (wantV s) s.val s.keys s.vals n.ks.length = scV s n) := ⟨rfl, rfl⟩
  rw [HK.out.1] at hl1 hM1
  rw [HK.out.2] at hl2 hM1
  have hl12 : l ≤ 12 := by rw [← hl1]; exact adK_len _ _ _ _ _ hkL
  have HL1 := hideIt hl1
  have HL2 := hideIt hl2
  clear CA HK n0 n1 n2 n3 n4 hl1 hl2 hgs hgx hgn
  obtain ⟨ka2, kc2, rfl⟩ := As.form0 (hM1.get (i := 1) rfl)
  obtain ⟨va2, vc2, rfl⟩ := As.form0 (hM1.get (i := 2) rfl)
  have HM := hideIt hM1
  clear hM1
  have s2 := HM.out.cell (i := 0) rfl 2 (.int .i64 s.val) rfl
  have n2 := HM.out.cell (i := 4) rfl 2 (.int .i64 n.hi) rfl
  have k5 := HM.out.cell (i := 0) rfl 5 (.slice ka2 l kc2) rfl
  by_cases hf : 12 ≤ l
  · obtain rfl : l = 12 := by omega
    have hE : scEnd s n = true := by unfold scEnd; rw [HL1.out]; rfl
    have HE := hideIt hE
    have h1 : As.holds w1 B (.row 3 1 (.slice ka2 12 kc2) (12) (ints (scK s n))) := HM.out.get (i := 1) rfl
    have rk : Rd w1 (.slice ka2 12 kc2) (scK s n) := by rw [← HL1.out] at h1 ⊢; exact owns_rd h1
    obtain ⟨b1, o1, rfl, -, x1⟩ := rk.elem 11 (by omega)
    have y1 := x1 _ (Below.refl _ _)
    obtain ⟨z, hz⟩ : ∃ y, (scK s n)[11]?.getD 0 = y := ⟨_, rfl⟩
    rw [hz] at y1
    have hzb := HSK.out z (by rw [← hz, List.getElem?_eq_getElem (by rw [HL1.out]; omega)]; exact List.getElem_mem _)
    obtain ⟨hzb1, hzb2⟩ := hzb
    have HBB : Hid (scB s n = z + 1) := by
      unfold Hid scB
      rw [if_pos (by rw [HL1.out]; omega), List.getLast?_eq_getElem?, HL1.out]
      rw [show 12 - 1 = 11 from rfl, hz]
    clear h1 rk x1 hz hE hf HLK
    by_cases hh : s.val + 1 < n.hi
    · skip
      go_upto_region 9 with fail
      go_cut [] (fun wy => ∃ g1 cap1, Hid (M w0 B wy (.blk gs #[.int .i64 s.kd, .int .i64 s.key, .int .i64 s.val, .int .i64 s.step, .int .i64 s.pg, .slice (some ⟨b1, o1, none⟩) 12 kc2, .slice va2 12 vc2, .slice (some ⟨g1, 0, none⟩) (s.bel.length + 1) cap1, .slice ap s.pts.length cp, .string s.sw, .int .i64 s.ver, .slice ax 0 cx, .slice ay 0 cy, .int .i64 s.laid, .int .i64 s.lv, .int .i64 s.low, .int .i64 s.ch, .int .i64 s.pt] 98 :: .row 3 1 (.slice (some ⟨b1, o1, none⟩) 12 kc2) (12) (ints (scK s n)) :: .row 3 1 (.slice va2 12 vc2) (12) (ints (scV s n)) :: .blk gx #[.int .i64 0, .bool false, .int .i64 0, .int .i64 0, .slice none 0 0, .slice none 0 0, .slice none 0 0] 76 :: .blk gn #[.int .i64 n.lv, .int .i64 n.lk, .int .i64 n.hi, .slice na n.ks.length nc, .slice nva n.vs.length nvc] 24 :: .row 3 1 (.slice (some ⟨g1, 0, none⟩) (s.bel.length + 1) cap1) (s.bel.length + 1) (ints (s.bel ++ [z + 1])) :: .row 3 1 (.slice ap s.pts.length cp) (s.pts.length) (ints (s.pts)) :: .row 3 1 (.slice na n.ks.length nc) (n.ks.length) (ints (n.ks)) :: .row 3 1 (.slice nva n.vs.length nvc) (n.vs.length) (ints (n.vs)) :: fr)))
      case first =>
        have s7 := HM.out.cell (i := 0) rfl 7 (.slice ab s.bel.length cb) rfl
        have hl9 := HM.out.lt (i := 0) rfl
        go_wp2_with (at_builtin; refine wpList_append_lies _ rfl _ _ 22 rfl B 3 i0 (.int .i64 0) 1 8 Tryd.underlying22 hi0 hz0 hz1 hz2 rfl (by decide) _ (s.bel.length) (ints (s.bel)) rfl (World.ownsRow.alloc (HM.out.get (i := 5) rfl) _) ⟨_, 0, none⟩ 1 1 [.int .i64 (z + 1)] rfl rfl (news_one _ _ _) (by simp [Value.oneCell']) (by omega) (by unfold maxLen; omega) (by omega) (by have := HM.out.sz; simp at this ⊢; omega) _ rfl ?_; intro gq capq w5 hown hgrow hat hlt1; rw [← ints_snoc] at hown; have hm := (HM.out.allocd _).lies (i := 5) rfl hown hgrow hat; clear hown hgrow hat; have z7 := hm.cell (i := 0) rfl 7 (.slice ab s.bel.length cb) rfl; have y7 := hm.free (i := 0) rfl 7; have hlg := hm.lt (i := 0) rfl; have H1 := hideIt (hm.store (i := 0) (j := 7) rfl (.slice (some ⟨gq, 0, none⟩) (s.bel.length + 1) capq) rfl); clear hm)
        go_wp2
        go_meet
        case rel => exact ⟨_, _, H1.out⟩
      case rest =>
        obtain ⟨g1, cap1, hM2⟩ := hcut
        clear HM s2 n2 k5 y1
        go_upto_region 10 with fail
        go_cut [] (fun wy => ∃ g2 cap2, Hid (M w0 B wy (.blk gs #[.int .i64 s.kd, .int .i64 s.key, .int .i64 s.val, .int .i64 s.step, .int .i64 s.pg, .slice (some ⟨b1, o1, none⟩) 12 kc2, .slice va2 12 vc2, .slice (some ⟨g1, 0, none⟩) (s.bel.length + 1) cap1, .slice (some ⟨g2, 0, none⟩) (s.pts.length + 1) cap2, .string s.sw, .int .i64 s.ver, .slice ax 0 cx, .slice ay 0 cy, .int .i64 s.laid, .int .i64 s.lv, .int .i64 s.low, .int .i64 s.ch, .int .i64 s.pt] 98 :: .row 3 1 (.slice (some ⟨b1, o1, none⟩) 12 kc2) (12) (ints (scK s n)) :: .row 3 1 (.slice va2 12 vc2) (12) (ints (scV s n)) :: .blk gx #[.int .i64 0, .bool false, .int .i64 0, .int .i64 0, .slice none 0 0, .slice none 0 0, .slice none 0 0] 76 :: .blk gn #[.int .i64 n.lv, .int .i64 n.lk, .int .i64 n.hi, .slice na n.ks.length nc, .slice nva n.vs.length nvc] 24 :: .row 3 1 (.slice (some ⟨g1, 0, none⟩) (s.bel.length + 1) cap1) (s.bel.length + 1) (ints (s.bel ++ [z + 1])) :: .row 3 1 (.slice (some ⟨g2, 0, none⟩) (s.pts.length + 1) cap2) (s.pts.length + 1) (ints (s.pts ++ [s.step])) :: .row 3 1 (.slice na n.ks.length nc) (n.ks.length) (ints (n.ks)) :: .row 3 1 (.slice nva n.vs.length nvc) (n.vs.length) (ints (n.vs)) :: fr)))
        case first =>
          have s8 := hM2.out.cell (i := 0) rfl 8 (.slice ap s.pts.length cp) rfl
          have s3 := hM2.out.cell (i := 0) rfl 3 (.int .i64 s.step) rfl
          have hl9 := hM2.out.lt (i := 0) rfl
          go_wp2_with (at_builtin; refine wpList_append_lies _ rfl _ _ 22 rfl B 3 i0 (.int .i64 0) 1 8 Tryd.underlying22 hi0 hz0 hz1 hz2 rfl (by decide) _ (s.pts.length) (ints (s.pts)) rfl (World.ownsRow.alloc (hM2.out.get (i := 6) rfl) _) ⟨_, 0, none⟩ 1 1 [.int .i64 s.step] rfl rfl (news_one _ _ _) (by simp [Value.oneCell']) (by omega) (by unfold maxLen; omega) (by omega) (by have := hM2.out.sz; simp at this ⊢; omega) _ rfl ?_; intro gq capq w5 hown hgrow hat hlt1; rw [← ints_snoc] at hown; have hm := (hM2.out.allocd _).lies (i := 6) rfl hown hgrow hat; clear hown hgrow hat; have z7 := hm.cell (i := 0) rfl 8 (.slice ap s.pts.length cp) rfl; have y7 := hm.free (i := 0) rfl 8; have hlg := hm.lt (i := 0) rfl; have H1 := hideIt (hm.store (i := 0) (j := 8) rfl (.slice (some ⟨gq, 0, none⟩) (s.pts.length + 1) capq) rfl); clear hm)
          go_wp2
          go_meet
          case rel => exact ⟨_, _, H1.out⟩
        case rest =>
          obtain ⟨g2, cap2, hM3⟩ := hcut
          clear hM2
          have SV : StV wc (scS s n) (.slice (some ⟨b1, o1, none⟩) 12 kc2) (.slice va2 12 vc2) (.slice (some ⟨g1, 0, none⟩) (s.bel.length + 1) cap1) (.slice (some ⟨g2, 0, none⟩) (s.pts.length + 1) cap2) (.slice ax 0 cx) (.slice ay 0 cy) := by
            refine ⟨?_, ?_, ?_, ?_, rd0 hsp, rd0 hsv⟩
            · have h1 : As.holds wc B (.row 3 1 (.slice (some ⟨b1, o1, none⟩) 12 kc2) (12) (ints (scK s n))) := hM3.out.get (i := 1) rfl
              show Rd wc _ (scK s n)
              rw [← HL1.out] at h1 ⊢; exact owns_rd h1
            · have h1 : As.holds wc B (.row 3 1 (.slice va2 12 vc2) (12) (ints (scV s n))) := hM3.out.get (i := 2) rfl
              show Rd wc _ (scV s n)
              rw [← HL2.out] at h1 ⊢; exact owns_rd h1
            · have h1 : As.holds wc B (.row 3 1 (.slice (some ⟨g1, 0, none⟩) (s.bel.length + 1) cap1) (s.bel.length + 1) (ints (s.bel ++ [z + 1]))) := hM3.out.get (i := 5) rfl
              show Rd wc _ (s.bel ++ [scB s n])
              rw [HBB.out]
              rw [show s.bel.length + 1 = (s.bel ++ [z + 1]).length by simp] at h1 ⊢; exact owns_rd h1
            · have h1 : As.holds wc B (.row 3 1 (.slice (some ⟨g2, 0, none⟩) (s.pts.length + 1) cap2) (s.pts.length + 1) (ints (s.pts ++ [s.step]))) := hM3.out.get (i := 6) rfl
              show Rd wc _ (s.pts ++ [s.step])
              rw [show s.pts.length + 1 = (s.pts ++ [s.step]).length by simp] at h1 ⊢; exact owns_rd h1
          have hzl : ((scS s n).bel.zip (scS s n).pts).length = (scS s n).bel.length := by
            have := HBL.out
            simp [scS, List.length_zip]; omega
          have CS := scanned_any (scS s n) _ _ _ _ _ _ wc SV (by have := HBL.out; simp [scS]; omega) (by simp [scS]; omega)
          obtain ⟨cl, hcl⟩ : ∃ x, ((scS s n).bel.zip (scS s n).pts).length = x := ⟨_, rfl⟩
          rw [← hzl, hcl] at CS
          have HCL := hideIt hcl
          obtain ⟨fdv, hfdv⟩ : ∃ x, decide (0 < (scS s n).keys.length) = x := ⟨_, rfl⟩
          obtain ⟨lnv, hlnv⟩ : ∃ x, ((scS s n).keys.length : Int) = x := ⟨_, rfl⟩
          rw [hfdv, hlnv, show (scS s n).step = s.step from rfl] at CS
          have HCS := hideIt CS
          have HFD := hideIt hfdv
          have HLN := hideIt hlnv
          have HSO : Hid (scO s n = .fin (decide (0 < (scK s n).length)) (scK s n).length s.step (scK s n) (scV s n) ((scS s n).bel.zip (scS s n).pts)) := by unfold Hid scO; rw [HE.out]; rfl
          clear CS hfdv hlnv hzl SV hcl
          go_wp2_with (refine wpList_load_row rfl 98 _ rfl _ rfl 98 _ (0, 0) _ (hM3.out.block (i := 0) rfl) Tryd.underlying98 rfl infoState ?_)
          refine HCS.out.mono ?_
          rintro e w5 ⟨cv5, rfl, hC⟩
          obtain ⟨ca5, cc5, rfl⟩ := As.form0 (hC.get (i := 0) rfl)
          have hM5 := hideIt (hM3.out.join hC)
          clear hC hM3 HCS
          have r0 := hM5.out.cell (i := 4) rfl 0 (.int .i64 0) rfl
          have f0 := hM5.out.free (i := 4) rfl 0
          have r1 := hM5.out.cell (i := 4) rfl 1 (.bool false) rfl
          have f1 := hM5.out.free (i := 4) rfl 1
          have r2 := hM5.out.cell (i := 4) rfl 2 (.int .i64 0) rfl
          have f2 := hM5.out.free (i := 4) rfl 2
          have r3 := hM5.out.cell (i := 4) rfl 3 (.int .i64 0) rfl
          have f3 := hM5.out.free (i := 4) rfl 3
          have r4 := hM5.out.cell (i := 4) rfl 4 (.slice none 0 0) rfl
          have f4 := hM5.out.free (i := 4) rfl 4
          have r5 := hM5.out.cell (i := 4) rfl 5 (.slice none 0 0) rfl
          have f5 := hM5.out.free (i := 4) rfl 5
          have r6 := hM5.out.cell (i := 4) rfl 6 (.slice none 0 0) rfl
          have f6 := hM5.out.free (i := 4) rfl 6
          have S7 := hideIt (hM5.out.store7 (i := 4) rfl (.int .i64 0) (.bool fdv) (.int .i64 lnv) (.int .i64 s.step) (.slice (some ⟨b1, o1, none⟩) 12 kc2) (.slice va2 12 vc2) (.slice ca5 cl cc5))
          clear hM5
          go_wp2
          refine bodyPost_ret (v := .tuple #[.string ⟨#[]⟩, .agg #[.int .i64 0, .bool fdv, .int .i64 lnv, .int .i64 s.step, .slice (some ⟨b1, o1, none⟩) 12 kc2, .slice va2 12 vc2, .slice ca5 cl cc5], .bool true, .int .i64 0]) (by simp [results, Tryd.results106, go_sem, *]) rfl ?_
          rw [HSO.out]
          have hF := S7.out.scOut
          refine ⟨_, _, _, by rw [← HFD.out, ← HLN.out]; rfl, ?_⟩
          rw [HL1.out, HL2.out, HCL.out]
          exact hF
    · have hh' : n.hi ≤ s.val + 1 := by omega
      clear hh
      go_upto_region 9 with fail
      go_cut [] (fun wy => ∃ g1 cap1, Hid (M w0 B wy (.blk gs #[.int .i64 s.kd, .int .i64 s.key, .int .i64 s.val, .int .i64 s.step, .int .i64 s.pg, .slice (some ⟨b1, o1, none⟩) 12 kc2, .slice va2 12 vc2, .slice (some ⟨g1, 0, none⟩) (s.bel.length + 1) cap1, .slice ap s.pts.length cp, .string s.sw, .int .i64 s.ver, .slice ax 0 cx, .slice ay 0 cy, .int .i64 s.laid, .int .i64 s.lv, .int .i64 s.low, .int .i64 s.ch, .int .i64 s.pt] 98 :: .row 3 1 (.slice (some ⟨b1, o1, none⟩) 12 kc2) (12) (ints (scK s n)) :: .row 3 1 (.slice va2 12 vc2) (12) (ints (scV s n)) :: .blk gx #[.int .i64 0, .bool false, .int .i64 0, .int .i64 0, .slice none 0 0, .slice none 0 0, .slice none 0 0] 76 :: .blk gn #[.int .i64 n.lv, .int .i64 n.lk, .int .i64 n.hi, .slice na n.ks.length nc, .slice nva n.vs.length nvc] 24 :: .row 3 1 (.slice (some ⟨g1, 0, none⟩) (s.bel.length + 1) cap1) (s.bel.length + 1) (ints (s.bel ++ [z + 1])) :: .row 3 1 (.slice ap s.pts.length cp) (s.pts.length) (ints (s.pts)) :: .row 3 1 (.slice na n.ks.length nc) (n.ks.length) (ints (n.ks)) :: .row 3 1 (.slice nva n.vs.length nvc) (n.vs.length) (ints (n.vs)) :: fr)))
      case first =>
        have s7 := HM.out.cell (i := 0) rfl 7 (.slice ab s.bel.length cb) rfl
        have hl9 := HM.out.lt (i := 0) rfl
        go_wp2_with (at_builtin; refine wpList_append_lies _ rfl _ _ 22 rfl B 3 i0 (.int .i64 0) 1 8 Tryd.underlying22 hi0 hz0 hz1 hz2 rfl (by decide) _ (s.bel.length) (ints (s.bel)) rfl (World.ownsRow.alloc (HM.out.get (i := 5) rfl) _) ⟨_, 0, none⟩ 1 1 [.int .i64 (z + 1)] rfl rfl (news_one _ _ _) (by simp [Value.oneCell']) (by omega) (by unfold maxLen; omega) (by omega) (by have := HM.out.sz; simp at this ⊢; omega) _ rfl ?_; intro gq capq w5 hown hgrow hat hlt1; rw [← ints_snoc] at hown; have hm := (HM.out.allocd _).lies (i := 5) rfl hown hgrow hat; clear hown hgrow hat; have z7 := hm.cell (i := 0) rfl 7 (.slice ab s.bel.length cb) rfl; have y7 := hm.free (i := 0) rfl 7; have hlg := hm.lt (i := 0) rfl; have H1 := hideIt (hm.store (i := 0) (j := 7) rfl (.slice (some ⟨gq, 0, none⟩) (s.bel.length + 1) capq) rfl); clear hm)
        go_wp2
        go_meet
        case rel => exact ⟨_, _, H1.out⟩
      case rest =>
        obtain ⟨g1, cap1, hM2⟩ := hcut
        clear HM s2 n2 k5 y1
        go_upto_region 10 with fail
        go_cut [] (fun wy => ∃ g2 cap2, Hid (M w0 B wy (.blk gs #[.int .i64 s.kd, .int .i64 s.key, .int .i64 s.val, .int .i64 s.step, .int .i64 s.pg, .slice (some ⟨b1, o1, none⟩) 12 kc2, .slice va2 12 vc2, .slice (some ⟨g1, 0, none⟩) (s.bel.length + 1) cap1, .slice (some ⟨g2, 0, none⟩) (s.pts.length + 1) cap2, .string s.sw, .int .i64 s.ver, .slice ax 0 cx, .slice ay 0 cy, .int .i64 s.laid, .int .i64 s.lv, .int .i64 s.low, .int .i64 s.ch, .int .i64 s.pt] 98 :: .row 3 1 (.slice (some ⟨b1, o1, none⟩) 12 kc2) (12) (ints (scK s n)) :: .row 3 1 (.slice va2 12 vc2) (12) (ints (scV s n)) :: .blk gx #[.int .i64 0, .bool false, .int .i64 0, .int .i64 0, .slice none 0 0, .slice none 0 0, .slice none 0 0] 76 :: .blk gn #[.int .i64 n.lv, .int .i64 n.lk, .int .i64 n.hi, .slice na n.ks.length nc, .slice nva n.vs.length nvc] 24 :: .row 3 1 (.slice (some ⟨g1, 0, none⟩) (s.bel.length + 1) cap1) (s.bel.length + 1) (ints (s.bel ++ [z + 1])) :: .row 3 1 (.slice (some ⟨g2, 0, none⟩) (s.pts.length + 1) cap2) (s.pts.length + 1) (ints (s.pts ++ [s.step])) :: .row 3 1 (.slice na n.ks.length nc) (n.ks.length) (ints (n.ks)) :: .row 3 1 (.slice nva n.vs.length nvc) (n.vs.length) (ints (n.vs)) :: fr)))
        case first =>
          have s8 := hM2.out.cell (i := 0) rfl 8 (.slice ap s.pts.length cp) rfl
          have s3 := hM2.out.cell (i := 0) rfl 3 (.int .i64 s.step) rfl
          have hl9 := hM2.out.lt (i := 0) rfl
          go_wp2_with (at_builtin; refine wpList_append_lies _ rfl _ _ 22 rfl B 3 i0 (.int .i64 0) 1 8 Tryd.underlying22 hi0 hz0 hz1 hz2 rfl (by decide) _ (s.pts.length) (ints (s.pts)) rfl (World.ownsRow.alloc (hM2.out.get (i := 6) rfl) _) ⟨_, 0, none⟩ 1 1 [.int .i64 s.step] rfl rfl (news_one _ _ _) (by simp [Value.oneCell']) (by omega) (by unfold maxLen; omega) (by omega) (by have := hM2.out.sz; simp at this ⊢; omega) _ rfl ?_; intro gq capq w5 hown hgrow hat hlt1; rw [← ints_snoc] at hown; have hm := (hM2.out.allocd _).lies (i := 6) rfl hown hgrow hat; clear hown hgrow hat; have z7 := hm.cell (i := 0) rfl 8 (.slice ap s.pts.length cp) rfl; have y7 := hm.free (i := 0) rfl 8; have hlg := hm.lt (i := 0) rfl; have H1 := hideIt (hm.store (i := 0) (j := 8) rfl (.slice (some ⟨gq, 0, none⟩) (s.pts.length + 1) capq) rfl); clear hm)
          go_wp2
          go_meet
          case rel => exact ⟨_, _, H1.out⟩
        case rest =>
          obtain ⟨g2, cap2, hM3⟩ := hcut
          clear hM2
          have SV : StV wc (scS s n) (.slice (some ⟨b1, o1, none⟩) 12 kc2) (.slice va2 12 vc2) (.slice (some ⟨g1, 0, none⟩) (s.bel.length + 1) cap1) (.slice (some ⟨g2, 0, none⟩) (s.pts.length + 1) cap2) (.slice ax 0 cx) (.slice ay 0 cy) := by
            refine ⟨?_, ?_, ?_, ?_, rd0 hsp, rd0 hsv⟩
            · have h1 : As.holds wc B (.row 3 1 (.slice (some ⟨b1, o1, none⟩) 12 kc2) (12) (ints (scK s n))) := hM3.out.get (i := 1) rfl
              show Rd wc _ (scK s n)
              rw [← HL1.out] at h1 ⊢; exact owns_rd h1
            · have h1 : As.holds wc B (.row 3 1 (.slice va2 12 vc2) (12) (ints (scV s n))) := hM3.out.get (i := 2) rfl
              show Rd wc _ (scV s n)
              rw [← HL2.out] at h1 ⊢; exact owns_rd h1
            · have h1 : As.holds wc B (.row 3 1 (.slice (some ⟨g1, 0, none⟩) (s.bel.length + 1) cap1) (s.bel.length + 1) (ints (s.bel ++ [z + 1]))) := hM3.out.get (i := 5) rfl
              show Rd wc _ (s.bel ++ [scB s n])
              rw [HBB.out]
              rw [show s.bel.length + 1 = (s.bel ++ [z + 1]).length by simp] at h1 ⊢; exact owns_rd h1
            · have h1 : As.holds wc B (.row 3 1 (.slice (some ⟨g2, 0, none⟩) (s.pts.length + 1) cap2) (s.pts.length + 1) (ints (s.pts ++ [s.step]))) := hM3.out.get (i := 6) rfl
              show Rd wc _ (s.pts ++ [s.step])
              rw [show s.pts.length + 1 = (s.pts ++ [s.step]).length by simp] at h1 ⊢; exact owns_rd h1
          have hzl : ((scS s n).bel.zip (scS s n).pts).length = (scS s n).bel.length := by
            have := HBL.out
            simp [scS, List.length_zip]; omega
          have CS := scanned_any (scS s n) _ _ _ _ _ _ wc SV (by have := HBL.out; simp [scS]; omega) (by simp [scS]; omega)
          obtain ⟨cl, hcl⟩ : ∃ x, ((scS s n).bel.zip (scS s n).pts).length = x := ⟨_, rfl⟩
          rw [← hzl, hcl] at CS
          have HCL := hideIt hcl
          obtain ⟨fdv, hfdv⟩ : ∃ x, decide (0 < (scS s n).keys.length) = x := ⟨_, rfl⟩
          obtain ⟨lnv, hlnv⟩ : ∃ x, ((scS s n).keys.length : Int) = x := ⟨_, rfl⟩
          rw [hfdv, hlnv, show (scS s n).step = s.step from rfl] at CS
          have HCS := hideIt CS
          have HFD := hideIt hfdv
          have HLN := hideIt hlnv
          have HSO : Hid (scO s n = .fin (decide (0 < (scK s n).length)) (scK s n).length s.step (scK s n) (scV s n) ((scS s n).bel.zip (scS s n).pts)) := by unfold Hid scO; rw [HE.out]; rfl
          clear CS hfdv hlnv hzl SV hcl
          go_wp2_with (refine wpList_load_row rfl 98 _ rfl _ rfl 98 _ (0, 0) _ (hM3.out.block (i := 0) rfl) Tryd.underlying98 rfl infoState ?_)
          refine HCS.out.mono ?_
          rintro e w5 ⟨cv5, rfl, hC⟩
          obtain ⟨ca5, cc5, rfl⟩ := As.form0 (hC.get (i := 0) rfl)
          have hM5 := hideIt (hM3.out.join hC)
          clear hC hM3 HCS
          have r0 := hM5.out.cell (i := 4) rfl 0 (.int .i64 0) rfl
          have f0 := hM5.out.free (i := 4) rfl 0
          have r1 := hM5.out.cell (i := 4) rfl 1 (.bool false) rfl
          have f1 := hM5.out.free (i := 4) rfl 1
          have r2 := hM5.out.cell (i := 4) rfl 2 (.int .i64 0) rfl
          have f2 := hM5.out.free (i := 4) rfl 2
          have r3 := hM5.out.cell (i := 4) rfl 3 (.int .i64 0) rfl
          have f3 := hM5.out.free (i := 4) rfl 3
          have r4 := hM5.out.cell (i := 4) rfl 4 (.slice none 0 0) rfl
          have f4 := hM5.out.free (i := 4) rfl 4
          have r5 := hM5.out.cell (i := 4) rfl 5 (.slice none 0 0) rfl
          have f5 := hM5.out.free (i := 4) rfl 5
          have r6 := hM5.out.cell (i := 4) rfl 6 (.slice none 0 0) rfl
          have f6 := hM5.out.free (i := 4) rfl 6
          have S7 := hideIt (hM5.out.store7 (i := 4) rfl (.int .i64 0) (.bool fdv) (.int .i64 lnv) (.int .i64 s.step) (.slice (some ⟨b1, o1, none⟩) 12 kc2) (.slice va2 12 vc2) (.slice ca5 cl cc5))
          clear hM5
          go_wp2
          refine bodyPost_ret (v := .tuple #[.string ⟨#[]⟩, .agg #[.int .i64 0, .bool fdv, .int .i64 lnv, .int .i64 s.step, .slice (some ⟨b1, o1, none⟩) 12 kc2, .slice va2 12 vc2, .slice ca5 cl cc5], .bool true, .int .i64 0]) (by simp [results, Tryd.results106, go_sem, *]) rfl ?_
          rw [HSO.out]
          have hF := S7.out.scOut
          refine ⟨_, _, _, by rw [← HFD.out, ← HLN.out]; rfl, ?_⟩
          rw [HL1.out, HL2.out, HCL.out]
          exact hF
  · have hf' : l < 12 := by omega
    have hfi : (l : Int) < 12 := by omega
    clear hf
    by_cases hh : s.val + 1 < n.hi
    · have HBB : Hid (scB s n = s.val + 1) := by unfold Hid scB; rw [if_neg (by rw [HL1.out]; omega), if_pos hh]
      have HE : Hid (scEnd s n = true) := by unfold Hid scEnd; rw [HBB.out]; simp
      go_upto_region 9 with fail
      go_cut [] (fun wy => ∃ g1 cap1, Hid (M w0 B wy (.blk gs #[.int .i64 s.kd, .int .i64 s.key, .int .i64 s.val, .int .i64 s.step, .int .i64 s.pg, .slice ka2 l kc2, .slice va2 l vc2, .slice (some ⟨g1, 0, none⟩) (s.bel.length + 1) cap1, .slice ap s.pts.length cp, .string s.sw, .int .i64 s.ver, .slice ax 0 cx, .slice ay 0 cy, .int .i64 s.laid, .int .i64 s.lv, .int .i64 s.low, .int .i64 s.ch, .int .i64 s.pt] 98 :: .row 3 1 (.slice ka2 l kc2) (l) (ints (scK s n)) :: .row 3 1 (.slice va2 l vc2) (l) (ints (scV s n)) :: .blk gx #[.int .i64 0, .bool false, .int .i64 0, .int .i64 0, .slice none 0 0, .slice none 0 0, .slice none 0 0] 76 :: .blk gn #[.int .i64 n.lv, .int .i64 n.lk, .int .i64 n.hi, .slice na n.ks.length nc, .slice nva n.vs.length nvc] 24 :: .row 3 1 (.slice (some ⟨g1, 0, none⟩) (s.bel.length + 1) cap1) (s.bel.length + 1) (ints (s.bel ++ [s.val + 1])) :: .row 3 1 (.slice ap s.pts.length cp) (s.pts.length) (ints (s.pts)) :: .row 3 1 (.slice na n.ks.length nc) (n.ks.length) (ints (n.ks)) :: .row 3 1 (.slice nva n.vs.length nvc) (n.vs.length) (ints (n.vs)) :: fr)))
      case first =>
        have s7 := HM.out.cell (i := 0) rfl 7 (.slice ab s.bel.length cb) rfl
        have hl9 := HM.out.lt (i := 0) rfl
        go_wp2_with (at_builtin; refine wpList_append_lies _ rfl _ _ 22 rfl B 3 i0 (.int .i64 0) 1 8 Tryd.underlying22 hi0 hz0 hz1 hz2 rfl (by decide) _ (s.bel.length) (ints (s.bel)) rfl (World.ownsRow.alloc (HM.out.get (i := 5) rfl) _) ⟨_, 0, none⟩ 1 1 [.int .i64 (s.val + 1)] rfl rfl (news_one _ _ _) (by simp [Value.oneCell']) (by omega) (by unfold maxLen; omega) (by omega) (by have := HM.out.sz; simp at this ⊢; omega) _ rfl ?_; intro gq capq w5 hown hgrow hat hlt1; rw [← ints_snoc] at hown; have hm := (HM.out.allocd _).lies (i := 5) rfl hown hgrow hat; clear hown hgrow hat; have z7 := hm.cell (i := 0) rfl 7 (.slice ab s.bel.length cb) rfl; have y7 := hm.free (i := 0) rfl 7; have hlg := hm.lt (i := 0) rfl; have H1 := hideIt (hm.store (i := 0) (j := 7) rfl (.slice (some ⟨gq, 0, none⟩) (s.bel.length + 1) capq) rfl); clear hm)
        go_wp2
        go_meet
        case rel => exact ⟨_, _, H1.out⟩
      case rest =>
        obtain ⟨g1, cap1, hM2⟩ := hcut
        clear HM s2 n2 k5
        go_upto_region 10 with fail
        go_cut [] (fun wy => ∃ g2 cap2, Hid (M w0 B wy (.blk gs #[.int .i64 s.kd, .int .i64 s.key, .int .i64 s.val, .int .i64 s.step, .int .i64 s.pg, .slice ka2 l kc2, .slice va2 l vc2, .slice (some ⟨g1, 0, none⟩) (s.bel.length + 1) cap1, .slice (some ⟨g2, 0, none⟩) (s.pts.length + 1) cap2, .string s.sw, .int .i64 s.ver, .slice ax 0 cx, .slice ay 0 cy, .int .i64 s.laid, .int .i64 s.lv, .int .i64 s.low, .int .i64 s.ch, .int .i64 s.pt] 98 :: .row 3 1 (.slice ka2 l kc2) (l) (ints (scK s n)) :: .row 3 1 (.slice va2 l vc2) (l) (ints (scV s n)) :: .blk gx #[.int .i64 0, .bool false, .int .i64 0, .int .i64 0, .slice none 0 0, .slice none 0 0, .slice none 0 0] 76 :: .blk gn #[.int .i64 n.lv, .int .i64 n.lk, .int .i64 n.hi, .slice na n.ks.length nc, .slice nva n.vs.length nvc] 24 :: .row 3 1 (.slice (some ⟨g1, 0, none⟩) (s.bel.length + 1) cap1) (s.bel.length + 1) (ints (s.bel ++ [s.val + 1])) :: .row 3 1 (.slice (some ⟨g2, 0, none⟩) (s.pts.length + 1) cap2) (s.pts.length + 1) (ints (s.pts ++ [s.step])) :: .row 3 1 (.slice na n.ks.length nc) (n.ks.length) (ints (n.ks)) :: .row 3 1 (.slice nva n.vs.length nvc) (n.vs.length) (ints (n.vs)) :: fr)))
        case first =>
          have s8 := hM2.out.cell (i := 0) rfl 8 (.slice ap s.pts.length cp) rfl
          have s3 := hM2.out.cell (i := 0) rfl 3 (.int .i64 s.step) rfl
          have hl9 := hM2.out.lt (i := 0) rfl
          go_wp2_with (at_builtin; refine wpList_append_lies _ rfl _ _ 22 rfl B 3 i0 (.int .i64 0) 1 8 Tryd.underlying22 hi0 hz0 hz1 hz2 rfl (by decide) _ (s.pts.length) (ints (s.pts)) rfl (World.ownsRow.alloc (hM2.out.get (i := 6) rfl) _) ⟨_, 0, none⟩ 1 1 [.int .i64 s.step] rfl rfl (news_one _ _ _) (by simp [Value.oneCell']) (by omega) (by unfold maxLen; omega) (by omega) (by have := hM2.out.sz; simp at this ⊢; omega) _ rfl ?_; intro gq capq w5 hown hgrow hat hlt1; rw [← ints_snoc] at hown; have hm := (hM2.out.allocd _).lies (i := 6) rfl hown hgrow hat; clear hown hgrow hat; have z7 := hm.cell (i := 0) rfl 8 (.slice ap s.pts.length cp) rfl; have y7 := hm.free (i := 0) rfl 8; have hlg := hm.lt (i := 0) rfl; have H1 := hideIt (hm.store (i := 0) (j := 8) rfl (.slice (some ⟨gq, 0, none⟩) (s.pts.length + 1) capq) rfl); clear hm)
          go_wp2
          go_meet
          case rel => exact ⟨_, _, H1.out⟩
        case rest =>
          obtain ⟨g2, cap2, hM3⟩ := hcut
          clear hM2
          have SV : StV wc (scS s n) (.slice ka2 l kc2) (.slice va2 l vc2) (.slice (some ⟨g1, 0, none⟩) (s.bel.length + 1) cap1) (.slice (some ⟨g2, 0, none⟩) (s.pts.length + 1) cap2) (.slice ax 0 cx) (.slice ay 0 cy) := by
            refine ⟨?_, ?_, ?_, ?_, rd0 hsp, rd0 hsv⟩
            · have h1 : As.holds wc B (.row 3 1 (.slice ka2 l kc2) (l) (ints (scK s n))) := hM3.out.get (i := 1) rfl
              show Rd wc _ (scK s n)
              rw [← HL1.out] at h1 ⊢; exact owns_rd h1
            · have h1 : As.holds wc B (.row 3 1 (.slice va2 l vc2) (l) (ints (scV s n))) := hM3.out.get (i := 2) rfl
              show Rd wc _ (scV s n)
              rw [← HL2.out] at h1 ⊢; exact owns_rd h1
            · have h1 : As.holds wc B (.row 3 1 (.slice (some ⟨g1, 0, none⟩) (s.bel.length + 1) cap1) (s.bel.length + 1) (ints (s.bel ++ [s.val + 1]))) := hM3.out.get (i := 5) rfl
              show Rd wc _ (s.bel ++ [scB s n])
              rw [HBB.out]
              rw [show s.bel.length + 1 = (s.bel ++ [s.val + 1]).length by simp] at h1 ⊢; exact owns_rd h1
            · have h1 : As.holds wc B (.row 3 1 (.slice (some ⟨g2, 0, none⟩) (s.pts.length + 1) cap2) (s.pts.length + 1) (ints (s.pts ++ [s.step]))) := hM3.out.get (i := 6) rfl
              show Rd wc _ (s.pts ++ [s.step])
              rw [show s.pts.length + 1 = (s.pts ++ [s.step]).length by simp] at h1 ⊢; exact owns_rd h1
          have hzl : ((scS s n).bel.zip (scS s n).pts).length = (scS s n).bel.length := by
            have := HBL.out
            simp [scS, List.length_zip]; omega
          have CS := scanned_any (scS s n) _ _ _ _ _ _ wc SV (by have := HBL.out; simp [scS]; omega) (by simp [scS]; omega)
          obtain ⟨cl, hcl⟩ : ∃ x, ((scS s n).bel.zip (scS s n).pts).length = x := ⟨_, rfl⟩
          rw [← hzl, hcl] at CS
          have HCL := hideIt hcl
          obtain ⟨fdv, hfdv⟩ : ∃ x, decide (0 < (scS s n).keys.length) = x := ⟨_, rfl⟩
          obtain ⟨lnv, hlnv⟩ : ∃ x, ((scS s n).keys.length : Int) = x := ⟨_, rfl⟩
          rw [hfdv, hlnv, show (scS s n).step = s.step from rfl] at CS
          have HCS := hideIt CS
          have HFD := hideIt hfdv
          have HLN := hideIt hlnv
          have HSO : Hid (scO s n = .fin (decide (0 < (scK s n).length)) (scK s n).length s.step (scK s n) (scV s n) ((scS s n).bel.zip (scS s n).pts)) := by unfold Hid scO; rw [HE.out]; rfl
          clear CS hfdv hlnv hzl SV hcl
          go_wp2_with (refine wpList_load_row rfl 98 _ rfl _ rfl 98 _ (0, 0) _ (hM3.out.block (i := 0) rfl) Tryd.underlying98 rfl infoState ?_)
          refine HCS.out.mono ?_
          rintro e w5 ⟨cv5, rfl, hC⟩
          obtain ⟨ca5, cc5, rfl⟩ := As.form0 (hC.get (i := 0) rfl)
          have hM5 := hideIt (hM3.out.join hC)
          clear hC hM3 HCS
          have r0 := hM5.out.cell (i := 4) rfl 0 (.int .i64 0) rfl
          have f0 := hM5.out.free (i := 4) rfl 0
          have r1 := hM5.out.cell (i := 4) rfl 1 (.bool false) rfl
          have f1 := hM5.out.free (i := 4) rfl 1
          have r2 := hM5.out.cell (i := 4) rfl 2 (.int .i64 0) rfl
          have f2 := hM5.out.free (i := 4) rfl 2
          have r3 := hM5.out.cell (i := 4) rfl 3 (.int .i64 0) rfl
          have f3 := hM5.out.free (i := 4) rfl 3
          have r4 := hM5.out.cell (i := 4) rfl 4 (.slice none 0 0) rfl
          have f4 := hM5.out.free (i := 4) rfl 4
          have r5 := hM5.out.cell (i := 4) rfl 5 (.slice none 0 0) rfl
          have f5 := hM5.out.free (i := 4) rfl 5
          have r6 := hM5.out.cell (i := 4) rfl 6 (.slice none 0 0) rfl
          have f6 := hM5.out.free (i := 4) rfl 6
          have S7 := hideIt (hM5.out.store7 (i := 4) rfl (.int .i64 0) (.bool fdv) (.int .i64 lnv) (.int .i64 s.step) (.slice ka2 l kc2) (.slice va2 l vc2) (.slice ca5 cl cc5))
          clear hM5
          go_wp2
          refine bodyPost_ret (v := .tuple #[.string ⟨#[]⟩, .agg #[.int .i64 0, .bool fdv, .int .i64 lnv, .int .i64 s.step, .slice ka2 l kc2, .slice va2 l vc2, .slice ca5 cl cc5], .bool true, .int .i64 0]) (by simp [results, Tryd.results106, go_sem, *]) rfl ?_
          rw [HSO.out]
          have hF := S7.out.scOut
          refine ⟨_, _, _, by rw [← HFD.out, ← HLN.out]; rfl, ?_⟩
          rw [HL1.out, HL2.out, HCL.out]
          exact hF
    · have hh' : n.hi ≤ s.val + 1 := by omega
      have HBB : Hid (scB s n = n.hi) := by unfold Hid scB; rw [if_neg (by rw [HL1.out]; omega), if_neg hh]
      clear hh
      by_cases he : n.hi = s.val + 1
      · have heb : (n.hi == s.val + 1) = true := by simp [he]
        have HE : Hid (scEnd s n = true) := by unfold Hid scEnd; rw [HBB.out, he]; simp
        clear he
        go_upto_region 9 with fail
        go_cut [] (fun wy => ∃ g1 cap1, Hid (M w0 B wy (.blk gs #[.int .i64 s.kd, .int .i64 s.key, .int .i64 s.val, .int .i64 s.step, .int .i64 s.pg, .slice ka2 l kc2, .slice va2 l vc2, .slice (some ⟨g1, 0, none⟩) (s.bel.length + 1) cap1, .slice ap s.pts.length cp, .string s.sw, .int .i64 s.ver, .slice ax 0 cx, .slice ay 0 cy, .int .i64 s.laid, .int .i64 s.lv, .int .i64 s.low, .int .i64 s.ch, .int .i64 s.pt] 98 :: .row 3 1 (.slice ka2 l kc2) (l) (ints (scK s n)) :: .row 3 1 (.slice va2 l vc2) (l) (ints (scV s n)) :: .blk gx #[.int .i64 0, .bool false, .int .i64 0, .int .i64 0, .slice none 0 0, .slice none 0 0, .slice none 0 0] 76 :: .blk gn #[.int .i64 n.lv, .int .i64 n.lk, .int .i64 n.hi, .slice na n.ks.length nc, .slice nva n.vs.length nvc] 24 :: .row 3 1 (.slice (some ⟨g1, 0, none⟩) (s.bel.length + 1) cap1) (s.bel.length + 1) (ints (s.bel ++ [n.hi])) :: .row 3 1 (.slice ap s.pts.length cp) (s.pts.length) (ints (s.pts)) :: .row 3 1 (.slice na n.ks.length nc) (n.ks.length) (ints (n.ks)) :: .row 3 1 (.slice nva n.vs.length nvc) (n.vs.length) (ints (n.vs)) :: fr)))
        case first =>
          have s7 := HM.out.cell (i := 0) rfl 7 (.slice ab s.bel.length cb) rfl
          have hl9 := HM.out.lt (i := 0) rfl
          go_wp2_with (at_builtin; refine wpList_append_lies _ rfl _ _ 22 rfl B 3 i0 (.int .i64 0) 1 8 Tryd.underlying22 hi0 hz0 hz1 hz2 rfl (by decide) _ (s.bel.length) (ints (s.bel)) rfl (World.ownsRow.alloc (HM.out.get (i := 5) rfl) _) ⟨_, 0, none⟩ 1 1 [.int .i64 (n.hi)] rfl rfl (news_one _ _ _) (by simp [Value.oneCell']) (by omega) (by unfold maxLen; omega) (by omega) (by have := HM.out.sz; simp at this ⊢; omega) _ rfl ?_; intro gq capq w5 hown hgrow hat hlt1; rw [← ints_snoc] at hown; have hm := (HM.out.allocd _).lies (i := 5) rfl hown hgrow hat; clear hown hgrow hat; have z7 := hm.cell (i := 0) rfl 7 (.slice ab s.bel.length cb) rfl; have y7 := hm.free (i := 0) rfl 7; have hlg := hm.lt (i := 0) rfl; have H1 := hideIt (hm.store (i := 0) (j := 7) rfl (.slice (some ⟨gq, 0, none⟩) (s.bel.length + 1) capq) rfl); clear hm)
          go_wp2
          go_meet
          case rel => exact ⟨_, _, H1.out⟩
        case rest =>
          obtain ⟨g1, cap1, hM2⟩ := hcut
          clear HM s2 n2 k5
          go_upto_region 10 with fail
          go_cut [] (fun wy => ∃ g2 cap2, Hid (M w0 B wy (.blk gs #[.int .i64 s.kd, .int .i64 s.key, .int .i64 s.val, .int .i64 s.step, .int .i64 s.pg, .slice ka2 l kc2, .slice va2 l vc2, .slice (some ⟨g1, 0, none⟩) (s.bel.length + 1) cap1, .slice (some ⟨g2, 0, none⟩) (s.pts.length + 1) cap2, .string s.sw, .int .i64 s.ver, .slice ax 0 cx, .slice ay 0 cy, .int .i64 s.laid, .int .i64 s.lv, .int .i64 s.low, .int .i64 s.ch, .int .i64 s.pt] 98 :: .row 3 1 (.slice ka2 l kc2) (l) (ints (scK s n)) :: .row 3 1 (.slice va2 l vc2) (l) (ints (scV s n)) :: .blk gx #[.int .i64 0, .bool false, .int .i64 0, .int .i64 0, .slice none 0 0, .slice none 0 0, .slice none 0 0] 76 :: .blk gn #[.int .i64 n.lv, .int .i64 n.lk, .int .i64 n.hi, .slice na n.ks.length nc, .slice nva n.vs.length nvc] 24 :: .row 3 1 (.slice (some ⟨g1, 0, none⟩) (s.bel.length + 1) cap1) (s.bel.length + 1) (ints (s.bel ++ [n.hi])) :: .row 3 1 (.slice (some ⟨g2, 0, none⟩) (s.pts.length + 1) cap2) (s.pts.length + 1) (ints (s.pts ++ [s.step])) :: .row 3 1 (.slice na n.ks.length nc) (n.ks.length) (ints (n.ks)) :: .row 3 1 (.slice nva n.vs.length nvc) (n.vs.length) (ints (n.vs)) :: fr)))
          case first =>
            have s8 := hM2.out.cell (i := 0) rfl 8 (.slice ap s.pts.length cp) rfl
            have s3 := hM2.out.cell (i := 0) rfl 3 (.int .i64 s.step) rfl
            have hl9 := hM2.out.lt (i := 0) rfl
            go_wp2_with (at_builtin; refine wpList_append_lies _ rfl _ _ 22 rfl B 3 i0 (.int .i64 0) 1 8 Tryd.underlying22 hi0 hz0 hz1 hz2 rfl (by decide) _ (s.pts.length) (ints (s.pts)) rfl (World.ownsRow.alloc (hM2.out.get (i := 6) rfl) _) ⟨_, 0, none⟩ 1 1 [.int .i64 s.step] rfl rfl (news_one _ _ _) (by simp [Value.oneCell']) (by omega) (by unfold maxLen; omega) (by omega) (by have := hM2.out.sz; simp at this ⊢; omega) _ rfl ?_; intro gq capq w5 hown hgrow hat hlt1; rw [← ints_snoc] at hown; have hm := (hM2.out.allocd _).lies (i := 6) rfl hown hgrow hat; clear hown hgrow hat; have z7 := hm.cell (i := 0) rfl 8 (.slice ap s.pts.length cp) rfl; have y7 := hm.free (i := 0) rfl 8; have hlg := hm.lt (i := 0) rfl; have H1 := hideIt (hm.store (i := 0) (j := 8) rfl (.slice (some ⟨gq, 0, none⟩) (s.pts.length + 1) capq) rfl); clear hm)
            go_wp2
            go_meet
            case rel => exact ⟨_, _, H1.out⟩
          case rest =>
            obtain ⟨g2, cap2, hM3⟩ := hcut
            clear hM2
            have SV : StV wc (scS s n) (.slice ka2 l kc2) (.slice va2 l vc2) (.slice (some ⟨g1, 0, none⟩) (s.bel.length + 1) cap1) (.slice (some ⟨g2, 0, none⟩) (s.pts.length + 1) cap2) (.slice ax 0 cx) (.slice ay 0 cy) := by
              refine ⟨?_, ?_, ?_, ?_, rd0 hsp, rd0 hsv⟩
              · have h1 : As.holds wc B (.row 3 1 (.slice ka2 l kc2) (l) (ints (scK s n))) := hM3.out.get (i := 1) rfl
                show Rd wc _ (scK s n)
                rw [← HL1.out] at h1 ⊢; exact owns_rd h1
              · have h1 : As.holds wc B (.row 3 1 (.slice va2 l vc2) (l) (ints (scV s n))) := hM3.out.get (i := 2) rfl
                show Rd wc _ (scV s n)
                rw [← HL2.out] at h1 ⊢; exact owns_rd h1
              · have h1 : As.holds wc B (.row 3 1 (.slice (some ⟨g1, 0, none⟩) (s.bel.length + 1) cap1) (s.bel.length + 1) (ints (s.bel ++ [n.hi]))) := hM3.out.get (i := 5) rfl
                show Rd wc _ (s.bel ++ [scB s n])
                rw [HBB.out]
                rw [show s.bel.length + 1 = (s.bel ++ [n.hi]).length by simp] at h1 ⊢; exact owns_rd h1
              · have h1 : As.holds wc B (.row 3 1 (.slice (some ⟨g2, 0, none⟩) (s.pts.length + 1) cap2) (s.pts.length + 1) (ints (s.pts ++ [s.step]))) := hM3.out.get (i := 6) rfl
                show Rd wc _ (s.pts ++ [s.step])
                rw [show s.pts.length + 1 = (s.pts ++ [s.step]).length by simp] at h1 ⊢; exact owns_rd h1
            have hzl : ((scS s n).bel.zip (scS s n).pts).length = (scS s n).bel.length := by
              have := HBL.out
              simp [scS, List.length_zip]; omega
            have CS := scanned_any (scS s n) _ _ _ _ _ _ wc SV (by have := HBL.out; simp [scS]; omega) (by simp [scS]; omega)
            obtain ⟨cl, hcl⟩ : ∃ x, ((scS s n).bel.zip (scS s n).pts).length = x := ⟨_, rfl⟩
            rw [← hzl, hcl] at CS
            have HCL := hideIt hcl
            obtain ⟨fdv, hfdv⟩ : ∃ x, decide (0 < (scS s n).keys.length) = x := ⟨_, rfl⟩
            obtain ⟨lnv, hlnv⟩ : ∃ x, ((scS s n).keys.length : Int) = x := ⟨_, rfl⟩
            rw [hfdv, hlnv, show (scS s n).step = s.step from rfl] at CS
            have HCS := hideIt CS
            have HFD := hideIt hfdv
            have HLN := hideIt hlnv
            have HSO : Hid (scO s n = .fin (decide (0 < (scK s n).length)) (scK s n).length s.step (scK s n) (scV s n) ((scS s n).bel.zip (scS s n).pts)) := by unfold Hid scO; rw [HE.out]; rfl
            clear CS hfdv hlnv hzl SV hcl
            go_wp2_with (refine wpList_load_row rfl 98 _ rfl _ rfl 98 _ (0, 0) _ (hM3.out.block (i := 0) rfl) Tryd.underlying98 rfl infoState ?_)
            refine HCS.out.mono ?_
            rintro e w5 ⟨cv5, rfl, hC⟩
            obtain ⟨ca5, cc5, rfl⟩ := As.form0 (hC.get (i := 0) rfl)
            have hM5 := hideIt (hM3.out.join hC)
            clear hC hM3 HCS
            have r0 := hM5.out.cell (i := 4) rfl 0 (.int .i64 0) rfl
            have f0 := hM5.out.free (i := 4) rfl 0
            have r1 := hM5.out.cell (i := 4) rfl 1 (.bool false) rfl
            have f1 := hM5.out.free (i := 4) rfl 1
            have r2 := hM5.out.cell (i := 4) rfl 2 (.int .i64 0) rfl
            have f2 := hM5.out.free (i := 4) rfl 2
            have r3 := hM5.out.cell (i := 4) rfl 3 (.int .i64 0) rfl
            have f3 := hM5.out.free (i := 4) rfl 3
            have r4 := hM5.out.cell (i := 4) rfl 4 (.slice none 0 0) rfl
            have f4 := hM5.out.free (i := 4) rfl 4
            have r5 := hM5.out.cell (i := 4) rfl 5 (.slice none 0 0) rfl
            have f5 := hM5.out.free (i := 4) rfl 5
            have r6 := hM5.out.cell (i := 4) rfl 6 (.slice none 0 0) rfl
            have f6 := hM5.out.free (i := 4) rfl 6
            have S7 := hideIt (hM5.out.store7 (i := 4) rfl (.int .i64 0) (.bool fdv) (.int .i64 lnv) (.int .i64 s.step) (.slice ka2 l kc2) (.slice va2 l vc2) (.slice ca5 cl cc5))
            clear hM5
            go_wp2
            refine bodyPost_ret (v := .tuple #[.string ⟨#[]⟩, .agg #[.int .i64 0, .bool fdv, .int .i64 lnv, .int .i64 s.step, .slice ka2 l kc2, .slice va2 l vc2, .slice ca5 cl cc5], .bool true, .int .i64 0]) (by simp [results, Tryd.results106, go_sem, *]) rfl ?_
            rw [HSO.out]
            have hF := S7.out.scOut
            refine ⟨_, _, _, by rw [← HFD.out, ← HLN.out]; rfl, ?_⟩
            rw [HL1.out, HL2.out, HCL.out]
            exact hF
      · have heb : (n.hi == s.val + 1) = false := by simp [he]
        have HE : Hid (scEnd s n = false) := by
          unfold Hid scEnd
          rw [HBB.out, HL1.out]
          simp [he]; omega
        clear he
        go_upto_region 9 with fail
        go_cut [] (fun wy => ∃ g1 cap1, Hid (M w0 B wy (.blk gs #[.int .i64 s.kd, .int .i64 s.key, .int .i64 s.val, .int .i64 s.step, .int .i64 s.pg, .slice ka2 l kc2, .slice va2 l vc2, .slice (some ⟨g1, 0, none⟩) (s.bel.length + 1) cap1, .slice ap s.pts.length cp, .string s.sw, .int .i64 s.ver, .slice ax 0 cx, .slice ay 0 cy, .int .i64 s.laid, .int .i64 s.lv, .int .i64 s.low, .int .i64 s.ch, .int .i64 s.pt] 98 :: .row 3 1 (.slice ka2 l kc2) (l) (ints (scK s n)) :: .row 3 1 (.slice va2 l vc2) (l) (ints (scV s n)) :: .blk gx #[.int .i64 0, .bool false, .int .i64 0, .int .i64 0, .slice none 0 0, .slice none 0 0, .slice none 0 0] 76 :: .blk gn #[.int .i64 n.lv, .int .i64 n.lk, .int .i64 n.hi, .slice na n.ks.length nc, .slice nva n.vs.length nvc] 24 :: .row 3 1 (.slice (some ⟨g1, 0, none⟩) (s.bel.length + 1) cap1) (s.bel.length + 1) (ints (s.bel ++ [n.hi])) :: .row 3 1 (.slice ap s.pts.length cp) (s.pts.length) (ints (s.pts)) :: .row 3 1 (.slice na n.ks.length nc) (n.ks.length) (ints (n.ks)) :: .row 3 1 (.slice nva n.vs.length nvc) (n.vs.length) (ints (n.vs)) :: fr)))
        case first =>
          have s7 := HM.out.cell (i := 0) rfl 7 (.slice ab s.bel.length cb) rfl
          have hl9 := HM.out.lt (i := 0) rfl
          go_wp2_with (at_builtin; refine wpList_append_lies _ rfl _ _ 22 rfl B 3 i0 (.int .i64 0) 1 8 Tryd.underlying22 hi0 hz0 hz1 hz2 rfl (by decide) _ (s.bel.length) (ints (s.bel)) rfl (World.ownsRow.alloc (HM.out.get (i := 5) rfl) _) ⟨_, 0, none⟩ 1 1 [.int .i64 (n.hi)] rfl rfl (news_one _ _ _) (by simp [Value.oneCell']) (by omega) (by unfold maxLen; omega) (by omega) (by have := HM.out.sz; simp at this ⊢; omega) _ rfl ?_; intro gq capq w5 hown hgrow hat hlt1; rw [← ints_snoc] at hown; have hm := (HM.out.allocd _).lies (i := 5) rfl hown hgrow hat; clear hown hgrow hat; have z7 := hm.cell (i := 0) rfl 7 (.slice ab s.bel.length cb) rfl; have y7 := hm.free (i := 0) rfl 7; have hlg := hm.lt (i := 0) rfl; have H1 := hideIt (hm.store (i := 0) (j := 7) rfl (.slice (some ⟨gq, 0, none⟩) (s.bel.length + 1) capq) rfl); clear hm)
          go_wp2
          go_meet
          case rel => exact ⟨_, _, H1.out⟩
        case rest =>
          obtain ⟨g1, cap1, hM2⟩ := hcut
          clear HM s2 n2 k5
          go_upto_region 10 with fail
          go_cut [] (fun wy => ∃ g2 cap2, Hid (M w0 B wy (.blk gs #[.int .i64 s.kd, .int .i64 s.key, .int .i64 s.val, .int .i64 s.step, .int .i64 s.pg, .slice ka2 l kc2, .slice va2 l vc2, .slice (some ⟨g1, 0, none⟩) (s.bel.length + 1) cap1, .slice (some ⟨g2, 0, none⟩) (s.pts.length + 1) cap2, .string s.sw, .int .i64 s.ver, .slice ax 0 cx, .slice ay 0 cy, .int .i64 s.laid, .int .i64 s.lv, .int .i64 s.low, .int .i64 s.ch, .int .i64 s.pt] 98 :: .row 3 1 (.slice ka2 l kc2) (l) (ints (scK s n)) :: .row 3 1 (.slice va2 l vc2) (l) (ints (scV s n)) :: .blk gx #[.int .i64 0, .bool false, .int .i64 0, .int .i64 0, .slice none 0 0, .slice none 0 0, .slice none 0 0] 76 :: .blk gn #[.int .i64 n.lv, .int .i64 n.lk, .int .i64 n.hi, .slice na n.ks.length nc, .slice nva n.vs.length nvc] 24 :: .row 3 1 (.slice (some ⟨g1, 0, none⟩) (s.bel.length + 1) cap1) (s.bel.length + 1) (ints (s.bel ++ [n.hi])) :: .row 3 1 (.slice (some ⟨g2, 0, none⟩) (s.pts.length + 1) cap2) (s.pts.length + 1) (ints (s.pts ++ [s.step])) :: .row 3 1 (.slice na n.ks.length nc) (n.ks.length) (ints (n.ks)) :: .row 3 1 (.slice nva n.vs.length nvc) (n.vs.length) (ints (n.vs)) :: fr)))
          case first =>
            have s8 := hM2.out.cell (i := 0) rfl 8 (.slice ap s.pts.length cp) rfl
            have s3 := hM2.out.cell (i := 0) rfl 3 (.int .i64 s.step) rfl
            have hl9 := hM2.out.lt (i := 0) rfl
            go_wp2_with (at_builtin; refine wpList_append_lies _ rfl _ _ 22 rfl B 3 i0 (.int .i64 0) 1 8 Tryd.underlying22 hi0 hz0 hz1 hz2 rfl (by decide) _ (s.pts.length) (ints (s.pts)) rfl (World.ownsRow.alloc (hM2.out.get (i := 6) rfl) _) ⟨_, 0, none⟩ 1 1 [.int .i64 s.step] rfl rfl (news_one _ _ _) (by simp [Value.oneCell']) (by omega) (by unfold maxLen; omega) (by omega) (by have := hM2.out.sz; simp at this ⊢; omega) _ rfl ?_; intro gq capq w5 hown hgrow hat hlt1; rw [← ints_snoc] at hown; have hm := (hM2.out.allocd _).lies (i := 6) rfl hown hgrow hat; clear hown hgrow hat; have z7 := hm.cell (i := 0) rfl 8 (.slice ap s.pts.length cp) rfl; have y7 := hm.free (i := 0) rfl 8; have hlg := hm.lt (i := 0) rfl; have H1 := hideIt (hm.store (i := 0) (j := 8) rfl (.slice (some ⟨gq, 0, none⟩) (s.pts.length + 1) capq) rfl); clear hm)
            go_wp2
            go_meet
            case rel => exact ⟨_, _, H1.out⟩
          case rest =>
            obtain ⟨g2, cap2, hM3⟩ := hcut
            clear hM2
            have SV : StV wc (scS s n) (.slice ka2 l kc2) (.slice va2 l vc2) (.slice (some ⟨g1, 0, none⟩) (s.bel.length + 1) cap1) (.slice (some ⟨g2, 0, none⟩) (s.pts.length + 1) cap2) (.slice ax 0 cx) (.slice ay 0 cy) := by
              refine ⟨?_, ?_, ?_, ?_, rd0 hsp, rd0 hsv⟩
              · have h1 : As.holds wc B (.row 3 1 (.slice ka2 l kc2) (l) (ints (scK s n))) := hM3.out.get (i := 1) rfl
                show Rd wc _ (scK s n)
                rw [← HL1.out] at h1 ⊢; exact owns_rd h1
              · have h1 : As.holds wc B (.row 3 1 (.slice va2 l vc2) (l) (ints (scV s n))) := hM3.out.get (i := 2) rfl
                show Rd wc _ (scV s n)
                rw [← HL2.out] at h1 ⊢; exact owns_rd h1
              · have h1 : As.holds wc B (.row 3 1 (.slice (some ⟨g1, 0, none⟩) (s.bel.length + 1) cap1) (s.bel.length + 1) (ints (s.bel ++ [n.hi]))) := hM3.out.get (i := 5) rfl
                show Rd wc _ (s.bel ++ [scB s n])
                rw [HBB.out]
                rw [show s.bel.length + 1 = (s.bel ++ [n.hi]).length by simp] at h1 ⊢; exact owns_rd h1
              · have h1 : As.holds wc B (.row 3 1 (.slice (some ⟨g2, 0, none⟩) (s.pts.length + 1) cap2) (s.pts.length + 1) (ints (s.pts ++ [s.step]))) := hM3.out.get (i := 6) rfl
                show Rd wc _ (s.pts ++ [s.step])
                rw [show s.pts.length + 1 = (s.pts ++ [s.step]).length by simp] at h1 ⊢; exact owns_rd h1
            have HSO : Hid (scO s n = .on { scS s n with pg := n.lk, step := s.step + 1 }) := by unfold Hid scO; rw [HE.out]; rfl
            obtain ⟨hk1, hk2⟩ := HLK.out HE.out
            have HCS := hideIt (readOn_any (scS s n) n.lk _ _ _ _ _ _ wc (HT.out _ _ hM3.out) SV hk2 (by show s.step ≤ 1000000000; omega) hs0 hk1)
            have n1 := hM3.out.cell (i := 4) rfl 1 (.int .i64 n.lk) rfl
            clear SV hk1 hk2
            go_wp2_with (refine wpList_load_row rfl 98 _ rfl _ rfl 98 _ (0, 0) _ (hM3.out.block (i := 0) rfl) Tryd.underlying98 rfl infoState ?_)
            refine HCS.out.mono ?_
            rintro e w5 ⟨⟨c5, rfl, hc5⟩, hb5⟩
            have hM5 := hideIt (hM3.out.below hb5)
            have HC5 := hideIt hc5
            clear hc5 hb5 hM3 HCS n1
            have r0 := hM5.out.cell (i := 3) rfl 0 (.int .i64 0) rfl
            have f0 := hM5.out.free (i := 3) rfl 0
            have r1 := hM5.out.cell (i := 3) rfl 1 (.bool false) rfl
            have f1 := hM5.out.free (i := 3) rfl 1
            have r2 := hM5.out.cell (i := 3) rfl 2 (.int .i64 0) rfl
            have f2 := hM5.out.free (i := 3) rfl 2
            have r3 := hM5.out.cell (i := 3) rfl 3 (.int .i64 0) rfl
            have f3 := hM5.out.free (i := 3) rfl 3
            have r4 := hM5.out.cell (i := 3) rfl 4 (.slice none 0 0) rfl
            have f4 := hM5.out.free (i := 3) rfl 4
            have r5 := hM5.out.cell (i := 3) rfl 5 (.slice none 0 0) rfl
            have f5 := hM5.out.free (i := 3) rfl 5
            have r6 := hM5.out.cell (i := 3) rfl 6 (.slice none 0 0) rfl
            have f6 := hM5.out.free (i := 3) rfl 6
            have S7 := hideIt (hM5.out.store7 (i := 3) rfl (.int .i64 0) (.bool false) (.int .i64 0) (.int .i64 0) (.slice none 0 0) (.slice none 0 0) (.slice none 0 0))
            clear hM5
            rw [show ans0 = #[.int .i64 0, .bool false, .int .i64 0, .int .i64 0, .slice none 0 0, .slice none 0 0, .slice none 0 0] from rfl]
            go_wp2
            refine bodyPost_ret (v := .tuple #[.string c5, .agg #[.int .i64 0, .bool false, .int .i64 0, .int .i64 0, .slice none 0 0, .slice none 0 0, .slice none 0 0], .bool false, .int .i64 0]) (by simp [results, Tryd.results106, go_sem, *]) rfl ?_
            rw [HSO.out]
            exact ⟨⟨c5, rfl, HC5.out⟩, S7.out.scOn⟩
end Go.Proofs.YtajobgmnmbnhiaaDoor.Sap

/- WHAT IS PROVED HERE: what tree.tellRead answers where it leads on, to a Scan and to a Get; what tree.Tell answers to the text of a page. Conditions: named at each theorem. -/
namespace Go.Proofs.YtajobgmnmbnhiaaDoor.Sap
open Go.RowKit

theorem OwnS.m {w w' : World} {s : St} {kv vv bv pv xv yv : Value} (h : OwnS w' w.heap.size s kv vv bv pv xv yv) (hb : Below w.heap.size w w') :
    M w w.heap.size w' [.row 3 1 kv s.keys.length (ints s.keys), .row 3 1 vv s.vals.length (ints s.vals), .row 3 1 bv s.bel.length (ints s.bel), .row 3 1 pv s.pts.length (ints s.pts), .row 3 1 xv s.sp.length (ints s.sp), .row 3 1 yv s.sv.length (ints s.sv)] := by
  refine ⟨fun a ha => ?_, ?_, hb, hb.size⟩
  · simp only [List.mem_cons, List.not_mem_nil, or_false] at ha
    rcases ha with rfl | rfl | rfl | rfl | rfl | rfl
    · exact h.keys
    · exact h.vals
    · exact h.bel
    · exact h.pts
    · exact h.sp
    · exact h.sv
  · refine List.pairwise_cons.2 ⟨fun b hb => ?_, List.pairwise_cons.2 ⟨fun b hb => ?_, List.pairwise_cons.2 ⟨fun b hb => ?_, List.pairwise_cons.2 ⟨fun b hb => ?_, List.pairwise_cons.2 ⟨fun b hb => ?_, List.pairwise_singleton _ _⟩⟩⟩⟩⟩
    · simp only [List.mem_cons, List.not_mem_nil, or_false] at hb
      rcases hb with rfl | rfl | rfl | rfl | rfl
      · exact h.keys_vals
      · exact h.keys_bel
      · exact h.keys_pts
      · exact h.keys_sp
      · exact h.keys_sv
    · simp only [List.mem_cons, List.not_mem_nil, or_false] at hb
      rcases hb with rfl | rfl | rfl | rfl
      · exact h.vals_bel
      · exact h.vals_pts
      · exact h.vals_sp
      · exact h.vals_sv
    · simp only [List.mem_cons, List.not_mem_nil, or_false] at hb
      rcases hb with rfl | rfl | rfl
      · exact h.bel_pts
      · exact h.bel_sp
      · exact h.bel_sv
    · simp only [List.mem_cons, List.not_mem_nil, or_false] at hb
      rcases hb with rfl | rfl
      · exact h.pts_sp
      · exact h.pts_sv
    · simp only [List.mem_cons, List.not_mem_nil, or_false] at hb
      subst hb
      exact h.sp_sv
theorem Own.m2 {w w' : World} {kv vv : Value} {ks vs : List Int} (h : Own w' w.heap.size kv vv ks vs) (hb : Below w.heap.size w w') : M w w.heap.size w' [.row 3 1 kv ks.length (ints ks), .row 3 1 vv vs.length (ints vs)] := by
  refine ⟨fun a ha => ?_, ?_, hb, hb.size⟩
  · simp only [List.mem_cons, List.not_mem_nil, or_false] at ha
    rcases ha with rfl | rfl
    · exact h.1
    · exact h.2.1
  · refine List.pairwise_cons.2 ⟨fun b hb => ?_, List.pairwise_singleton _ _⟩
    simp only [List.mem_cons, List.not_mem_nil, or_false] at hb
    subst hb
    exact h.2.2
/-- What is laid out in a row may be laid out in another. -/
theorem M.mvAt {w0 w : World} {B : Nat} {pre a b c : List As} (h : M w0 B w (pre ++ (a ++ (b ++ c)))) : M w0 B w (pre ++ (b ++ (a ++ c))) := by
  refine h.perm (List.Perm.append_left _ ?_)
  rw [← List.append_assoc, ← List.append_assoc]
  exact List.Perm.append_right _ List.perm_append_comm

/-- A node that does not itself hold the key. -/
def rdGo (s : St) (n : Nd) : Prop := s.lv < n.lv ∨ n.hi ≤ wantV s

set_option maxRecDepth 100000 in
set_option maxHeartbeats 6400000 in
theorem tellRead_on (s : St) (n : Nd) (kv vv bv pv xv yv : Value) (t : ByteArray) (ver : Int) (fr : List As) (w0 w : World) (B : Nat) (htab : Tab w0) (hB : B = w0.heap.size) (hs : StOk s) (hu : Unp t.data.toList n) (hgo : rdGo s n) (hst1 : s.step ≤ 1000000000) (hnx : 0 ≤ onwV n (wantV s)) (hI : StI { s with pg := onwV n (wantV s), step := s.step + 1 })
    (h : M w0 B w (.row 3 1 kv s.keys.length (ints s.keys) :: .row 3 1 vv s.vals.length (ints s.vals) :: .row 3 1 bv s.bel.length (ints s.bel) :: .row 3 1 pv s.pts.length (ints s.pts) :: .row 3 1 xv s.sp.length (ints s.sp) :: .row 3 1 yv s.sv.length (ints s.sv) :: fr)) :
    Calls Tryd.prog 90 #[.agg #[.int .i64 s.kd, .int .i64 s.key, .int .i64 s.val, .int .i64 s.step, .int .i64 s.pg, kv, vv, bv, pv, .string s.sw, .int .i64 s.ver, xv, yv, .int .i64 s.laid, .int .i64 s.lv, .int .i64 s.low, .int .i64 s.ch, .int .i64 s.pt], .agg #[.int .i64 ver, .int .i64 0, .string t, .bool false]] w fun e w' => OnR { s with pg := onwV n (wantV s), step := s.step + 1 } e ∧ M w0 B w' fr := by
  obtain ⟨ak, ck, rfl⟩ := As.form0 (h.get (i := 0) rfl)
  obtain ⟨av, cv, rfl⟩ := As.form0 (h.get (i := 1) rfl)
  obtain ⟨ab, cb, rfl⟩ := As.form0 (h.get (i := 2) rfl)
  obtain ⟨ap, cp, rfl⟩ := As.form0 (h.get (i := 3) rfl)
  obtain ⟨ax, cx, rfl⟩ := As.form0 (h.get (i := 4) rfl)
  obtain ⟨ay, cy, rfl⟩ := As.form0 (h.get (i := 5) rfl)
  have htl : t.size ≤ 47 := by
    have := (len_packT n hu.1).2
    rw [hu.2, ba_size] at this; exact this
  have hr := right_bd n hu.1
  have HR := hideIt hr
  have HS := hideIt hs
  have HU := hideIt hu
  have hlv0 := hr.1
  have A0 := ((h.alloc #[.int .i64 s.kd, .int .i64 s.key, .int .i64 s.val, .int .i64 s.step, .int .i64 s.pg, .slice ak s.keys.length ck, .slice av s.vals.length cv, .slice ab s.bel.length cb, .slice ap s.pts.length cp, .string s.sw, .int .i64 s.ver, .slice ax s.sp.length cx, .slice ay s.sv.length cy, .int .i64 s.laid, .int .i64 s.lv, .int .i64 s.low, .int .i64 s.ch, .int .i64 s.pt] 98).alloc #[.int .i64 ver, .int .i64 0, .string t, .bool false] 73).alloc #[.int .i64 0, .bool false, .int .i64 0, .int .i64 0, .slice none 0 0, .slice none 0 0, .slice none 0 0] 76
  rw [alloc_size, alloc_size] at A0
  have CU := hideIt (fun W => unpack_any t W (by omega))
  have HT : Hid (∀ W l, M w0 B W l → Tab W) := fun W l hm => htab.below (hB ▸ hm.bl)
  have rt := A0.cell (i := 1) rfl 2 (.string t) rfl
  have A1 := hideIt A0
  have HGO := hideIt hgo
  have HI := hideIt hI
  have HNX0 := hideIt hnx
  have hst0 := hs.step.1
  clear hs hu htab hB hr htl h A0 hgo hI hnx
  go_enter Tryd.func90, Tryd.ntmps90
  go_wp2_with fail
  refine (CU.out _).mono ?_
  rintro e w2 ⟨hR, hb⟩
  refine Or.elim hR (fun h1 => ?_) (fun h1 => absurd HU.out (h1.1 n))
  clear hR
  obtain ⟨n', kv2, vv2, hu', hO2, rfl⟩ := h1
  obtain rfl : n = n' := HU.out.uniq hu'
  have A3 := A1.out.join (Own.m2 hO2 hb)
  clear hO2 hb CU A1 rt hu'
  obtain ⟨na, nc, rfl⟩ := As.form0 (A3.get (i := 0) rfl)
  obtain ⟨nva, nvc, rfl⟩ := As.form0 (A3.get (i := 1) rfl)
  have A4 := hideIt (A3.alloc #[.int .i64 n.lv, .int .i64 n.lk, .int .i64 n.hi, .slice na n.ks.length nc, .slice nva n.vs.length nvc] 24)
  clear A3
  have HSV : Hid (∀ W (l : List As), M w0 B W l → As.row 3 1 (.slice ak s.keys.length ck) s.keys.length (ints s.keys) ∈ l → As.row 3 1 (.slice av s.vals.length cv) s.vals.length (ints s.vals) ∈ l → As.row 3 1 (.slice ab s.bel.length cb) s.bel.length (ints s.bel) ∈ l → As.row 3 1 (.slice ap s.pts.length cp) s.pts.length (ints s.pts) ∈ l → As.row 3 1 (.slice ax s.sp.length cx) s.sp.length (ints s.sp) ∈ l → As.row 3 1 (.slice ay s.sv.length cy) s.sv.length (ints s.sv) ∈ l → StV W s (.slice ak s.keys.length ck) (.slice av s.vals.length cv) (.slice ab s.bel.length cb) (.slice ap s.pts.length cp) (.slice ax s.sp.length cx) (.slice ay s.sv.length cy)) := by
    intro W l hW h1 h2 h3 h4 h5 h6
    exact ⟨owns_rd (hW.holds _ h1), owns_rd (hW.holds _ h2), owns_rd (hW.holds _ h3), owns_rd (hW.holds _ h4), owns_rd (hW.holds _ h5), owns_rd (hW.holds _ h6)⟩
  have HNR : Hid (∀ W (l : List As), M w0 B W l → As.row 3 1 (.slice na n.ks.length nc) n.ks.length (ints n.ks) ∈ l → As.row 3 1 (.slice nva n.vs.length nvc) n.vs.length (ints n.vs) ∈ l → Rd W (.slice na n.ks.length nc) n.ks ∧ Rd W (.slice nva n.vs.length nvc) n.vs) := fun W l hW h1 h2 => ⟨owns_rd (hW.holds _ h1), owns_rd (hW.holds _ h2)⟩
  obtain ⟨gx, hgx⟩ : ∃ g, w.heap.size = g := ⟨_, rfl⟩
  rw [hgx] at A4 ⊢
  clear hgx
  go_wp2_with (refine wpList_load_row rfl 98 _ rfl _ rfl 98 _ (0, 0) _ (A4.out.block (i := 5) rfl) Tryd.underlying98 rfl infoState ?_)
  refine (wanted_any s _ _ _ _ _ _ _ (HSV.out _ _ A4.out (by simp) (by simp) (by simp) (by simp) (by simp) (by simp)) HS.out.i).mono ?_
  rintro e w3 ⟨rfl, hb3⟩
  have A5 := hideIt (A4.out.below hb3)
  clear A4 hb3
  obtain ⟨L, hL⟩ : ∃ x, wantV s = x := ⟨_, rfl⟩
  rw [hL]
  have HL := hideIt hL
  clear hL
  have q0 := A5.out.cell (i := 5) rfl 0 (.int .i64 s.kd) rfl
  have q14 := A5.out.cell (i := 5) rfl 14 (.int .i64 s.lv) rfl
  have n0 := A5.out.cell (i := 0) rfl 0 (.int .i64 n.lv) rfl
  have n1 := A5.out.cell (i := 0) rfl 1 (.int .i64 n.lk) rfl
  have n2 := A5.out.cell (i := 0) rfl 2 (.int .i64 n.hi) rfl
  have n3 := A5.out.cell (i := 0) rfl 3 (.slice na n.ks.length nc) rfl
  have n4 := A5.out.cell (i := 0) rfl 4 (.slice nva n.vs.length nvc) rfl
  have hgo := HGO.out
  unfold rdGo at hgo
  rw [HL.out] at hgo HI HNX0
  go_upto_region 5 with fail
  go_cut [34] (fun u wy => u = .bool true ∧ wy = w3)
  case first =>
    by_cases hl : s.lv < n.lv
    · clear hgo
      go_wp2
      go_meet
      case rel => exact ⟨rfl, rfl⟩
    · have hhi : n.hi ≤ L := by rcases hgo with h | h; exact absurd h hl; exact h
      have hl2 : decide (s.lv < n.lv) = false := decide_eq_false hl
      clear hgo hl
      go_wp2
      go_meet
      case rel => exact ⟨rfl, rfl⟩
  case rest =>
  obtain ⟨rfl, rfl⟩ := hcut
  clear hgo
  obtain ⟨nx, hnx⟩ : ∃ x, onwV n L = x := ⟨_, rfl⟩
  rw [hnx] at HI HNX0
  have HNX := hideIt hnx
  clear hnx
  go_wp2_with fail
  refine (onward_any n _ _ L _ (HNR.out _ _ A5.out (by simp) (by simp)).1 (HNR.out _ _ A5.out (by simp) (by simp)).2 HR.out.2.2.2.1 HR.out.2.2.2.2.1).mono ?_
  rintro e w4 ⟨rfl, hb4⟩
  rw [HNX.out]
  have A6 := hideIt (A5.out.below hb4)
  clear A5 hb4 q0 q14 n0 n1 n2 n3 n4
  go_wp2_with (refine wpList_load_row rfl 98 _ rfl _ rfl 98 _ (0, 0) _ (A6.out.block (i := 5) rfl) Tryd.underlying98 rfl infoState ?_)
  refine (readOn_any s nx _ _ _ _ _ _ _ (HT.out _ _ A6.out) (HSV.out _ _ A6.out (by simp) (by simp) (by simp) (by simp) (by simp) (by simp)) HI.out (by omega) hst0 HNX0.out).mono ?_
  rintro e w5 ⟨⟨c5, rfl, hc5⟩, hb5⟩
  have A7 := hideIt (A6.out.below hb5)
  have HC5 := hideIt hc5
  clear hc5 hb5 A6 HI
  rw [show ans0 = #[.int .i64 0, .bool false, .int .i64 0, .int .i64 0, .slice none 0 0, .slice none 0 0, .slice none 0 0] from rfl]
  have r0 := A7.out.cell (i := 3) rfl 0 (.int .i64 0) rfl
  have f0 := A7.out.free (i := 3) rfl 0
  have r1 := A7.out.cell (i := 3) rfl 1 (.bool false) rfl
  have f1 := A7.out.free (i := 3) rfl 1
  have r2 := A7.out.cell (i := 3) rfl 2 (.int .i64 0) rfl
  have f2 := A7.out.free (i := 3) rfl 2
  have r3 := A7.out.cell (i := 3) rfl 3 (.int .i64 0) rfl
  have f3 := A7.out.free (i := 3) rfl 3
  have r4 := A7.out.cell (i := 3) rfl 4 (.slice none 0 0) rfl
  have f4 := A7.out.free (i := 3) rfl 4
  have r5 := A7.out.cell (i := 3) rfl 5 (.slice none 0 0) rfl
  have f5 := A7.out.free (i := 3) rfl 5
  have r6 := A7.out.cell (i := 3) rfl 6 (.slice none 0 0) rfl
  have f6 := A7.out.free (i := 3) rfl 6
  have S7 := hideIt (A7.out.store7 (i := 3) rfl (.int .i64 0) (.bool false) (.int .i64 0) (.int .i64 0) (.slice none 0 0) (.slice none 0 0) (.slice none 0 0))
  clear A7
  go_wp2
  refine bodyPost_ret (v := .tuple #[.string c5, .agg #[.int .i64 0, .bool false, .int .i64 0, .int .i64 0, .slice none 0 0, .slice none 0 0, .slice none 0 0], .bool false, .int .i64 0]) (by simp [results, Tryd.results90, go_sem, *]) rfl ?_
  rw [HL.out, HNX.out]
  exact ⟨⟨c5, rfl, HC5.out⟩, S7.out.sub (.cons _ (.cons _ (.cons _ (.cons _ (.cons _ (.cons _ (.cons _ (.cons _ (.cons _ (.cons _ (.cons _ (.cons _ (List.Sublist.refl _)))))))))))))⟩

set_option maxRecDepth 100000 in
set_option maxHeartbeats 6400000 in
theorem tellRead_get (s : St) (n : Nd) (kv vv bv pv xv yv : Value) (t : ByteArray) (ver : Int) (fr : List As) (w0 w : World) (B : Nat) (htab : Tab w0) (hB : B = w0.heap.size) (hs : StOk s) (hu : Unp t.data.toList n) (hgo : ¬ rdGo s n) (hk1 : s.kd = 1)
    (h : M w0 B w (.row 3 1 kv s.keys.length (ints s.keys) :: .row 3 1 vv s.vals.length (ints s.vals) :: .row 3 1 bv s.bel.length (ints s.bel) :: .row 3 1 pv s.pts.length (ints s.pts) :: .row 3 1 xv s.sp.length (ints s.sp) :: .row 3 1 yv s.sv.length (ints s.sv) :: fr)) :
    Calls Tryd.prog 90 #[.agg #[.int .i64 s.kd, .int .i64 s.key, .int .i64 s.val, .int .i64 s.step, .int .i64 s.pg, kv, vv, bv, pv, .string s.sw, .int .i64 s.ver, xv, yv, .int .i64 s.laid, .int .i64 s.lv, .int .i64 s.low, .int .i64 s.ch, .int .i64 s.pt], .agg #[.int .i64 ver, .int .i64 0, .string t, .bool false]] w fun e w' => e = .returned (.tuple #[.string ⟨#[]⟩, .agg (ansG (fndB n.ks s.key n.ks.length) (fndV n.ks n.vs s.key n.ks.length) s.step), .bool true, .int .i64 0]) ∧ M w0 B w' fr := by
  obtain ⟨ak, ck, rfl⟩ := As.form0 (h.get (i := 0) rfl)
  obtain ⟨av, cv, rfl⟩ := As.form0 (h.get (i := 1) rfl)
  obtain ⟨ab, cb, rfl⟩ := As.form0 (h.get (i := 2) rfl)
  obtain ⟨ap, cp, rfl⟩ := As.form0 (h.get (i := 3) rfl)
  obtain ⟨ax, cx, rfl⟩ := As.form0 (h.get (i := 4) rfl)
  obtain ⟨ay, cy, rfl⟩ := As.form0 (h.get (i := 5) rfl)
  have htl : t.size ≤ 47 := by
    have := (len_packT n hu.1).2
    rw [hu.2, ba_size] at this; exact this
  have hr := right_bd n hu.1
  have HR := hideIt hr
  have HS := hideIt hs
  have HU := hideIt hu
  have hlv0 := hr.1
  have A0 := ((h.alloc #[.int .i64 s.kd, .int .i64 s.key, .int .i64 s.val, .int .i64 s.step, .int .i64 s.pg, .slice ak s.keys.length ck, .slice av s.vals.length cv, .slice ab s.bel.length cb, .slice ap s.pts.length cp, .string s.sw, .int .i64 s.ver, .slice ax s.sp.length cx, .slice ay s.sv.length cy, .int .i64 s.laid, .int .i64 s.lv, .int .i64 s.low, .int .i64 s.ch, .int .i64 s.pt] 98).alloc #[.int .i64 ver, .int .i64 0, .string t, .bool false] 73).alloc #[.int .i64 0, .bool false, .int .i64 0, .int .i64 0, .slice none 0 0, .slice none 0 0, .slice none 0 0] 76
  rw [alloc_size, alloc_size] at A0
  have CU := hideIt (fun W => unpack_any t W (by omega))
  have HT : Hid (∀ W l, M w0 B W l → Tab W) := fun W l hm => htab.below (hB ▸ hm.bl)
  have rt := A0.cell (i := 1) rfl 2 (.string t) rfl
  have A1 := hideIt A0
  have HGO := hideIt hgo
  have HK1 := hideIt hk1
  clear hs hu htab hB hr htl h A0 hgo hk1
  go_enter Tryd.func90, Tryd.ntmps90
  go_wp2_with fail
  refine (CU.out _).mono ?_
  rintro e w2 ⟨hR, hb⟩
  refine Or.elim hR (fun h1 => ?_) (fun h1 => absurd HU.out (h1.1 n))
  clear hR
  obtain ⟨n', kv2, vv2, hu', hO2, rfl⟩ := h1
  obtain rfl : n = n' := HU.out.uniq hu'
  have A3 := A1.out.join (Own.m2 hO2 hb)
  clear hO2 hb CU A1 rt hu'
  obtain ⟨na, nc, rfl⟩ := As.form0 (A3.get (i := 0) rfl)
  obtain ⟨nva, nvc, rfl⟩ := As.form0 (A3.get (i := 1) rfl)
  have A4 := hideIt (A3.alloc #[.int .i64 n.lv, .int .i64 n.lk, .int .i64 n.hi, .slice na n.ks.length nc, .slice nva n.vs.length nvc] 24)
  clear A3
  have HSV : Hid (∀ W (l : List As), M w0 B W l → As.row 3 1 (.slice ak s.keys.length ck) s.keys.length (ints s.keys) ∈ l → As.row 3 1 (.slice av s.vals.length cv) s.vals.length (ints s.vals) ∈ l → As.row 3 1 (.slice ab s.bel.length cb) s.bel.length (ints s.bel) ∈ l → As.row 3 1 (.slice ap s.pts.length cp) s.pts.length (ints s.pts) ∈ l → As.row 3 1 (.slice ax s.sp.length cx) s.sp.length (ints s.sp) ∈ l → As.row 3 1 (.slice ay s.sv.length cy) s.sv.length (ints s.sv) ∈ l → StV W s (.slice ak s.keys.length ck) (.slice av s.vals.length cv) (.slice ab s.bel.length cb) (.slice ap s.pts.length cp) (.slice ax s.sp.length cx) (.slice ay s.sv.length cy)) := by
    intro W l hW h1 h2 h3 h4 h5 h6
    exact ⟨owns_rd (hW.holds _ h1), owns_rd (hW.holds _ h2), owns_rd (hW.holds _ h3), owns_rd (hW.holds _ h4), owns_rd (hW.holds _ h5), owns_rd (hW.holds _ h6)⟩
  have HNR : Hid (∀ W (l : List As), M w0 B W l → As.row 3 1 (.slice na n.ks.length nc) n.ks.length (ints n.ks) ∈ l → As.row 3 1 (.slice nva n.vs.length nvc) n.vs.length (ints n.vs) ∈ l → Rd W (.slice na n.ks.length nc) n.ks ∧ Rd W (.slice nva n.vs.length nvc) n.vs) := fun W l hW h1 h2 => ⟨owns_rd (hW.holds _ h1), owns_rd (hW.holds _ h2)⟩
  obtain ⟨gx, hgx⟩ : ∃ g, w.heap.size = g := ⟨_, rfl⟩
  rw [hgx] at A4 ⊢
  clear hgx
  go_wp2_with (refine wpList_load_row rfl 98 _ rfl _ rfl 98 _ (0, 0) _ (A4.out.block (i := 5) rfl) Tryd.underlying98 rfl infoState ?_)
  refine (wanted_any s _ _ _ _ _ _ _ (HSV.out _ _ A4.out (by simp) (by simp) (by simp) (by simp) (by simp) (by simp)) HS.out.i).mono ?_
  rintro e w3 ⟨rfl, hb3⟩
  have A5 := hideIt (A4.out.below hb3)
  clear A4 hb3
  obtain ⟨L, hL⟩ : ∃ x, wantV s = x := ⟨_, rfl⟩
  rw [hL]
  have HL := hideIt hL
  clear hL
  have q0 := A5.out.cell (i := 5) rfl 0 (.int .i64 s.kd) rfl
  have q14 := A5.out.cell (i := 5) rfl 14 (.int .i64 s.lv) rfl
  have n0 := A5.out.cell (i := 0) rfl 0 (.int .i64 n.lv) rfl
  have n1 := A5.out.cell (i := 0) rfl 1 (.int .i64 n.lk) rfl
  have n2 := A5.out.cell (i := 0) rfl 2 (.int .i64 n.hi) rfl
  have n3 := A5.out.cell (i := 0) rfl 3 (.slice na n.ks.length nc) rfl
  have n4 := A5.out.cell (i := 0) rfl 4 (.slice nva n.vs.length nvc) rfl
  have hd1 : decide (s.lv < n.lv) = false := decide_eq_false (fun h => HGO.out (Or.inl h))
  have hd2 : decide (n.hi ≤ L) = false := decide_eq_false (fun h => HGO.out (Or.inr (by rw [HL.out]; exact h)))
  have hkb : (s.kd == 4) = false := by rw [HK1.out]; rfl
  have hkb2 : (s.kd == 2) = false := by rw [HK1.out]; rfl
  have hkb3 : (s.kd == 3) = false := by rw [HK1.out]; rfl
  have CS := lookUp_any s n _ _ _ _ _ _ _ _ w3 (HSV.out _ _ A5.out (by simp) (by simp) (by simp) (by simp) (by simp) (by simp)) (HNR.out _ _ A5.out (by simp) (by simp)).1 (HNR.out _ _ A5.out (by simp) (by simp)).2 HR.out.2.2.2.1 HR.out.2.2.2.2.1
  obtain ⟨fd, hfd⟩ : ∃ x, fndB n.ks s.key n.ks.length = x := ⟨_, rfl⟩
  obtain ⟨va, hva⟩ : ∃ x, fndV n.ks n.vs s.key n.ks.length = x := ⟨_, rfl⟩
  rw [hfd, hva] at CS
  have HCS := hideIt CS
  have HFD := hideIt hfd
  have HVA := hideIt hva
  clear CS hfd hva
  go_wp2_with (refine wpList_load_row rfl 98 _ rfl _ rfl 98 _ (0, 0) _ (A5.out.block (i := 5) rfl) Tryd.underlying98 rfl infoState ?_)
  refine HCS.out.mono ?_
  rintro e w5 ⟨rfl, hb5⟩
  have A7 := hideIt (A5.out.below hb5)
  clear hb5 A5 HCS q0 q14 n0 n1 n2 n3 n4
  rw [show ansG fd va s.step = #[.int .i64 0, .bool fd, .int .i64 va, .int .i64 s.step, .slice none 0 0, .slice none 0 0, .slice none 0 0] from rfl]
  have r0 := A7.out.cell (i := 3) rfl 0 (.int .i64 0) rfl
  have f0 := A7.out.free (i := 3) rfl 0
  have r1 := A7.out.cell (i := 3) rfl 1 (.bool false) rfl
  have f1 := A7.out.free (i := 3) rfl 1
  have r2 := A7.out.cell (i := 3) rfl 2 (.int .i64 0) rfl
  have f2 := A7.out.free (i := 3) rfl 2
  have r3 := A7.out.cell (i := 3) rfl 3 (.int .i64 0) rfl
  have f3 := A7.out.free (i := 3) rfl 3
  have r4 := A7.out.cell (i := 3) rfl 4 (.slice none 0 0) rfl
  have f4 := A7.out.free (i := 3) rfl 4
  have r5 := A7.out.cell (i := 3) rfl 5 (.slice none 0 0) rfl
  have f5 := A7.out.free (i := 3) rfl 5
  have r6 := A7.out.cell (i := 3) rfl 6 (.slice none 0 0) rfl
  have f6 := A7.out.free (i := 3) rfl 6
  have S7 := hideIt (A7.out.store7 (i := 3) rfl (.int .i64 0) (.bool fd) (.int .i64 va) (.int .i64 s.step) (.slice none 0 0) (.slice none 0 0) (.slice none 0 0))
  clear A7
  go_wp2
  refine bodyPost_ret (v := .tuple #[.string ⟨#[]⟩, .agg #[.int .i64 0, .bool fd, .int .i64 va, .int .i64 s.step, .slice none 0 0, .slice none 0 0, .slice none 0 0], .bool true, .int .i64 0]) (by simp [results, Tryd.results90, go_sem, *]) rfl ?_
  rw [HFD.out, HVA.out]
  exact ⟨rfl, S7.out.sub (.cons _ (.cons _ (.cons _ (.cons _ (.cons _ (.cons _ (.cons _ (.cons _ (.cons _ (.cons _ (.cons _ (.cons _ (List.Sublist.refl _)))))))))))))⟩

set_option maxRecDepth 100000 in
set_option maxHeartbeats 6400000 in
theorem tellRead_scan (s : St) (n : Nd) (kv vv bv pv xv yv : Value) (t : ByteArray) (ver : Int) (fr : List As) (w0 w : World) (B : Nat) (htab : Tab w0) (hB : B = w0.heap.size) (hs : StOk s) (hu : Unp t.data.toList n) (hgo : ¬ rdGo s n) (hk4 : s.kd = 4) (hst1 : s.step ≤ 1000000000) (hb63 : s.bel.length ≤ 63) (hsk : ∀ x ∈ s.keys, 0 ≤ x ∧ x ≤ 10000) (hlk : scEnd s n = false → 0 ≤ n.lk ∧ StI { scS s n with pg := n.lk, step := s.step + 1 })
    (h : M w0 B w (.row 3 1 kv s.keys.length (ints s.keys) :: .row 3 1 vv s.vals.length (ints s.vals) :: .row 3 1 bv s.bel.length (ints s.bel) :: .row 3 1 pv s.pts.length (ints s.pts) :: .row 3 1 xv s.sp.length (ints s.sp) :: .row 3 1 yv s.sv.length (ints s.sv) :: fr)) :
    Calls Tryd.prog 90 #[.agg #[.int .i64 s.kd, .int .i64 s.key, .int .i64 s.val, .int .i64 s.step, .int .i64 s.pg, kv, vv, bv, pv, .string s.sw, .int .i64 s.ver, xv, yv, .int .i64 s.laid, .int .i64 s.lv, .int .i64 s.low, .int .i64 s.ch, .int .i64 s.pt], .agg #[.int .i64 ver, .int .i64 0, .string t, .bool false]] w fun e w' => ScR (scO s n) w0 B w' fr e := by
  obtain ⟨ak, ck, rfl⟩ := As.form0 (h.get (i := 0) rfl)
  obtain ⟨av, cv, rfl⟩ := As.form0 (h.get (i := 1) rfl)
  obtain ⟨ab, cb, rfl⟩ := As.form0 (h.get (i := 2) rfl)
  obtain ⟨ap, cp, rfl⟩ := As.form0 (h.get (i := 3) rfl)
  obtain ⟨ax, cx, rfl⟩ := As.form0 (h.get (i := 4) rfl)
  obtain ⟨ay, cy, rfl⟩ := As.form0 (h.get (i := 5) rfl)
  have htl : t.size ≤ 47 := by
    have := (len_packT n hu.1).2
    rw [hu.2, ba_size] at this; exact this
  have hr := right_bd n hu.1
  have HR := hideIt hr
  have HS := hideIt hs
  have HU := hideIt hu
  have hlv0 := hr.1
  have A0 := ((h.alloc #[.int .i64 s.kd, .int .i64 s.key, .int .i64 s.val, .int .i64 s.step, .int .i64 s.pg, .slice ak s.keys.length ck, .slice av s.vals.length cv, .slice ab s.bel.length cb, .slice ap s.pts.length cp, .string s.sw, .int .i64 s.ver, .slice ax s.sp.length cx, .slice ay s.sv.length cy, .int .i64 s.laid, .int .i64 s.lv, .int .i64 s.low, .int .i64 s.ch, .int .i64 s.pt] 98).alloc #[.int .i64 ver, .int .i64 0, .string t, .bool false] 73).alloc #[.int .i64 0, .bool false, .int .i64 0, .int .i64 0, .slice none 0 0, .slice none 0 0, .slice none 0 0] 76
  rw [alloc_size, alloc_size] at A0
  have CU := hideIt (fun W => unpack_any t W (by omega))
  have HT : Hid (∀ W l, M w0 B W l → Tab W) := fun W l hm => htab.below (hB ▸ hm.bl)
  have rt := A0.cell (i := 1) rfl 2 (.string t) rfl
  have A1 := hideIt A0
  have HGO := hideIt hgo
  have HLK := hideIt hlk
  have HSK := hideIt hsk
  have hst0 := hs.step.1
  have hsp : s.sp = [] := by rcases hs.spk with h | h; exact absurd h (by omega); exact h
  have hsv : s.sv = [] := List.eq_nil_of_length_eq_zero (by have := hs.spl; rw [hsp] at this; exact this.symm)
  have HSP := hideIt hsp
  have HSV0 := hideIt hsv
  have HBB := hideIt (And.intro hB htab)
  have HK4 := hideIt hk4
  clear hs hu htab hB hr htl h A0 hgo hlk hsk hsp hsv hk4
  go_enter Tryd.func90, Tryd.ntmps90
  go_wp2_with fail
  refine (CU.out _).mono ?_
  rintro e w2 ⟨hR, hb⟩
  refine Or.elim hR (fun h1 => ?_) (fun h1 => absurd HU.out (h1.1 n))
  clear hR
  obtain ⟨n', kv2, vv2, hu', hO2, rfl⟩ := h1
  obtain rfl : n = n' := HU.out.uniq hu'
  have A3 := A1.out.join (Own.m2 hO2 hb)
  clear hO2 hb CU A1 rt hu'
  obtain ⟨na, nc, rfl⟩ := As.form0 (A3.get (i := 0) rfl)
  obtain ⟨nva, nvc, rfl⟩ := As.form0 (A3.get (i := 1) rfl)
  have A4 := hideIt (A3.alloc #[.int .i64 n.lv, .int .i64 n.lk, .int .i64 n.hi, .slice na n.ks.length nc, .slice nva n.vs.length nvc] 24)
  clear A3
  have HSV : Hid (∀ W (l : List As), M w0 B W l → As.row 3 1 (.slice ak s.keys.length ck) s.keys.length (ints s.keys) ∈ l → As.row 3 1 (.slice av s.vals.length cv) s.vals.length (ints s.vals) ∈ l → As.row 3 1 (.slice ab s.bel.length cb) s.bel.length (ints s.bel) ∈ l → As.row 3 1 (.slice ap s.pts.length cp) s.pts.length (ints s.pts) ∈ l → As.row 3 1 (.slice ax s.sp.length cx) s.sp.length (ints s.sp) ∈ l → As.row 3 1 (.slice ay s.sv.length cy) s.sv.length (ints s.sv) ∈ l → StV W s (.slice ak s.keys.length ck) (.slice av s.vals.length cv) (.slice ab s.bel.length cb) (.slice ap s.pts.length cp) (.slice ax s.sp.length cx) (.slice ay s.sv.length cy)) := by
    intro W l hW h1 h2 h3 h4 h5 h6
    exact ⟨owns_rd (hW.holds _ h1), owns_rd (hW.holds _ h2), owns_rd (hW.holds _ h3), owns_rd (hW.holds _ h4), owns_rd (hW.holds _ h5), owns_rd (hW.holds _ h6)⟩
  have HNR : Hid (∀ W (l : List As), M w0 B W l → As.row 3 1 (.slice na n.ks.length nc) n.ks.length (ints n.ks) ∈ l → As.row 3 1 (.slice nva n.vs.length nvc) n.vs.length (ints n.vs) ∈ l → Rd W (.slice na n.ks.length nc) n.ks ∧ Rd W (.slice nva n.vs.length nvc) n.vs) := fun W l hW h1 h2 => ⟨owns_rd (hW.holds _ h1), owns_rd (hW.holds _ h2)⟩
  obtain ⟨gx, hgx⟩ : ∃ g, w.heap.size = g := ⟨_, rfl⟩
  rw [hgx] at A4 ⊢
  clear hgx
  go_wp2_with (refine wpList_load_row rfl 98 _ rfl _ rfl 98 _ (0, 0) _ (A4.out.block (i := 5) rfl) Tryd.underlying98 rfl infoState ?_)
  refine (wanted_any s _ _ _ _ _ _ _ (HSV.out _ _ A4.out (by simp) (by simp) (by simp) (by simp) (by simp) (by simp)) HS.out.i).mono ?_
  rintro e w3 ⟨rfl, hb3⟩
  have A5 := hideIt (A4.out.below hb3)
  clear A4 hb3
  obtain ⟨L, hL⟩ : ∃ x, wantV s = x := ⟨_, rfl⟩
  rw [hL]
  have HL := hideIt hL
  clear hL
  have q0 := A5.out.cell (i := 5) rfl 0 (.int .i64 s.kd) rfl
  have q14 := A5.out.cell (i := 5) rfl 14 (.int .i64 s.lv) rfl
  have n0 := A5.out.cell (i := 0) rfl 0 (.int .i64 n.lv) rfl
  have n1 := A5.out.cell (i := 0) rfl 1 (.int .i64 n.lk) rfl
  have n2 := A5.out.cell (i := 0) rfl 2 (.int .i64 n.hi) rfl
  have n3 := A5.out.cell (i := 0) rfl 3 (.slice na n.ks.length nc) rfl
  have n4 := A5.out.cell (i := 0) rfl 4 (.slice nva n.vs.length nvc) rfl
  have hd1 : decide (s.lv < n.lv) = false := decide_eq_false (fun h => HGO.out (Or.inl h))
  have hd2 : decide (n.hi ≤ L) = false := decide_eq_false (fun h => HGO.out (Or.inr (by rw [HL.out]; exact h)))
  have hkb : (s.kd == 4) = true := by rw [HK4.out]; rfl
  have hop := HS.out.op
  simp only [opR, HK4.out, Bool.and_eq_true, Bool.or_eq_true, decide_eq_true_eq] at hop
  have A6 := (A5.out.mvAt (pre := []) (a := [_, _, _, _, _, _]) (b := [_, _, _, _])).mvAt (pre := [_, _, _, _]) (a := [_]) (b := [_, _])
  have e1 : s.vals.length = s.keys.length := HS.out.kl.symm
  have e2 : s.sp.length = 0 := by rw [HSP.out]; rfl
  have e3 : s.sv.length = 0 := by rw [HSV0.out]; rfl
  simp only [List.nil_append, List.cons_append, e1, e2, e3] at A6
  have CS := scanLeaf_any s n _ _ _ _ _ _ ax ay cx cy HSP.out HSV0.out _ w0 w3 B HBB.out.2 HBB.out.1 HS.out.i HS.out.kl HS.out.bl hb63 hst0 hst1 (by omega) (by omega) (by have := HR.out.2.2.1; omega) (by have := HR.out.2.2.1; omega) A6 HR.out.2.2.2.1 HR.out.2.2.2.2.1 (fun x hx => by have := HR.out.2.2.2.2.2.2.1 x hx; omega) HSK.out HLK.out
  have A5o := A5.out
  simp only [e1, e2, e3] at A5o
  have A5b := hideIt A5o
  clear A5o
  obtain ⟨o, ho⟩ : ∃ o, scO s n = o := ⟨_, rfl⟩
  rw [ho] at CS
  have HCS := hideIt CS
  have HO := hideIt ho
  clear CS ho hop A6 e1 e2 e3
  rcases o.is with ⟨s', rfl⟩ | ⟨fd, va, pt, ks, vs, cs, rfl⟩
  · go_wp2_with (refine wpList_load_row rfl 98 _ rfl _ rfl 98 _ (0, 0) _ (A5b.out.block (i := 5) rfl) Tryd.underlying98 rfl infoState ?_)
    refine HCS.out.mono ?_
    rintro e w5 ⟨⟨c5, rfl, hc5⟩, hM5⟩
    have A7 := hideIt hM5
    have HC5 := hideIt hc5
    clear hc5 hM5 A5 A5b HCS q0 q14 n0 n1 n2 n3 n4
    have r0 := A7.out.cell (i := 1) rfl 0 (.int .i64 0) rfl
    have f0 := A7.out.free (i := 1) rfl 0
    have r1 := A7.out.cell (i := 1) rfl 1 (.bool false) rfl
    have f1 := A7.out.free (i := 1) rfl 1
    have r2 := A7.out.cell (i := 1) rfl 2 (.int .i64 0) rfl
    have f2 := A7.out.free (i := 1) rfl 2
    have r3 := A7.out.cell (i := 1) rfl 3 (.int .i64 0) rfl
    have f3 := A7.out.free (i := 1) rfl 3
    have r4 := A7.out.cell (i := 1) rfl 4 (.slice none 0 0) rfl
    have f4 := A7.out.free (i := 1) rfl 4
    have r5 := A7.out.cell (i := 1) rfl 5 (.slice none 0 0) rfl
    have f5 := A7.out.free (i := 1) rfl 5
    have r6 := A7.out.cell (i := 1) rfl 6 (.slice none 0 0) rfl
    have f6 := A7.out.free (i := 1) rfl 6
    have S7 := hideIt (A7.out.store7 (i := 1) rfl (.int .i64 0) (.bool false) (.int .i64 0) (.int .i64 0) (.slice none 0 0) (.slice none 0 0) (.slice none 0 0))
    clear A7
    rw [show ans0 = #[.int .i64 0, .bool false, .int .i64 0, .int .i64 0, .slice none 0 0, .slice none 0 0, .slice none 0 0] from rfl]
    go_wp2
    refine bodyPost_ret (v := .tuple #[.string c5, .agg #[.int .i64 0, .bool false, .int .i64 0, .int .i64 0, .slice none 0 0, .slice none 0 0, .slice none 0 0], .bool false, .int .i64 0]) (by simp [results, Tryd.results90, go_sem, *]) rfl ?_
    rw [HO.out]
    exact ⟨⟨c5, rfl, HC5.out⟩, S7.out.sub (.cons _ (.cons _ (.cons _ (.cons _ (.cons _ (.cons _ (List.Sublist.refl _)))))))⟩
  · go_wp2_with (refine wpList_load_row rfl 98 _ rfl _ rfl 98 _ (0, 0) _ (A5b.out.block (i := 5) rfl) Tryd.underlying98 rfl infoState ?_)
    refine HCS.out.mono ?_
    rintro e w5 ⟨kv5, vv5, cv5, rfl, hM5⟩
    obtain ⟨a5, b5, rfl⟩ := As.form0 (hM5.get (i := 0) rfl)
    obtain ⟨a6, b6, rfl⟩ := As.form0 (hM5.get (i := 1) rfl)
    obtain ⟨a7, b7, rfl⟩ := As.form0 (hM5.get (i := 2) rfl)
    have A7 := hideIt hM5
    clear hM5 A5 A5b HCS q0 q14 n0 n1 n2 n3 n4
    have r0 := A7.out.cell (i := 4) rfl 0 (.int .i64 0) rfl
    have f0 := A7.out.free (i := 4) rfl 0
    have r1 := A7.out.cell (i := 4) rfl 1 (.bool false) rfl
    have f1 := A7.out.free (i := 4) rfl 1
    have r2 := A7.out.cell (i := 4) rfl 2 (.int .i64 0) rfl
    have f2 := A7.out.free (i := 4) rfl 2
    have r3 := A7.out.cell (i := 4) rfl 3 (.int .i64 0) rfl
    have f3 := A7.out.free (i := 4) rfl 3
    have r4 := A7.out.cell (i := 4) rfl 4 (.slice none 0 0) rfl
    have f4 := A7.out.free (i := 4) rfl 4
    have r5 := A7.out.cell (i := 4) rfl 5 (.slice none 0 0) rfl
    have f5 := A7.out.free (i := 4) rfl 5
    have r6 := A7.out.cell (i := 4) rfl 6 (.slice none 0 0) rfl
    have f6 := A7.out.free (i := 4) rfl 6
    have S7 := hideIt (A7.out.store7 (i := 4) rfl (.int .i64 0) (.bool fd) (.int .i64 va) (.int .i64 pt) (.slice a5 ks.length b5) (.slice a6 vs.length b6) (.slice a7 cs.length b7))
    clear A7
    go_wp2
    refine bodyPost_ret (v := .tuple #[.string ⟨#[]⟩, .agg #[.int .i64 0, .bool fd, .int .i64 va, .int .i64 pt, .slice a5 ks.length b5, .slice a6 vs.length b6, .slice a7 cs.length b7], .bool true, .int .i64 0]) (by simp [results, Tryd.results90, go_sem, *]) rfl ?_
    rw [HO.out]
    exact ⟨_, _, _, rfl, S7.out.sub (.cons_cons _ (.cons_cons _ (.cons_cons _ (.cons _ (.cons _ (.cons _ (.cons _ (.cons _ (.cons _ (List.Sublist.refl _))))))))))⟩
end Go.Proofs.YtajobgmnmbnhiaaDoor.Sap

/- WHAT IS PROVED HERE: what tree.Tell answers to the text of a page that a frame wants to read: what tree.tellRead answers. Conditions: named at each theorem. -/
namespace Go.Proofs.YtajobgmnmbnhiaaDoor.Sap
open Go.RowKit

/-- What an operation comes to with an access: its next state, or its end. -/
def Res : Type := St ⊕ (Int × Bool × Int × Int × List Int × List Int × List (Int × Int))
def Res.on (s : St) : Res := Sum.inl s
def Res.fin (er : Int) (fd : Bool) (va pt : Int) (ks vs : List Int) (cs : List (Int × Int)) : Res := Sum.inr (er, fd, va, pt, ks, vs, cs)
theorem Res.is (o : Res) : (∃ s, o = .on s) ∨ ∃ er fd va pt ks vs cs, o = .fin er fd va pt ks vs cs := by
  rcases o with s | ⟨er, fd, va, pt, ks, vs, cs⟩
  · exact Or.inl ⟨s, rfl⟩
  · exact Or.inr ⟨er, fd, va, pt, ks, vs, cs, rfl⟩
def ResM (o : Res) (w0 : World) (B : Nat) (w' : World) (fr : List As) (e : Ending) : Prop :=
  match o with
  | .inl s' => OnR s' e ∧ M w0 B w' fr
  | .inr (er, fd, va, pt, ks, vs, cs) => ∃ kv' vv' cv', e = .returned (.tuple #[.string ⟨#[]⟩, .agg #[.int .i64 er, .bool fd, .int .i64 va, .int .i64 pt, kv', vv', cv'], .bool true, .int .i64 0]) ∧ M w0 B w' (.row 3 1 kv' ks.length (ints ks) :: .row 3 1 vv' vs.length (ints vs) :: .row 142 2 cv' cs.length (cutc cs) :: fr)

set_option maxRecDepth 100000 in
set_option maxHeartbeats 6400000 in
theorem tell_pass (s : St) (f t : ByteArray) (ver : Int) (o : Res) (w : World) (hf : f.data.toList = frT s) (hs : StOk s) (hsw : s.sw = ⟨#[]⟩)
    (hC : ∀ kv vv bv pv xv yv fr W, M w w.heap.size W (.row 3 1 kv s.keys.length (ints s.keys) :: .row 3 1 vv s.vals.length (ints s.vals) :: .row 3 1 bv s.bel.length (ints s.bel) :: .row 3 1 pv s.pts.length (ints s.pts) :: .row 3 1 xv s.sp.length (ints s.sp) :: .row 3 1 yv s.sv.length (ints s.sv) :: fr) → Calls Tryd.prog 90 #[.agg #[.int .i64 s.kd, .int .i64 s.key, .int .i64 s.val, .int .i64 s.step, .int .i64 s.pg, kv, vv, bv, pv, .string s.sw, .int .i64 s.ver, xv, yv, .int .i64 s.laid, .int .i64 s.lv, .int .i64 s.low, .int .i64 s.ch, .int .i64 s.pt], .agg #[.int .i64 ver, .int .i64 0, .string t, .bool false]] W fun e w' => ResM o w w.heap.size w' fr e) :
    Calls Tryd.prog 61 #[.string f, .agg #[.int .i64 ver, .int .i64 0, .string t, .bool false]] w fun e w' => ResM o w w.heap.size w' [] e := by
  have A0 := hideIt (((M.start w).alloc #[.int .i64 ver, .int .i64 0, .string t, .bool false] 73).alloc #[.int .i64 0, .bool false, .int .i64 0, .int .i64 0, .slice none 0 0, .slice none 0 0, .slice none 0 0] 76)
  rw [alloc_size] at A0
  have CR := hideIt (fun W => readFrame_yes s f W hf hs)
  have HC := hideIt hC
  have hsb : s.sw.toList.isEmpty = true := by rw [hsw, ByteArray.toList_eq]; rfl
  clear hf hs hC hsw
  go_enter Tryd.func61, Tryd.ntmps61
  go_wp2_with fail
  refine (CR.out _).mono ?_
  rintro e w1 ⟨⟨kv, vv, bv, pv, xv, yv, hO, rfl⟩, hb⟩
  have A1 := A0.out.join (hO.m hb)
  clear hO hb CR
  obtain ⟨ak, ck, rfl⟩ := As.form0 (A1.get (i := 0) rfl)
  obtain ⟨av, cv, rfl⟩ := As.form0 (A1.get (i := 1) rfl)
  obtain ⟨ab, cb, rfl⟩ := As.form0 (A1.get (i := 2) rfl)
  obtain ⟨ap, cp, rfl⟩ := As.form0 (A1.get (i := 3) rfl)
  obtain ⟨ax, cx, rfl⟩ := As.form0 (A1.get (i := 4) rfl)
  obtain ⟨ay, cy, rfl⟩ := As.form0 (A1.get (i := 5) rfl)
  have A2 := hideIt (A1.alloc #[.int .i64 s.kd, .int .i64 s.key, .int .i64 s.val, .int .i64 s.step, .int .i64 s.pg, .slice ak s.keys.length ck, .slice av s.vals.length cv, .slice ab s.bel.length cb, .slice ap s.pts.length cp, .string s.sw, .int .i64 s.ver, .slice ax s.sp.length cx, .slice ay s.sv.length cy, .int .i64 s.laid, .int .i64 s.lv, .int .i64 s.low, .int .i64 s.ch, .int .i64 s.pt] 98)
  clear A0 A1
  have q9 := A2.out.cell (i := 0) rfl 9 (.string s.sw) rfl
  have rt0 := A2.out.cell (i := 8) rfl 0 (.int .i64 ver) rfl
  have rt1 := A2.out.cell (i := 8) rfl 1 (.int .i64 0) rfl
  have rt2 := A2.out.cell (i := 8) rfl 2 (.string t) rfl
  have rt3 := A2.out.cell (i := 8) rfl 3 (.bool false) rfl
  have A3 := A2.out.mvAt (pre := []) (a := [_]) (b := [_, _, _, _, _, _])
  simp only [List.nil_append, List.cons_append] at A3
  have HCC := hideIt (HC.out _ _ _ _ _ _ _ _ A3)
  clear HC A3
  rcases o.is with ⟨s', rfl⟩ | ⟨er, fd, va, pt, ks, vs, cs, rfl⟩
  · go_wp2_with (refine wpList_load_row rfl 98 _ rfl _ rfl 98 _ (0, 0) _ (A2.out.block (i := 0) rfl) Tryd.underlying98 rfl infoState ?_)
    refine HCC.out.mono ?_
    rintro e w5 ⟨⟨c5, rfl, hc5⟩, hM5⟩
    have A7 := hideIt hM5
    have HC5 := hideIt hc5
    clear hc5 hM5 A2 HCC q9 rt0 rt1 rt2 rt3
    have r0 := A7.out.cell (i := 1) rfl 0 (.int .i64 0) rfl
    have f0 := A7.out.free (i := 1) rfl 0
    have r1 := A7.out.cell (i := 1) rfl 1 (.bool false) rfl
    have f1 := A7.out.free (i := 1) rfl 1
    have r2 := A7.out.cell (i := 1) rfl 2 (.int .i64 0) rfl
    have f2 := A7.out.free (i := 1) rfl 2
    have r3 := A7.out.cell (i := 1) rfl 3 (.int .i64 0) rfl
    have f3 := A7.out.free (i := 1) rfl 3
    have r4 := A7.out.cell (i := 1) rfl 4 (.slice none 0 0) rfl
    have f4 := A7.out.free (i := 1) rfl 4
    have r5 := A7.out.cell (i := 1) rfl 5 (.slice none 0 0) rfl
    have f5 := A7.out.free (i := 1) rfl 5
    have r6 := A7.out.cell (i := 1) rfl 6 (.slice none 0 0) rfl
    have f6 := A7.out.free (i := 1) rfl 6
    have S7 := hideIt (A7.out.store7 (i := 1) rfl (.int .i64 0) (.bool false) (.int .i64 0) (.int .i64 0) (.slice none 0 0) (.slice none 0 0) (.slice none 0 0))
    clear A7
    rw [show ans0 = #[.int .i64 0, .bool false, .int .i64 0, .int .i64 0, .slice none 0 0, .slice none 0 0, .slice none 0 0] from rfl]
    go_wp2
    refine bodyPost_ret (v := .tuple #[.string c5, .agg #[.int .i64 0, .bool false, .int .i64 0, .int .i64 0, .slice none 0 0, .slice none 0 0, .slice none 0 0], .bool false, .int .i64 0]) (by simp [results, Tryd.results61, go_sem, *]) rfl ?_
    exact ⟨⟨c5, rfl, HC5.out⟩, S7.out.sub (List.nil_sublist _)⟩
  · go_wp2_with (refine wpList_load_row rfl 98 _ rfl _ rfl 98 _ (0, 0) _ (A2.out.block (i := 0) rfl) Tryd.underlying98 rfl infoState ?_)
    refine HCC.out.mono ?_
    rintro e w5 ⟨kv5, vv5, cv5, rfl, hM5⟩
    obtain ⟨a5, b5, rfl⟩ := As.form0 (hM5.get (i := 0) rfl)
    obtain ⟨a6, b6, rfl⟩ := As.form0 (hM5.get (i := 1) rfl)
    obtain ⟨a7, b7, rfl⟩ := As.form0 (hM5.get (i := 2) rfl)
    have A7 := hideIt hM5
    clear hM5 A2 HCC q9 rt0 rt1 rt2 rt3
    have r0 := A7.out.cell (i := 4) rfl 0 (.int .i64 0) rfl
    have f0 := A7.out.free (i := 4) rfl 0
    have r1 := A7.out.cell (i := 4) rfl 1 (.bool false) rfl
    have f1 := A7.out.free (i := 4) rfl 1
    have r2 := A7.out.cell (i := 4) rfl 2 (.int .i64 0) rfl
    have f2 := A7.out.free (i := 4) rfl 2
    have r3 := A7.out.cell (i := 4) rfl 3 (.int .i64 0) rfl
    have f3 := A7.out.free (i := 4) rfl 3
    have r4 := A7.out.cell (i := 4) rfl 4 (.slice none 0 0) rfl
    have f4 := A7.out.free (i := 4) rfl 4
    have r5 := A7.out.cell (i := 4) rfl 5 (.slice none 0 0) rfl
    have f5 := A7.out.free (i := 4) rfl 5
    have r6 := A7.out.cell (i := 4) rfl 6 (.slice none 0 0) rfl
    have f6 := A7.out.free (i := 4) rfl 6
    have S7 := hideIt (A7.out.store7 (i := 4) rfl (.int .i64 er) (.bool fd) (.int .i64 va) (.int .i64 pt) (.slice a5 ks.length b5) (.slice a6 vs.length b6) (.slice a7 cs.length b7))
    clear A7
    go_wp2
    refine bodyPost_ret (v := .tuple #[.string ⟨#[]⟩, .agg #[.int .i64 er, .bool fd, .int .i64 va, .int .i64 pt, .slice a5 ks.length b5, .slice a6 vs.length b6, .slice a7 cs.length b7], .bool true, .int .i64 0]) (by simp [results, Tryd.results61, go_sem, *]) rfl ?_
    exact ⟨_, _, _, rfl, S7.out.sub (.cons_cons _ (.cons_cons _ (.cons_cons _ (List.nil_sublist _))))⟩

/-- A way that leads on. -/
theorem tell_on (s : St) (n : Nd) (f t : ByteArray) (ver : Int) (w : World) (htab : Tab w) (hf : f.data.toList = frT s) (hs : StOk s) (hu : Unp t.data.toList n) (hsw : s.sw = ⟨#[]⟩) (hgo : rdGo s n) (hst1 : s.step ≤ 1000000000) (hnx : 0 ≤ onwV n (wantV s)) (hI : StI { s with pg := onwV n (wantV s), step := s.step + 1 }) :
    Calls Tryd.prog 61 #[.string f, .agg #[.int .i64 ver, .int .i64 0, .string t, .bool false]] w fun e w' => ResM (.on { s with pg := onwV n (wantV s), step := s.step + 1 }) w w.heap.size w' [] e :=
  tell_pass s f t ver _ w hf hs hsw fun kv vv bv pv xv yv fr W hM => tellRead_on s n kv vv bv pv xv yv t ver fr w W _ htab rfl hs hu hgo hst1 hnx hI hM
theorem tell_get (s : St) (n : Nd) (f t : ByteArray) (ver : Int) (w : World) (htab : Tab w) (hf : f.data.toList = frT s) (hs : StOk s) (hu : Unp t.data.toList n) (hsw : s.sw = ⟨#[]⟩) (hgo : ¬ rdGo s n) (hk1 : s.kd = 1) :
    Calls Tryd.prog 61 #[.string f, .agg #[.int .i64 ver, .int .i64 0, .string t, .bool false]] w fun e w' => ResM (.fin 0 (fndB n.ks s.key n.ks.length) (fndV n.ks n.vs s.key n.ks.length) s.step [] [] []) w w.heap.size w' [] e :=
  tell_pass s f t ver _ w hf hs hsw fun kv vv bv pv xv yv fr W hM => (tellRead_get s n kv vv bv pv xv yv t ver fr w W _ htab rfl hs hu hgo hk1 hM).mono fun _ _ ⟨he, hM'⟩ => ⟨_, _, _, he, M.consNil (M.consNil (M.consNil hM'))⟩
def Out.res : Out → Res
  | .inl s => .inl s
  | .inr r => .inr (0, r)
theorem ScR.res {o : Out} {w0 w' : World} {B : Nat} {fr : List As} {e : Ending} (h : ScR o w0 B w' fr e) : ResM o.res w0 B w' fr e := by
  cases o with
  | inl s' => exact h
  | inr r => exact h
theorem tell_scan (s : St) (n : Nd) (f t : ByteArray) (ver : Int) (w : World) (htab : Tab w) (hf : f.data.toList = frT s) (hs : StOk s) (hu : Unp t.data.toList n) (hsw : s.sw = ⟨#[]⟩) (hgo : ¬ rdGo s n) (hk4 : s.kd = 4) (hst1 : s.step ≤ 1000000000) (hb63 : s.bel.length ≤ 63) (hsk : ∀ x ∈ s.keys, 0 ≤ x ∧ x ≤ 10000) (hlk : scEnd s n = false → 0 ≤ n.lk ∧ StI { scS s n with pg := n.lk, step := s.step + 1 }) :
    Calls Tryd.prog 61 #[.string f, .agg #[.int .i64 ver, .int .i64 0, .string t, .bool false]] w fun e w' => ResM (scO s n).res w w.heap.size w' [] e :=
  tell_pass s f t ver _ w hf hs hsw fun kv vv bv pv xv yv fr W hM => (tellRead_scan s n kv vv bv pv xv yv t ver fr w W _ htab rfl hs hu hgo hk4 hst1 hb63 hsk hlk hM).mono fun _ _ h => h.res
theorem ResM.tell {o : Out} {w w' : World} {e : Ending} (h : ResM o.res w w.heap.size w' [] e) : TellR o w w' e := by
  cases o with
  | inl s' => obtain ⟨⟨c, rfl, hc⟩, hM⟩ := h; exact ⟨c, rfl, hc, hM.bl⟩
  | inr r => exact h
/-- A Get or a Scan is told the text of a page. -/
theorem tell_any (s : St) (n : Nd) (f t : ByteArray) (ver : Int) (w : World) (htab : Tab w) (hf : f.data.toList = frT s) (hs : StOk s) (hu : Unp t.data.toList n) (hok : TellOk s n) (hsw : s.sw = ⟨#[]⟩) (hk14 : s.kd = 1 ∨ s.kd = 4) :
    Calls Tryd.prog 61 #[.string f, .agg #[.int .i64 ver, .int .i64 0, .string t, .bool false]] w fun e w' => TellR (tlO s n) w w' e := by
  have hlv : s.lv = 0 := by rcases hs.ent with h | h; exact h.1; exact absurd h.2.2.1 (by omega)
  have hn0 := (right_bd n hu.1).1
  by_cases hgo : n.lv ≠ 0 ∨ n.hi ≤ wantV s
  · have ho : tlO s n = .on { s with pg := onwV n (wantV s), step := s.step + 1 } := by unfold tlO; rw [if_pos hgo]
    have h9 := hok.on _ ho
    rw [ho]
    exact (tell_on s n f t ver w htab hf hs hu hsw (by rcases hgo with h | h; exact Or.inl (by omega); exact Or.inr h) (by have := hok.step; omega) h9.1 h9.2).mono fun _ _ h => ResM.tell (o := .on _) h
  · have hng : ¬ rdGo s n := fun h => hgo (by rcases h with h | h; exact Or.inl (by omega); exact Or.inr h)
    rcases hk14 with hk | hk
    · have ho : tlO s n = .fin (fndB n.ks s.key n.ks.length) (fndV n.ks n.vs s.key n.ks.length) s.step [] [] [] := by unfold tlO; rw [if_neg hgo, if_neg (by omega)]
      rw [ho]
      exact (tell_get s n f t ver w htab hf hs hu hsw hng hk).mono fun _ _ h => ResM.tell (o := .fin _ _ _ _ _ _) h
    · have ho : tlO s n = scO s n := by unfold tlO; rw [if_neg hgo, if_pos hk]
      rw [ho]
      exact (tell_scan s n f t ver w htab hf hs hu hsw hng hk hok.step hok.bel hok.keys fun he => hok.on _ (ho.trans (by unfold scO; rw [he]; rfl))).mono fun _ _ h => h.tell
end Go.Proofs.YtajobgmnmbnhiaaDoor.Sap
