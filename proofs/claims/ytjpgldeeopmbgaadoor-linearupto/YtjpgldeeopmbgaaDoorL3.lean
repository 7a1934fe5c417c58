/- WHAT IS PROVED HERE: what tree's addKeys takes over of a leaf. Conditions: named at the theorem. -/
import Derived.Test.YtjpgldeeopmbgaaDoorL2
import Derived.Test.YtjpgldeeopmbgaaDoorS2
namespace Go.Proofs.YtjpgldeeopmbgaaDoor.Sap
open Go.RowKit

/-- What a Scan has of keys and values behind a leaf's first k entries. -/
def adK (ks : List Int) (l v : Int) (K : List Int) : Nat → List Int
  | 0 => K
  | k + 1 => if l ≤ ks[k]?.getD 0 ∧ ks[k]?.getD 0 ≤ v ∧ (adK ks l v K k).length < 12 then adK ks l v K k ++ [ks[k]?.getD 0] else adK ks l v K k
def adV (ks vs : List Int) (l v : Int) (K V : List Int) : Nat → List Int
  | 0 => V
  | k + 1 => if l ≤ ks[k]?.getD 0 ∧ ks[k]?.getD 0 ≤ v ∧ (adK ks l v K k).length < 12 then adV ks vs l v K V k ++ [vs[k]?.getD 0] else adV ks vs l v K V k

theorem M.bne2 {w0 w : World} {B i j b g : Nat} {l : List As} {c d : Array Value} {t u : TypeId} (h : M w0 B w l) (hi : l[i]? = some (.blk b c t)) (hj : l[j]? = some (.blk g d u)) (hij : i < j) : b ≠ g := by
  intro e
  subst e
  have hil : i < l.length := (List.getElem?_eq_some_iff.1 hi).1
  have hjl : j < l.length := (List.getElem?_eq_some_iff.1 hj).1
  have hia := (List.getElem?_eq_some_iff.1 hi).2
  have hja := (List.getElem?_eq_some_iff.1 hj).2
  have := List.pairwise_iff_getElem.1 h.apart i j hil hjl hij
  rw [hia, hja] at this
  exact this b rfl rfl
/-- A block and a row that are both there are not one. -/
theorem M.neMem {w0 w : World} {B i b g : Nat} {l : List As} {c : Array Value} {t e : TypeId} {z n m cap off : Nat} {xs : List Value} (h : M w0 B w l) (hi : l[i]? = some (.blk b c t)) (hj : .row e z (.slice (some ⟨g, off, none⟩) m cap) n xs ∈ l) : b ≠ g := by
  intro e
  subst e
  obtain ⟨j, hj⟩ := List.mem_iff_getElem?.1 hj
  have hil : i < l.length := (List.getElem?_eq_some_iff.1 hi).1
  have hjl : j < l.length := (List.getElem?_eq_some_iff.1 hj).1
  have hia := (List.getElem?_eq_some_iff.1 hi).2
  have hja := (List.getElem?_eq_some_iff.1 hj).2
  have hp := List.pairwise_iff_getElem.1 h.apart
  rcases Nat.lt_trichotomy i j with hlt | rfl | hlt
  · have := hp i j hil hjl hlt; rw [hia, hja] at this; exact this b rfl rfl
  · rw [hi] at hj; cases hj
  · have := hp j i hjl hil hlt; rw [hia, hja] at this; exact this b rfl rfl
set_option maxRecDepth 100000 in
set_option maxHeartbeats 6400000 in
theorem addKeys_any (gs : Nat) (s : St) (n : Nd) (kv vv bv pv ka va : Value) (fr : List As) (w0 w : World) (B : Nat) (hI : StI s) (hkl : s.keys.length = s.vals.length)
    (h : M w0 B w (.blk gs #[.int .i64 s.kd, .int .i64 s.key, .int .i64 s.val, .int .i64 s.step, .int .i64 s.pg, kv, vv, bv, pv, .string s.sw, .int .i64 s.ver, .bool s.fnd, .int .i64 s.va] 104 :: .row 3 1 kv s.keys.length (ints s.keys) :: .row 3 1 vv s.keys.length (ints s.vals) :: fr))
    (hb : .row 3 1 bv s.bel.length (ints s.bel) ∈ fr) (hp : .row 3 1 pv s.pts.length (ints s.pts) ∈ fr) (hka : .row 3 1 ka n.ks.length (ints n.ks) ∈ fr) (hva : .row 3 1 va n.vs.length (ints n.vs) ∈ fr) (hn : n.ks.length = n.vs.length) (h6 : n.ks.length ≤ 6) :
    Calls Tryd.prog 107 #[.pointer (some ⟨gs, 0, none⟩), .agg #[.int .i64 n.lv, .int .i64 n.lk, .int .i64 n.hi, ka, va]] w fun e w' => (∃ u, e = .returned u) ∧ ∃ kv' vv' l, (adK n.ks (wantV s) s.val s.keys n.ks.length).length = l ∧ (adV n.ks n.vs (wantV s) s.val s.keys s.vals n.ks.length).length = l ∧
      M w0 B w' (.blk gs #[.int .i64 s.kd, .int .i64 s.key, .int .i64 s.val, .int .i64 s.step, .int .i64 s.pg, kv', vv', bv, pv, .string s.sw, .int .i64 s.ver, .bool s.fnd, .int .i64 s.va] 104 :: .row 3 1 kv' l (ints (adK n.ks (wantV s) s.val s.keys n.ks.length)) :: .row 3 1 vv' l (ints (adV n.ks n.vs (wantV s) s.val s.keys s.vals n.ks.length)) :: fr) := by
  obtain ⟨i0, hi0, hz0, hz1, hz2⟩ := info_parts infoInt
  obtain ⟨ab, cb, rfl⟩ := As.form0 (h.holds _ (show As.row 3 1 bv s.bel.length (ints s.bel) ∈ _ by simp [hb]))
  obtain ⟨ap, cp, rfl⟩ := As.form0 (h.holds _ (show As.row 3 1 pv s.pts.length (ints s.pts) ∈ _ by simp [hp]))
  obtain ⟨na, nc, rfl⟩ := As.form0 (h.holds _ (show As.row 3 1 ka n.ks.length (ints n.ks) ∈ _ by simp [hka]))
  obtain ⟨nva, nvc, rfl⟩ := As.form0 (h.holds _ (show As.row 3 1 va n.vs.length (ints n.vs) ∈ _ by simp [hva]))
  obtain ⟨ak, ck, rfl⟩ := As.form0 (h.get (i := 1) rfl)
  obtain ⟨av, cv, rfl⟩ := As.form0 (h.get (i := 2) rfl)
  obtain ⟨m, hm⟩ : ∃ m, n.ks.length = m := ⟨_, rfl⟩
  have HRD : Hid (∀ W, M w0 B W fr → Rd W (.slice na m nc) n.ks ∧ Rd W (.slice nva m nvc) n.vs) := by
    intro W hW
    have h1 : As.holds W B (.row 3 1 (.slice na n.ks.length nc) n.ks.length (ints n.ks)) := hW.holds _ hka
    have h2 : As.holds W B (.row 3 1 (.slice nva n.vs.length nvc) n.vs.length (ints n.vs)) := hW.holds _ hva
    have r1 := owns_rd h1
    have r2 := owns_rd h2
    rw [← hn] at r2
    rw [hm] at r1 r2
    exact ⟨r1, r2⟩
  have CW : Hid (∀ W l, M w0 B W (l ++ (.blk gs #[.int .i64 s.kd, .int .i64 s.key, .int .i64 s.val, .int .i64 s.step, .int .i64 s.pg, .slice ak s.keys.length ck, .slice av s.keys.length cv, .slice ab s.bel.length cb, .slice ap s.pts.length cp, .string s.sw, .int .i64 s.ver, .bool s.fnd, .int .i64 s.va] 104 :: .row 3 1 (.slice ak s.keys.length ck) s.keys.length (ints s.keys) :: .row 3 1 (.slice av s.keys.length cv) s.keys.length (ints s.vals) :: fr)) → StV W s (.slice ak s.keys.length ck) (.slice av s.keys.length cv) (.slice ab s.bel.length cb) (.slice ap s.pts.length cp)) := by
    intro W l hW
    have h1 : As.holds W B (.row 3 1 (.slice ak s.keys.length ck) s.keys.length (ints s.keys)) := hW.holds _ (by simp)
    have h2 : As.holds W B (.row 3 1 (.slice av s.keys.length cv) s.keys.length (ints s.vals)) := hW.holds _ (by simp)
    have h3 : As.holds W B (.row 3 1 (.slice ab s.bel.length cb) s.bel.length (ints s.bel)) := hW.holds _ (by simp [hb])
    have h4 : As.holds W B (.row 3 1 (.slice ap s.pts.length cp) s.pts.length (ints s.pts)) := hW.holds _ (by simp [hp])
    refine ⟨owns_rd h1, ?_, owns_rd h3, owns_rd h4⟩
    rw [hkl] at h2 ⊢
    exact owns_rd h2
  have A0 := hideIt (h.alloc #[.int .i64 n.lv, .int .i64 n.lk, .int .i64 n.hi, .slice na n.ks.length nc, .slice nva n.vs.length nvc] 24)
  have HI := hideIt hI
  have hkL := hI.keysL
  have HKL := hideIt hkl
  rw [← hn] at A0 ⊢
  rw [hm] at h6 A0 ⊢
  have c0 := h.cell (i := 0) rfl 0 (.int .i64 s.kd) rfl
  have c1 := h.cell (i := 0) rfl 1 (.int .i64 s.key) rfl
  have c2 := h.cell (i := 0) rfl 2 (.int .i64 s.val) rfl
  have c3 := h.cell (i := 0) rfl 3 (.int .i64 s.step) rfl
  have c4 := h.cell (i := 0) rfl 4 (.int .i64 s.pg) rfl
  have c5 := h.cell (i := 0) rfl 5 (.slice ak s.keys.length ck) rfl
  have c6 := h.cell (i := 0) rfl 6 (.slice av s.keys.length cv) rfl
  have c7 := h.cell (i := 0) rfl 7 (.slice ab s.bel.length cb) rfl
  have c8 := h.cell (i := 0) rfl 8 (.slice ap s.pts.length cp) rfl
  have c9 := h.cell (i := 0) rfl 9 (.string s.sw) rfl
  have c10 := h.cell (i := 0) rfl 10 (.int .i64 s.ver) rfl
  have c11 := h.cell (i := 0) rfl 11 (.bool s.fnd) rfl
  have c12 := h.cell (i := 0) rfl 12 (.int .i64 s.va) rfl
  have hlt := h.lt (i := 0) rfl
  obtain ⟨L, hL⟩ : ∃ L, wantV s = L := ⟨_, rfl⟩
  have HL := hideIt hL
  rw [hL]
  have HVA := hideIt hva
  clear h hb hp hka hva hn hm hI hkl hL
  go_enter Tryd.func107, Tryd.ntmps107
  go_wp2_with fail
  refine (wanted_any s _ _ _ _ _ (CW.out _ [_] A0.out) HI.out).mono ?_
  rintro e w1 ⟨rfl, hb⟩
  rw [HL.out]
  have A1 := hideIt (A0.out.below hb)
  obtain ⟨gn, hgn⟩ : ∃ g, w.heap.size = g := ⟨_, rfl⟩
  rw [hgn] at A1 ⊢
  clear hb A0 c0 c1 c2 c3 c4 c5 c6 c7 c8 c9 c10 c11 c12 hlt hgn CW
  go_wp2
  go_loopw [5] (fun i wr => ∃ k l : Nat, ∃ kv vv : Value, k ≤ m ∧ i = .int .i64 k ∧ l ≤ s.keys.length + k ∧ Hid ((adK n.ks L s.val s.keys k).length = l ∧ (adV n.ks n.vs L s.val s.keys s.vals k).length = l) ∧ Hid (M w0 B wr (.blk gn #[.int .i64 n.lv, .int .i64 n.lk, .int .i64 n.hi, .slice na m nc, .slice nva m nvc] 24 :: .blk gs #[.int .i64 s.kd, .int .i64 s.key, .int .i64 s.val, .int .i64 s.step, .int .i64 s.pg, kv, vv, .slice ab s.bel.length cb, .slice ap s.pts.length cp, .string s.sw, .int .i64 s.ver, .bool s.fnd, .int .i64 s.va] 104 :: .row 3 1 kv l (ints (adK n.ks L s.val s.keys k)) :: .row 3 1 vv l (ints (adV n.ks n.vs L s.val s.keys s.vals k)) :: fr))) (fun i _ => m - (intOf i).toNat)
  case atStart => exact ⟨0, s.keys.length, _, _, Nat.zero_le _, rfl, Nat.le_refl _, ⟨rfl, HKL.out.symm⟩, A1.out⟩
  case round =>
    clear A1
    obtain ⟨k, l, kv, vv, hk, rfl, hl, hI, hM⟩ := hrel
    obtain ⟨ka2, kc2, rfl⟩ := As.form0 (hM.out.get (i := 2) rfl)
    obtain ⟨va2, vc2, rfl⟩ := As.form0 (hM.out.get (i := 3) rfl)
    have n3 := hM.out.cell (i := 0) rfl 3 (.slice na m nc) rfl
    have n4 := hM.out.cell (i := 0) rfl 4 (.slice nva m nvc) rfl
    have s2 := hM.out.cell (i := 1) rfl 2 (.int .i64 s.val) rfl
    have s5 := hM.out.cell (i := 1) rfl 5 (.slice ka2 l kc2) rfl
    have s6 := hM.out.cell (i := 1) rfl 6 (.slice va2 l vc2) rfl
    have f5 := hM.out.free (i := 1) rfl 5
    have f6 := hM.out.free (i := 1) rfl 6
    have hlg := hM.out.lt (i := 1) rfl
    have hln := hM.out.lt (i := 0) rfl
    by_cases hlt : k < m
    · obtain ⟨rk, rv⟩ := HRD.out _ ((((hM.out.sub (List.sublist_cons_self _ _)).sub (List.sublist_cons_self _ _)).sub (List.sublist_cons_self _ _)).sub (List.sublist_cons_self _ _))
      obtain ⟨b1, o1, rfl, -, x1⟩ := rk.elem k hlt
      obtain ⟨b2, o2, rfl, -, x2⟩ := rv.elem k hlt
      have y1 := x1 _ (Below.refl _ _)
      have y2 := x2 _ (Below.refl _ _)
      have hb2 := rv.blk_lt k hlt
      have HC : Hid (adK n.ks L s.val s.keys (k + 1) = (if L ≤ n.ks[k]?.getD 0 ∧ n.ks[k]?.getD 0 ≤ s.val ∧ (adK n.ks L s.val s.keys k).length < 12 then adK n.ks L s.val s.keys k ++ [n.ks[k]?.getD 0] else adK n.ks L s.val s.keys k) ∧ adV n.ks n.vs L s.val s.keys s.vals (k + 1) = (if L ≤ n.ks[k]?.getD 0 ∧ n.ks[k]?.getD 0 ≤ s.val ∧ (adK n.ks L s.val s.keys k).length < 12 then adV n.ks n.vs L s.val s.keys s.vals k ++ [n.vs[k]?.getD 0] else adV n.ks n.vs L s.val s.keys s.vals k)) := ⟨rfl, rfl⟩
      obtain ⟨a, ha⟩ : ∃ y, n.ks[k]?.getD 0 = y := ⟨_, rfl⟩
      obtain ⟨b, hb⟩ : ∃ y, n.vs[k]?.getD 0 = y := ⟨_, rfl⟩
      rw [ha] at y1 HC
      rw [hb] at y2 HC
      have HBV := hideIt hb
      have hb2s : b2 ≠ gs := fun e => hM.out.neMem (i := 1) rfl (show As.row 3 1 (.slice (some ⟨b2, o2, none⟩) n.vs.length nvc) n.vs.length (ints n.vs) ∈ _ by simp [HVA.out]) e.symm
      have hgns : gn ≠ gs := hM.out.bne2 (i := 0) (j := 1) rfl rfl (by omega)
      rw [hI.out.1] at HC
      have hkk : (0 : Int) ≤ (k : Int) := by omega
      have hkl : (k : Int) < (m : Int) := by omega
      clear x1 x2 ha hb rk rv
      go_upto_region 6 with fail
      go_cut [49] from 11 to 73 (fun u wx => u = .bool (decide (L ≤ a ∧ a ≤ s.val ∧ l < 12)) ∧ wx = wr)
      case first =>
        go_wp2
        all_goals
          go_meet
          case rel => exact ⟨by congr 1; rw [Bool.eq_iff_iff]; simp only [decide_eq_true_eq, Bool.false_eq_true, false_iff]; omega, rfl⟩
      case rest =>
        obtain ⟨rfl, rfl⟩ := hcut
        by_cases hd : L ≤ a ∧ a ≤ s.val ∧ l < 12
        · rw [if_pos hd, if_pos hd] at HC
          have hde : decide (L ≤ a ∧ a ≤ s.val ∧ l < 12) = true := decide_eq_true hd
          rw [hde]
          clear hd hde
          go_upto_region 8 with (at_builtin; refine wpList_append_lies _ rfl _ _ 22 rfl B 3 i0 (.int .i64 0) 1 8 Tryd.underlying22 hi0 hz0 hz1 hz2 rfl (by decide) _ l (ints (adK n.ks L s.val s.keys k)) rfl (World.ownsRow.alloc (hM.out.get (i := 2) rfl) _) ⟨_, 0, none⟩ 1 1 [.int .i64 a] rfl rfl (news_one _ _ _) (by simp [Value.oneCell']) (by omega) (by unfold maxLen; omega) (by omega) (by have := hM.out.sz; simp at this ⊢; omega) _ rfl ?_; intro g1 cap1 w5 hown hgrow hat hlt1; rw [← ints_snoc, ← HC.out.1] at hown; have hm := (hM.out.allocd _).lies (i := 2) rfl hown hgrow hat; clear s5 f5 s6 f6 n3 n4 s2 y1 y2 hlg hln hown hgrow hat; have s5 := hm.cell (i := 1) rfl 5 (.slice ka2 l kc2) rfl; have f5 := hm.free (i := 1) rfl 5; have s6 := hm.cell (i := 1) rfl 6 (.slice va2 l vc2) rfl; have f6 := hm.free (i := 1) rfl 6; have n4 := hm.cell (i := 0) rfl 4 (.slice (some ⟨b2, o2, none⟩) m nvc) rfl; have hlg := hm.lt (i := 1) rfl; have hln := hm.lt (i := 0) rfl; obtain ⟨-, rv5⟩ := HRD.out _ ((((hm.sub (List.sublist_cons_self _ _)).sub (List.sublist_cons_self _ _)).sub (List.sublist_cons_self _ _)).sub (List.sublist_cons_self _ _)); obtain ⟨b3, o3, e3, -, x3⟩ := rv5.elem k hlt; cases e3; have y2 := x3 _ (Below.refl _ _); rw [HBV.out] at y2; have hb25 := rv5.blk_lt k hlt; clear rv5 x3; have H1 := hideIt (hm.store (i := 1) (j := 5) rfl (.slice (some ⟨g1, 0, none⟩) (l + 1) cap1) rfl); clear hm)
          go_region_law (refine step_append_lies _ rfl _ _ 22 rfl B 3 i0 (.int .i64 0) 1 8 Tryd.underlying22 hi0 hz0 hz1 hz2 rfl (by decide) _ l (ints (adV n.ks n.vs L s.val s.keys s.vals k)) rfl (World.ownsRow.alloc (H1.out.get (i := 3) rfl) _) ⟨_, 0, none⟩ 1 1 [.int .i64 b] rfl rfl (by have := news_one (w5.setCell ⟨gs, 5, none⟩ (.slice (some ⟨g1, 0, none⟩) (l + 1) cap1)) (.int .i64 b) 3; simpa using this) (by simp [Value.oneCell']) (by omega) (by unfold maxLen; omega) (by omega) (by have := H1.out.sz; simp at this ⊢; omega) _ rfl ?_; intro g2 cap2 w6 hown hgrow hat hlt2; rw [← ints_snoc, ← HC.out.2] at hown; have hm := (H1.out.allocd _).drew.lies (i := 3) rfl hown hgrow hat; clear s5 f5 s6 f6 n4 y2 hlg hln hb25 hown hgrow hat; have s6 := hm.cell (i := 1) rfl 6 (.slice va2 l vc2) rfl; have f6 := hm.free (i := 1) rfl 6; have H2 := hideIt (hm.store (i := 1) (j := 6) rfl (.slice (some ⟨g2, 0, none⟩) (l + 1) cap2) rfl); clear hm)
          all_goals
            go_wp2
            go_roundw
            case rel => exact ⟨k + 1, l + 1, _, _, by omega, by go_num, by omega, by unfold Hid; rw [HC.out.1, HC.out.2, List.length_append, List.length_append, hI.out.1, hI.out.2]; exact ⟨rfl, rfl⟩, H2.out⟩
            case measure => simp [intOf]; omega
        · rw [if_neg hd, if_neg hd] at HC
          have hde : decide (L ≤ a ∧ a ≤ s.val ∧ l < 12) = false := decide_eq_false hd
          rw [hde]
          clear hd hde
          go_wp2
          go_roundw
          case rel => exact ⟨k + 1, l, _, _, by omega, by go_num, by omega, by unfold Hid; rw [HC.out.1, HC.out.2]; exact hI.out, by unfold Hid; rw [HC.out.1, HC.out.2]; exact hM.out⟩
          case measure => simp [intOf]; omega
    · obtain rfl : k = m := by omega
      go_wp2
      exact bodyPost_end (results_none Tryd.results107 _ _ _) rfl ⟨⟨_, rfl⟩, _, _, l, hI.out.1, hI.out.2, hM.out.sub (List.sublist_cons_self _ _)⟩
end Go.Proofs.YtjpgldeeopmbgaaDoor.Sap
