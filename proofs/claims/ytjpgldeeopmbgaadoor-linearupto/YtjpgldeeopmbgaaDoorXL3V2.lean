/- WHAT IS PROVED HERE: what tree's addKeys takes over of a leaf. Conditions: named at the theorem. -/
import Derived.Test.YtjpgldeeopmbgaaDoorXT8L2
import Derived.Test.YtjpgldeeopmbgaaDoorXS2B3
import Derived.Test.YtjpgldeeopmbgaaDoorXA5K1
namespace Go.Proofs.YtjpgldeeopmbgaaDoor.Sap
open Go.RowKit

/-- What a Scan has of keys and values behind a leaf's first k entries. -/
def adK (ks : List Int) (l v : Int) (K : List Int) : Nat → List Int
  | 0 => K
  | k + 1 => if l ≤ ks[k]?.getD 0 ∧ ks[k]?.getD 0 ≤ v ∧ (adK ks l v K k).length < 12 then adK ks l v K k ++ [ks[k]?.getD 0] else adK ks l v K k
def adV (ks vs : List Int) (l v : Int) (K V : List Int) : Nat → List Int
  | 0 => V
  | k + 1 => if l ≤ ks[k]?.getD 0 ∧ ks[k]?.getD 0 ≤ v ∧ (adK ks l v K k).length < 12 then adV ks vs l v K V k ++ [vs[k]?.getD 0] else adV ks vs l v K V k

theorem M.bne2 {w0 w : World} {B i j b g : Nat} {l : List As} {c d : Array Value} {t u : TypeId} (h : M w0 B w l) (hi : l[i]? = some (.blk b c t)) (hj : l[j]? = some (.blk g d u)) (hij : i < j) : b ≠ g := by
  intro e
  subst e
  have hil : i < l.length := (List.getElem?_eq_some_iff.1 hi).1
  have hjl : j < l.length := (List.getElem?_eq_some_iff.1 hj).1
  have hia := (List.getElem?_eq_some_iff.1 hi).2
  have hja := (List.getElem?_eq_some_iff.1 hj).2
  have := List.pairwise_iff_getElem.1 h.apart i j hil hjl hij
  rw [hia, hja] at this
  exact this b rfl rfl
/-- A block and a row that are both there are not one. -/
theorem M.neMem {w0 w : World} {B i b g : Nat} {l : List As} {c : Array Value} {t e : TypeId} {z n m cap off : Nat} {xs : List Value} (h : M w0 B w l) (hi : l[i]? = some (.blk b c t)) (hj : .row e z (.slice (some ⟨g, off, none⟩) m cap) n xs ∈ l) : b ≠ g := by
  intro e
  subst e
  obtain ⟨j, hj⟩ := List.mem_iff_getElem?.1 hj
  have hil : i < l.length := (List.getElem?_eq_some_iff.1 hi).1
  have hjl : j < l.length := (List.getElem?_eq_some_iff.1 hj).1
  have hia := (List.getElem?_eq_some_iff.1 hi).2
  have hja := (List.getElem?_eq_some_iff.1 hj).2
  have hp := List.pairwise_iff_getElem.1 h.apart
  rcases Nat.lt_trichotomy i j with hlt | rfl | hlt
  · have := hp i j hil hjl hlt; rw [hia, hja] at this; exact this b rfl rfl
  · rw [hi] at hj; cases hj
  · have := hp j i hjl hil hlt; rw [hia, hja] at this; exact this b rfl rfl
set_option maxRecDepth 100000 in
set_option maxHeartbeats 6400000 in
theorem addKeys_any (gs : Nat) (s : St) (n : Nd) (kv vv bv pv ka va : Value) (fr : List As) (w0 w : World) (B : Nat) (hI : StI s) (hkl : s.keys.length = s.vals.length)
    (h : M w0 B w (.blk gs #[.int .i64 s.kd, .int .i64 s.key, .int .i64 s.val, .int .i64 s.step, .int .i64 s.pg, kv, vv, bv, pv, .string s.sw, .int .i64 s.ver, .bool s.fnd, .int .i64 s.va] 104 :: .row 3 1 kv s.keys.length (ints s.keys) :: .row 3 1 vv s.keys.length (ints s.vals) :: fr))
    (hb : .row 3 1 bv s.bel.length (ints s.bel) ∈ fr) (hp : .row 3 1 pv s.pts.length (ints s.pts) ∈ fr) (hka : .row 3 1 ka n.ks.length (ints n.ks) ∈ fr) (hva : .row 3 1 va n.vs.length (ints n.vs) ∈ fr) (hn : n.ks.length = n.vs.length) (h6 : n.ks.length ≤ 6) :
    Calls Tryd.prog 107 #[.pointer (some ⟨gs, 0, none⟩), .agg #[.int .i64 n.lv, .int .i64 n.lk, .int .i64 n.hi, ka, va]] w fun e w' => (∃ u, e = .returned u) ∧ ∃ kv' vv' l, (adK n.ks (wantV s) s.val s.keys n.ks.length).length = l ∧ (adV n.ks n.vs (wantV s) s.val s.keys s.vals n.ks.length).length = l ∧
      M w0 B w' (.blk gs #[.int .i64 s.kd, .int .i64 s.key, .int .i64 s.val, .int .i64 s.step, .int .i64 s.pg, kv', vv', bv, pv, .string s.sw, .int .i64 s.ver, .bool s.fnd, .int .i64 s.va] 104 :: .row 3 1 kv' l (ints (adK n.ks (wantV s) s.val s.keys n.ks.length)) :: .row 3 1 vv' l (ints (adV n.ks n.vs (wantV s) s.val s.keys s.vals n.ks.length)) :: fr) := by
  obtain ⟨i0, hi0, hz0, hz1, hz2⟩ := info_parts infoInt
  obtain ⟨ab, cb, rfl⟩ := As.form0 (h.holds _ (show As.row 3 1 bv s.bel.length (ints s.bel) ∈ _ by simp [hb]))
  obtain ⟨ap, cp, rfl⟩ := As.form0 (h.holds _ (show As.row 3 1 pv s.pts.length (ints s.pts) ∈ _ by simp [hp]))
  obtain ⟨na, nc, rfl⟩ := As.form0 (h.holds _ (show As.row 3 1 ka n.ks.length (ints n.ks) ∈ _ by simp [hka]))
  obtain ⟨nva, nvc, rfl⟩ := As.form0 (h.holds _ (show As.row 3 1 va n.vs.length (ints n.vs) ∈ _ by simp [hva]))
  obtain ⟨ak, ck, rfl⟩ := As.form0 (h.get (i := 1) rfl)
  obtain ⟨av, cv, rfl⟩ := As.form0 (h.get (i := 2) rfl)
  obtain ⟨m, hm⟩ : ∃ m, n.ks.length = m := ⟨_, rfl⟩
  have HRD : Hid (∀ W, M w0 B W fr → Rd W (.slice na m nc) n.ks ∧ Rd W (.slice nva m nvc) n.vs) := by
    intro W hW
    have h1 : As.holds W B (.row 3 1 (.slice na n.ks.length nc) n.ks.length (ints n.ks)) := hW.holds _ hka
    have h2 : As.holds W B (.row 3 1 (.slice nva n.vs.length nvc) n.vs.length (ints n.vs)) := hW.holds _ hva
    have r1 := owns_rd h1
    have r2 := owns_rd h2
    rw [← hn] at r2
    rw [hm] at r1 r2
    exact ⟨r1, r2⟩
  have CW : Hid (∀ W l, M w0 B W (l ++ (.blk gs #[.int .i64 s.kd, .int .i64 s.key, .int .i64 s.val, .int .i64 s.step, .int .i64 s.pg, .slice ak s.keys.length ck, .slice av s.keys.length cv, .slice ab s.bel.length cb, .slice ap s.pts.length cp, .string s.sw, .int .i64 s.ver, .bool s.fnd, .int .i64 s.va] 104 :: .row 3 1 (.slice ak s.keys.length ck) s.keys.length (ints s.keys) :: .row 3 1 (.slice av s.keys.length cv) s.keys.length (ints s.vals) :: fr)) → StV W s (.slice ak s.keys.length ck) (.slice av s.keys.length cv) (.slice ab s.bel.length cb) (.slice ap s.pts.length cp)) := by
    intro W l hW
    have h1 : As.holds W B (.row 3 1 (.slice ak s.keys.length ck) s.keys.length (ints s.keys)) := hW.holds _ (by simp)
    have h2 : As.holds W B (.row 3 1 (.slice av s.keys.length cv) s.keys.length (ints s.vals)) := hW.holds _ (by simp)
    have h3 : As.holds W B (.row 3 1 (.slice ab s.bel.length cb) s.bel.length (ints s.bel)) := hW.holds _ (by simp [hb])
    have h4 : As.holds W B (.row 3 1 (.slice ap s.pts.length cp) s.pts.length (ints s.pts)) := hW.holds _ (by simp [hp])
    refine ⟨owns_rd h1, ?_, owns_rd h3, owns_rd h4⟩
    rw [hkl] at h2 ⊢
    exact owns_rd h2
  have A0 := hideIt (h.alloc #[.int .i64 n.lv, .int .i64 n.lk, .int .i64 n.hi, .slice na n.ks.length nc, .slice nva n.vs.length nvc] 24)
  have HI := hideIt hI
  have hkL := hI.keysL
  have HKL := hideIt hkl
  rw [← hn] at A0 ⊢
  rw [hm] at h6 A0 ⊢
  have c0 := h.cell (i := 0) rfl 0 (.int .i64 s.kd) rfl
  have c1 := h.cell (i := 0) rfl 1 (.int .i64 s.key) rfl
  have c2 := h.cell (i := 0) rfl 2 (.int .i64 s.val) rfl
  have c3 := h.cell (i := 0) rfl 3 (.int .i64 s.step) rfl
  have c4 := h.cell (i := 0) rfl 4 (.int .i64 s.pg) rfl
  have c5 := h.cell (i := 0) rfl 5 (.slice ak s.keys.length ck) rfl
  have c6 := h.cell (i := 0) rfl 6 (.slice av s.keys.length cv) rfl
  have c7 := h.cell (i := 0) rfl 7 (.slice ab s.bel.length cb) rfl
  have c8 := h.cell (i := 0) rfl 8 (.slice ap s.pts.length cp) rfl
  have c9 := h.cell (i := 0) rfl 9 (.string s.sw) rfl
  have c10 := h.cell (i := 0) rfl 10 (.int .i64 s.ver) rfl
  have c11 := h.cell (i := 0) rfl 11 (.bool s.fnd) rfl
  have c12 := h.cell (i := 0) rfl 12 (.int .i64 s.va) rfl
  have hlt := h.lt (i := 0) rfl
  obtain ⟨L, hL⟩ : ∃ L, wantV s = L := ⟨_, rfl⟩
  have HL := hideIt hL
  rw [hL]
  have HVA := hideIt hva
  clear h hb hp hka hva hn hm hI hkl hL
  go_enter Tryd.func107, Tryd.ntmps107
  go_wp2_with fail
  refine (wanted_any s _ _ _ _ _ (CW.out _ [_] A0.out) HI.out).mono ?_
  rintro e w1 ⟨rfl, hb⟩
  rw [HL.out]
  have A1 := hideIt (A0.out.below hb)
  obtain ⟨gn, hgn⟩ : ∃ g, w.heap.size = g := ⟨_, rfl⟩
  rw [hgn] at A1 ⊢
  clear hb A0 c0 c1 c2 c3 c4 c5 c6 c7 c8 c9 c10 c11 c12 hlt hgn CW
  go_wp2
  go_loopw [5] (fun i wr => ∃ k l : Nat, ∃ kv vv : Value, k ≤ m ∧ i = .int .i64 k ∧ l ≤ s.keys.length + k ∧ Hid ((adK n.ks L s.val s.keys k).length = l ∧ (adV n.ks n.vs L s.val s.keys s.vals k).length = l) ∧ Hid (M w0 B wr (.blk gn #[.int .i64 n.lv, .int .i64 n.lk, .int .i64 n.hi, .slice na m nc, .slice nva m nvc] 24 :: .blk gs #[.int .i64 s.kd, .int .i64 s.key, .int .i64 s.val, .int .i64 s.step, .int .i64 s.pg, kv, vv, .slice ab s.bel.length cb, .slice ap s.pts.length cp, .string s.sw, .int .i64 s.ver, .bool s.fnd, .int .i64 s.va] 104 :: .row 3 1 kv l (ints (adK n.ks L s.val s.keys k)) :: .row 3 1 vv l (ints (adV n.ks n.vs L s.val s.keys s.vals k)) :: fr))) (fun i _ => m - (intOf i).toNat)
  case atStart => exact ⟨0, s.keys.length, _, _, Nat.zero_le _, rfl, Nat.le_refl _, ⟨rfl, HKL.out.symm⟩, A1.out⟩
  case round =>
    clear A1
    obtain ⟨k, l, kv, vv, hk, rfl, hl, hI, hM⟩ := hrel
    obtain ⟨ka2, kc2, rfl⟩ := As.form0 (hM.out.get (i := 2) rfl)
    obtain ⟨va2, vc2, rfl⟩ := As.form0 (hM.out.get (i := 3) rfl)
    have n3 := hM.out.cell (i := 0) rfl 3 (.slice na m nc) rfl
    have n4 := hM.out.cell (i := 0) rfl 4 (.slice nva m nvc) rfl
    have s2 := hM.out.cell (i := 1) rfl 2 (.int .i64 s.val) rfl
    have s5 := hM.out.cell (i := 1) rfl 5 (.slice ka2 l kc2) rfl
    have s6 := hM.out.cell (i := 1) rfl 6 (.slice va2 l vc2) rfl
    have f5 := hM.out.free (i := 1) rfl 5
    have f6 := hM.out.free (i := 1) rfl 6
    have hlg := hM.out.lt (i := 1) rfl
    have hln := hM.out.lt (i := 0) rfl
    by_cases hlt : k < m
    · obtain ⟨rk, rv⟩ := HRD.out _ ((((hM.out.sub (List.sublist_cons_self _ _)).sub (List.sublist_cons_self _ _)).sub (List.sublist_cons_self _ _)).sub (List.sublist_cons_self _ _))
      obtain ⟨b1, o1, rfl, -, x1⟩ := rk.elem k hlt
      obtain ⟨b2, o2, rfl, -, x2⟩ := rv.elem k hlt
      have y1 := x1 _ (Below.refl _ _)
      have y2 := x2 _ (Below.refl _ _)
      have hb2 := rv.blk_lt k hlt
      have HC : Hid (adK n.ks L s.val s.keys (k + 1) = (if L ≤ n.ks[k]?.getD 0 ∧ n.ks[k]?.getD 0 ≤ s.val ∧ (adK n.ks L s.val s.keys k).length < 12 then adK n.ks L s.val s.keys k ++ [n.ks[k]?.getD 0] else adK n.ks L s.val s.keys k) ∧ adV n.ks n.vs L s.val s.keys s.vals (k + 1) = (if L ≤ n.ks[k]?.getD 0 ∧ n.ks[k]?.getD 0 ≤ s.val ∧ (adK n.ks L s.val s.keys k).length < 12 then adV n.ks n.vs L s.val s.keys s.vals k ++ [n.vs[k]?.getD 0] else adV n.ks n.vs L s.val s.keys s.vals k)) := ⟨rfl, rfl⟩
      obtain ⟨a, ha⟩ : ∃ y, n.ks[k]?.getD 0 = y := ⟨_, rfl⟩
      obtain ⟨b, hb⟩ : ∃ y, n.vs[k]?.getD 0 = y := ⟨_, rfl⟩
      rw [ha] at y1 HC
      rw [hb] at y2 HC
      have HBV := hideIt hb
      have hb2s : b2 ≠ gs := fun e => hM.out.neMem (i := 1) rfl (show As.row 3 1 (.slice (some ⟨b2, o2, none⟩) n.vs.length nvc) n.vs.length (ints n.vs) ∈ _ by simp [HVA.out]) e.symm
      have hgns : gn ≠ gs := hM.out.bne2 (i := 0) (j := 1) rfl rfl (by omega)
      rw [hI.out.1] at HC
      have hkk : (0 : Int) ≤ (k : Int) := by omega
      have hkl : (k : Int) < (m : Int) := by omega
      clear x1 x2 ha hb rk rv
      go_upto_region 6 with fail
      go_cut [49] from 11 to 73 (fun u wx => u = .bool (decide (L ≤ a ∧ a ≤ s.val ∧ l < 12)) ∧ wx = wr)
      case first =>
        go_wp2
        all_goals
          go_meet
          case rel => exact ⟨by congr 1; rw [Bool.eq_iff_iff]; simp only [decide_eq_true_eq, Bool.false_eq_true, false_iff]; omega, rfl⟩
      case rest =>
        obtain ⟨rfl, rfl⟩ := hcut
        by_cases hd : L ≤ a ∧ a ≤ s.val ∧ l < 12
        · rw [if_pos hd, if_pos hd] at HC
          have hde : decide (L ≤ a ∧ a ≤ s.val ∧ l < 12) = true := decide_eq_true hd
          rw [hde]
          clear hd hde
          go_upto_region 8 with (at_builtin; refine wpList_append_lies _ rfl _ _ 22 rfl B 3 i0 (.int .i64 0) 1 8 Tryd.underlying22 hi0 hz0 hz1 hz2 rfl (by decide) _ l (ints (adK n.ks L s.val s.keys k)) rfl (World.ownsRow.alloc (hM.out.get (i := 2) rfl) _) ⟨_, 0, none⟩ 1 1 [.int .i64 a] rfl rfl (news_one _ _ _) (by simp [Value.oneCell']) (by omega) (by unfold maxLen; omega) (by omega) (by have := hM.out.sz; simp at this ⊢; omega) _ rfl ?_; intro g1 cap1 w5 hown hgrow hat hlt1; rw [← ints_snoc, ← HC.out.1] at hown; have hm := (hM.out.allocd _).lies (i := 2) rfl hown hgrow hat; clear s5 f5 s6 f6 n3 n4 s2 y1 y2 hlg hln hown hgrow hat; have s5 := hm.cell (i := 1) rfl 5 (.slice ka2 l kc2) rfl; have f5 := hm.free (i := 1) rfl 5; have s6 := hm.cell (i := 1) rfl 6 (.slice va2 l vc2) rfl; have f6 := hm.free (i := 1) rfl 6; have n4 := hm.cell (i := 0) rfl 4 (.slice (some ⟨b2, o2, none⟩) m nvc) rfl; have hlg := hm.lt (i := 1) rfl; have hln := hm.lt (i := 0) rfl; obtain ⟨-, rv5⟩ := HRD.out _ ((((hm.sub (List.sublist_cons_self _ _)).sub (List.sublist_cons_self _ _)).sub (List.sublist_cons_self _ _)).sub (List.sublist_cons_self _ _)); obtain ⟨b3, o3, e3, -, x3⟩ := rv5.elem k hlt; cases e3; have y2 := x3 _ (Below.refl _ _); rw [HBV.out] at y2; have hb25 := rv5.blk_lt k hlt; clear rv5 x3; have H1 := hideIt (hm.store (i := 1) (j := 5) rfl (.slice (some ⟨g1, 0, none⟩) (l + 1) cap1) rfl); clear hm)
          go_region_law (refine step_append_lies _ rfl _ _ 22 rfl B 3 i0 (.int .i64 0) 1 8 Tryd.underlying22 hi0 hz0 hz1 hz2 rfl (by decide) _ l (ints (adV n.ks n.vs L s.val s.keys s.vals k)) rfl (World.ownsRow.alloc (H1.out.get (i := 3) rfl) _) ⟨_, 0, none⟩ 1 1 [.int .i64 b] rfl rfl (by have := news_one (w5.setCell ⟨gs, 5, none⟩ (.slice (some ⟨g1, 0, none⟩) (l + 1) cap1)) (.int .i64 b) 3; simpa using this) (by simp [Value.oneCell']) (by omega) (by unfold maxLen; omega) (by omega) (by have := H1.out.sz; simp at this ⊢; omega) _ rfl ?_; intro g2 cap2 w6 hown hgrow hat hlt2; rw [← ints_snoc, ← HC.out.2] at hown; have hm := (H1.out.allocd _).drew.lies (i := 3) rfl hown hgrow hat; clear s5 f5 s6 f6 n4 y2 hlg hln hb25 hown hgrow hat; have s6 := hm.cell (i := 1) rfl 6 (.slice va2 l vc2) rfl; have f6 := hm.free (i := 1) rfl 6; have H2 := hideIt (hm.store (i := 1) (j := 6) rfl (.slice (some ⟨g2, 0, none⟩) (l + 1) cap2) rfl); clear hm)
          all_goals
            go_wp2
            go_roundw
            case rel => exact ⟨k + 1, l + 1, _, _, by omega, by go_num, by omega, by unfold Hid; rw [HC.out.1, HC.out.2, List.length_append, List.length_append, hI.out.1, hI.out.2]; exact ⟨rfl, rfl⟩, H2.out⟩
            case measure => simp [intOf]; omega
        · rw [if_neg hd, if_neg hd] at HC
          have hde : decide (L ≤ a ∧ a ≤ s.val ∧ l < 12) = false := decide_eq_false hd
          rw [hde]
          clear hd hde
          go_wp2
          go_roundw
          case rel => exact ⟨k + 1, l, _, _, by omega, by go_num, by omega, by unfold Hid; rw [HC.out.1, HC.out.2]; exact hI.out, by unfold Hid; rw [HC.out.1, HC.out.2]; exact hM.out⟩
          case measure => simp [intOf]; omega
    · obtain rfl : k = m := by omega
      go_wp2
      exact bodyPost_end (results_none Tryd.results107 _ _ _) rfl ⟨⟨_, rfl⟩, _, _, l, hI.out.1, hI.out.2, hM.out.sub (List.sublist_cons_self _ _)⟩
end Go.Proofs.YtjpgldeeopmbgaaDoor.Sap

/- WHAT IS PROVED HERE: what tree.takeOver adds of a leaf to a node. Conditions: named at the theorem. -/
namespace Go.Proofs.YtjpgldeeopmbgaaDoor.Sap
open Go.RowKit

/-- What a node has of keys and values behind a leaf's first k entries, of those from l on, below h. -/
def tkK (ks : List Int) (l h : Int) (K : List Int) : Nat → List Int
  | 0 => K
  | k + 1 => if l ≤ ks[k]?.getD 0 ∧ ks[k]?.getD 0 < h then tkK ks l h K k ++ [ks[k]?.getD 0] else tkK ks l h K k
def tkV (ks vs : List Int) (l h : Int) (V : List Int) : Nat → List Int
  | 0 => V
  | k + 1 => if l ≤ ks[k]?.getD 0 ∧ ks[k]?.getD 0 < h then tkV ks vs l h V k ++ [vs[k]?.getD 0] else tkV ks vs l h V k

set_option maxRecDepth 100000 in
set_option maxHeartbeats 6400000 in
theorem takeOver_any (gs l0 : Nat) (n : Nd) (lv lk hi L H : Int) (K V : List Int) (kv vv ka va : Value) (fr : List As) (w0 w : World) (B : Nat) (hK : K.length = l0) (hV : V.length = l0) (hl0 : l0 ≤ 12)
    (h : M w0 B w (.blk gs #[.int .i64 lv, .int .i64 lk, .int .i64 hi, kv, vv] 24 :: .row 3 1 kv l0 (ints K) :: .row 3 1 vv l0 (ints V) :: fr))
    (hka : .row 3 1 ka n.ks.length (ints n.ks) ∈ fr) (hva : .row 3 1 va n.vs.length (ints n.vs) ∈ fr) (hn : n.ks.length = n.vs.length) (h6 : n.ks.length ≤ 6) :
    Calls Tryd.prog 113 #[.pointer (some ⟨gs, 0, none⟩), .agg #[.int .i64 n.lv, .int .i64 n.lk, .int .i64 n.hi, ka, va], .int .i64 L, .int .i64 H] w fun e w' => (∃ u, e = .returned u) ∧ ∃ kv' vv' l, (tkK n.ks L H K n.ks.length).length = l ∧ (tkV n.ks n.vs L H V n.ks.length).length = l ∧ l ≤ l0 + 6 ∧
      M w0 B w' (.blk gs #[.int .i64 lv, .int .i64 lk, .int .i64 hi, kv', vv'] 24 :: .row 3 1 kv' l (ints (tkK n.ks L H K n.ks.length)) :: .row 3 1 vv' l (ints (tkV n.ks n.vs L H V n.ks.length)) :: fr) := by
  obtain ⟨i0, hi0, hz0, hz1, hz2⟩ := info_parts infoInt
  obtain ⟨na, nc, rfl⟩ := As.form0 (h.holds _ (show As.row 3 1 ka n.ks.length (ints n.ks) ∈ _ by simp [hka]))
  obtain ⟨nva, nvc, rfl⟩ := As.form0 (h.holds _ (show As.row 3 1 va n.vs.length (ints n.vs) ∈ _ by simp [hva]))
  obtain ⟨m, hm⟩ : ∃ m, n.ks.length = m := ⟨_, rfl⟩
  have HRD : Hid (∀ W, M w0 B W fr → Rd W (.slice na m nc) n.ks ∧ Rd W (.slice nva m nvc) n.vs) := by
    intro W hW
    have h1 : As.holds W B (.row 3 1 (.slice na n.ks.length nc) n.ks.length (ints n.ks)) := hW.holds _ hka
    have h2 : As.holds W B (.row 3 1 (.slice nva n.vs.length nvc) n.vs.length (ints n.vs)) := hW.holds _ hva
    have r1 := owns_rd h1
    have r2 := owns_rd h2
    rw [← hn] at r2
    rw [hm] at r1 r2
    exact ⟨r1, r2⟩
  have A0 := hideIt (h.alloc #[.int .i64 n.lv, .int .i64 n.lk, .int .i64 n.hi, .slice na n.ks.length nc, .slice nva n.vs.length nvc] 24)
  rw [← hn] at A0 ⊢
  rw [hm] at h6 A0 ⊢
  have HVA := hideIt hva
  have HKL := hideIt hK
  have HVL := hideIt hV
  clear h hka hva hn hm hK hV
  go_enter Tryd.func113, Tryd.ntmps113
  go_wp2
  obtain ⟨gn, hgn⟩ : ∃ g, w.heap.size = g := ⟨_, rfl⟩
  rw [hgn] at A0 ⊢
  clear hgn
  go_loopw [8] (fun i wr => ∃ k l : Nat, ∃ kv vv : Value, k ≤ m ∧ i = .int .i64 k ∧ l ≤ l0 + k ∧ Hid ((tkK n.ks L H K k).length = l ∧ (tkV n.ks n.vs L H V k).length = l) ∧ Hid (M w0 B wr (.blk gn #[.int .i64 n.lv, .int .i64 n.lk, .int .i64 n.hi, .slice na m nc, .slice nva m nvc] 24 :: .blk gs #[.int .i64 lv, .int .i64 lk, .int .i64 hi, kv, vv] 24 :: .row 3 1 kv l (ints (tkK n.ks L H K k)) :: .row 3 1 vv l (ints (tkV n.ks n.vs L H V k)) :: fr))) (fun i _ => m - (intOf i).toNat)
  case atStart => exact ⟨0, l0, _, _, Nat.zero_le _, rfl, Nat.le_refl _, ⟨HKL.out, HVL.out⟩, A0.out⟩
  case round =>
    clear A0
    obtain ⟨k, l, kv, vv, hk, rfl, hl, hI, hM⟩ := hrel
    obtain ⟨ka2, kc2, rfl⟩ := As.form0 (hM.out.get (i := 2) rfl)
    obtain ⟨va2, vc2, rfl⟩ := As.form0 (hM.out.get (i := 3) rfl)
    have n3 := hM.out.cell (i := 0) rfl 3 (.slice na m nc) rfl
    have n4 := hM.out.cell (i := 0) rfl 4 (.slice nva m nvc) rfl
    have s5 := hM.out.cell (i := 1) rfl 3 (.slice ka2 l kc2) rfl
    have s6 := hM.out.cell (i := 1) rfl 4 (.slice va2 l vc2) rfl
    have f5 := hM.out.free (i := 1) rfl 3
    have f6 := hM.out.free (i := 1) rfl 4
    have hlg := hM.out.lt (i := 1) rfl
    have hln := hM.out.lt (i := 0) rfl
    by_cases hlt : k < m
    · obtain ⟨rk, rv⟩ := HRD.out _ ((((hM.out.sub (List.sublist_cons_self _ _)).sub (List.sublist_cons_self _ _)).sub (List.sublist_cons_self _ _)).sub (List.sublist_cons_self _ _))
      obtain ⟨b1, o1, rfl, -, x1⟩ := rk.elem k hlt
      obtain ⟨b2, o2, rfl, -, x2⟩ := rv.elem k hlt
      have y1 := x1 _ (Below.refl _ _)
      have y2 := x2 _ (Below.refl _ _)
      have hb1 := rk.blk_lt k hlt
      have hb2 := rv.blk_lt k hlt
      have HC : Hid (tkK n.ks L H K (k + 1) = (if L ≤ n.ks[k]?.getD 0 ∧ n.ks[k]?.getD 0 < H then tkK n.ks L H K k ++ [n.ks[k]?.getD 0] else tkK n.ks L H K k) ∧ tkV n.ks n.vs L H V (k + 1) = (if L ≤ n.ks[k]?.getD 0 ∧ n.ks[k]?.getD 0 < H then tkV n.ks n.vs L H V k ++ [n.vs[k]?.getD 0] else tkV n.ks n.vs L H V k)) := ⟨rfl, rfl⟩
      obtain ⟨a, ha⟩ : ∃ y, n.ks[k]?.getD 0 = y := ⟨_, rfl⟩
      obtain ⟨b, hb⟩ : ∃ y, n.vs[k]?.getD 0 = y := ⟨_, rfl⟩
      rw [ha] at y1 HC
      rw [hb] at y2 HC
      have HBV := hideIt hb
      have hb2s : b2 ≠ gs := fun e => hM.out.neMem (i := 1) rfl (show As.row 3 1 (.slice (some ⟨b2, o2, none⟩) n.vs.length nvc) n.vs.length (ints n.vs) ∈ _ by simp [HVA.out]) e.symm
      have hgns : gn ≠ gs := hM.out.bne2 (i := 0) (j := 1) rfl rfl (by omega)
      have hkk : (0 : Int) ≤ (k : Int) := by omega
      have hkl : (k : Int) < (m : Int) := by omega
      clear x1 x2 ha hb rk rv
      go_upto_region 4 with fail
      go_cut [38] from 9 to 66 (fun u wx => u = .bool (decide (L ≤ a ∧ a < H)) ∧ wx = wr)
      case first =>
        go_wp2
        all_goals
          go_meet
          case rel => exact ⟨by congr 1; rw [Bool.eq_iff_iff]; simp only [decide_eq_true_eq, Bool.false_eq_true, false_iff]; omega, rfl⟩
      case rest =>
        obtain ⟨rfl, rfl⟩ := hcut
        by_cases hd : L ≤ a ∧ a < H
        · rw [if_pos hd, if_pos hd] at HC
          have hde : decide (L ≤ a ∧ a < H) = true := decide_eq_true hd
          rw [hde]
          clear hd hde
          go_upto_region 5 with fail
          go_cut [] from 9 to 66 (fun wy => ∃ g1 cap1 : Nat, Hid (M w0 B wy (.blk gn #[.int .i64 n.lv, .int .i64 n.lk, .int .i64 n.hi, .slice (some ⟨b1, o1, none⟩) m nc, .slice (some ⟨b2, o2, none⟩) m nvc] 24 :: .blk gs #[.int .i64 lv, .int .i64 lk, .int .i64 hi, .slice (some ⟨g1, 0, none⟩) (l + 1) cap1, .slice va2 l vc2] 24 :: .row 3 1 (.slice (some ⟨g1, 0, none⟩) (l + 1) cap1) (l + 1) (ints (tkK n.ks L H K (k + 1))) :: .row 3 1 (.slice va2 l vc2) l (ints (tkV n.ks n.vs L H V k)) :: fr)))
          case first =>
            go_region_law (refine step_append_lies _ rfl _ _ 22 rfl B 3 i0 (.int .i64 0) 1 8 Tryd.underlying22 hi0 hz0 hz1 hz2 rfl (by decide) _ l (ints (tkK n.ks L H K k)) rfl (World.ownsRow.alloc (hM.out.get (i := 2) rfl) _) ⟨_, 0, none⟩ 1 1 [.int .i64 a] rfl rfl (news_one _ _ _) (by simp [Value.oneCell']) (by omega) (by unfold maxLen; omega) (by omega) (by have := hM.out.sz; simp at this ⊢; omega) _ rfl ?_; intro g1 cap1 w5 hown hgrow hat hlt1; rw [← ints_snoc, ← HC.out.1] at hown; have hm := (hM.out.allocd _).drew.lies (i := 2) rfl hown hgrow hat; clear s5 f5 s6 f6 n3 n4 y1 y2 hlg hln hb1 hb2 hown hgrow hat; have s5 := hm.cell (i := 1) rfl 3 (.slice ka2 l kc2) rfl; have f5 := hm.free (i := 1) rfl 3; have H1 := hideIt (hm.store (i := 1) (j := 3) rfl (.slice (some ⟨g1, 0, none⟩) (l + 1) cap1) rfl); clear hm)
            all_goals
              go_wp2
              go_meet
              case rel => exact ⟨g1, cap1, H1.out⟩
          case rest =>
            obtain ⟨g1, cap1, H1⟩ := hcut
            clear hM s5 s6 f5 f6 n3 n4 y1 y2 hlg hln hb1 hb2
            have n4 := H1.out.cell (i := 0) rfl 4 (.slice (some ⟨b2, o2, none⟩) m nvc) rfl
            have s6 := H1.out.cell (i := 1) rfl 4 (.slice va2 l vc2) rfl
            have f6 := H1.out.free (i := 1) rfl 4
            have hlg := H1.out.lt (i := 1) rfl
            have hln := H1.out.lt (i := 0) rfl
            obtain ⟨-, rv5⟩ := HRD.out _ ((((H1.out.sub (List.sublist_cons_self _ _)).sub (List.sublist_cons_self _ _)).sub (List.sublist_cons_self _ _)).sub (List.sublist_cons_self _ _))
            obtain ⟨b3, o3, e3, -, x3⟩ := rv5.elem k hlt
            cases e3
            have y2 := x3 _ (Below.refl _ _)
            rw [HBV.out] at y2
            have hb2 := rv5.blk_lt k hlt
            clear rv5 x3
            go_upto_region 6 with fail
            go_region_law (refine step_append_lies _ rfl _ _ 22 rfl B 3 i0 (.int .i64 0) 1 8 Tryd.underlying22 hi0 hz0 hz1 hz2 rfl (by decide) _ l (ints (tkV n.ks n.vs L H V k)) rfl (World.ownsRow.alloc (H1.out.get (i := 3) rfl) _) ⟨_, 0, none⟩ 1 1 [.int .i64 b] rfl rfl (news_one _ _ _) (by simp [Value.oneCell']) (by omega) (by unfold maxLen; omega) (by omega) (by have := H1.out.sz; simp at this ⊢; omega) _ rfl ?_; intro g2 cap2 w6 hown hgrow hat hlt2; rw [← ints_snoc, ← HC.out.2] at hown; have hm := (H1.out.allocd _).drew.lies (i := 3) rfl hown hgrow hat; clear s6 f6 n4 y2 hlg hln hb2 hown hgrow hat; have s6 := hm.cell (i := 1) rfl 4 (.slice va2 l vc2) rfl; have f6 := hm.free (i := 1) rfl 4; have H2 := hideIt (hm.store (i := 1) (j := 4) rfl (.slice (some ⟨g2, 0, none⟩) (l + 1) cap2) rfl); clear hm)
            all_goals
              go_wp2
              go_roundw
              case rel => exact ⟨k + 1, l + 1, _, _, by omega, by go_num, by omega, by unfold Hid; rw [HC.out.1, HC.out.2, List.length_append, List.length_append, hI.out.1, hI.out.2]; exact ⟨rfl, rfl⟩, H2.out⟩
              case measure => simp [intOf]; omega
        · rw [if_neg hd, if_neg hd] at HC
          have hde : decide (L ≤ a ∧ a < H) = false := decide_eq_false hd
          rw [hde]
          clear hd hde
          go_wp2
          go_roundw
          case rel => exact ⟨k + 1, l, _, _, by omega, by go_num, by omega, by unfold Hid; rw [HC.out.1, HC.out.2]; exact hI.out, by unfold Hid; rw [HC.out.1, HC.out.2]; exact hM.out⟩
          case measure => simp [intOf]; omega
    · obtain rfl : k = m := by omega
      go_wp2
      exact bodyPost_end (results_none Tryd.results113 _ _ _) rfl ⟨⟨_, rfl⟩, _, _, l, hI.out.1, hI.out.2, by omega, hM.out.sub (List.sublist_cons_self _ _)⟩
end Go.Proofs.YtjpgldeeopmbgaaDoor.Sap

/- WHAT IS PROVED HERE: what tree.changed makes of a leaf for a Put or a Drop. Conditions: named at the theorem. -/
namespace Go.Proofs.YtjpgldeeopmbgaaDoor.Sap
open Go.RowKit

/-- A leaf's keys and values behind a Put (kind 2) or a Drop. -/
def chK (n : Nd) (k key : Int) : List Int := tkK n.ks (key + 1) n.hi (tkK n.ks 0 key [] n.ks.length ++ (if k = 2 then [key] else [])) n.ks.length
def chV (n : Nd) (k key v : Int) : List Int := tkV n.ks n.vs (key + 1) n.hi (tkV n.ks n.vs 0 key [] n.ks.length ++ (if k = 2 then [v] else [])) n.ks.length

set_option maxRecDepth 100000 in
set_option maxHeartbeats 6400000 in
theorem changed_any (n : Nd) (k key v : Int) (ka va : Value) (fr : List As) (w0 w : World) (B : Nat) (hk : k = 2 ∨ k = 3) (hkey : 0 ≤ key) (hkey2 : key ≤ 9999)
    (h : M w0 B w fr) (hka : .row 3 1 ka n.ks.length (ints n.ks) ∈ fr) (hva : .row 3 1 va n.vs.length (ints n.vs) ∈ fr) (hn : n.ks.length = n.vs.length) (h6 : n.ks.length ≤ 6) (ht6 : (tkK n.ks 0 key [] n.ks.length).length ≤ 6) :
    Calls Tryd.prog 109 #[.agg #[.int .i64 n.lv, .int .i64 n.lk, .int .i64 n.hi, ka, va], .agg #[.int .i64 k, .int .i64 key, .int .i64 v]] w fun e w' => ∃ kv' vv' l, e = .returned (.agg #[.int .i64 n.lv, .int .i64 n.lk, .int .i64 n.hi, kv', vv']) ∧ (chK n k key).length = l ∧ (chV n k key v).length = l ∧ l ≤ 13 ∧
      M w0 B w' (.row 3 1 kv' l (ints (chK n k key)) :: .row 3 1 vv' l (ints (chV n k key v)) :: fr) := by
  obtain ⟨i0, hi0, hz0, hz1, hz2⟩ := info_parts infoInt
  obtain ⟨na, nc, rfl⟩ := As.form0 (h.holds _ hka)
  obtain ⟨nva, nvc, rfl⟩ := As.form0 (h.holds _ hva)
  have A0 := (((h.alloc #[.int .i64 n.lv, .int .i64 n.lk, .int .i64 n.hi, .slice na n.ks.length nc, .slice nva n.vs.length nvc] 24).alloc #[.int .i64 k, .int .i64 key, .int .i64 v] 37).alloc #[.int .i64 0, .int .i64 0, .int .i64 0, .slice none 0 0, .slice none 0 0] 24).alloc #[.int .i64 n.lv, .int .i64 n.lk, .int .i64 n.hi, .slice none 0 0, .slice none 0 0] 24
  rw [alloc_size, alloc_size, alloc_size] at A0
  have A1 := M.rowNil (e := 3) (z := 1) (M.rowNil (e := 3) (z := 1) A0)
  have CT := hideIt (takeOver_any _ 0 n n.lv n.lk n.hi 0 key [] [] (.slice none 0 0) (.slice none 0 0) (.slice na n.ks.length nc) (.slice nva n.vs.length nvc) _ w0 _ B rfl rfl (by omega) A1 (by simp [hka]) (by simp [hva]) hn h6)
  have HKA := hideIt hka
  have HVA := hideIt hva
  have HN := hideIt hn
  have c := fun j v hv => A0.cell (i := 3) rfl j v hv
  have n0 := c 0 (.int .i64 n.lv) rfl
  have n1 := c 1 (.int .i64 n.lk) rfl
  have n2 := c 2 (.int .i64 n.hi) rfl
  have n3 := c 3 (.slice na n.ks.length nc) rfl
  have n4 := c 4 (.slice nva n.vs.length nvc) rfl
  have o1 := A0.cell (i := 2) rfl 1 (.int .i64 key) rfl
  have HCH : Hid (chK n k key = tkK n.ks (key + 1) n.hi (tkK n.ks 0 key [] n.ks.length ++ (if k = 2 then [key] else [])) n.ks.length ∧ chV n k key v = tkV n.ks n.vs (key + 1) n.hi (tkV n.ks n.vs 0 key [] n.ks.length ++ (if k = 2 then [v] else [])) n.ks.length) := ⟨rfl, rfl⟩
  clear c h hka hva hn A0 A1
  go_enter Tryd.func109, Tryd.ntmps109
  go_wp2_with fail
  refine CT.out.mono ?_
  rintro e w1 ⟨⟨u, rfl⟩, kv1, vv1, l1, hl1, hl2, hl3, hM1⟩
  obtain ⟨g0, hg0⟩ : ∃ g, w.heap.size = g := ⟨_, rfl⟩
  rw [hg0] at hM1 ⊢
  have A2 := hideIt hM1
  rw [hl1] at ht6
  have HL := hideIt (And.intro hl1 hl2)
  clear CT n0 n1 n2 n3 n4 o1 hg0 hM1 hl1 hl2
  obtain ⟨ka1, kc1, rfl⟩ := As.form0 (A2.out.get (i := 1) rfl)
  obtain ⟨va1, vc1, rfl⟩ := As.form0 (A2.out.get (i := 2) rfl)
  rcases hk with rfl | rfl
  · have q3 := A2.out.cell (i := 0) rfl 3 (.slice ka1 l1 kc1) rfl
    have q4 := A2.out.cell (i := 0) rfl 4 (.slice va1 l1 vc1) rfl
    have f3 := A2.out.free (i := 0) rfl 3
    have f4 := A2.out.free (i := 0) rfl 4
    have hlg := A2.out.lt (i := 0) rfl
    have p0 := A2.out.cell (i := 4) rfl 0 (.int .i64 2) rfl
    have p1 := A2.out.cell (i := 4) rfl 1 (.int .i64 key) rfl
    go_upto_region 5 with (at_builtin; refine wpList_append_lies _ rfl _ _ 22 rfl B 3 i0 (.int .i64 0) 1 8 Tryd.underlying22 hi0 hz0 hz1 hz2 rfl (by decide) _ l1 (ints (tkK n.ks 0 key [] n.ks.length)) rfl (World.ownsRow.alloc (A2.out.get (i := 1) rfl) _) ⟨_, 0, none⟩ 1 1 [.int .i64 key] rfl rfl (news_one _ _ _) (by simp [Value.oneCell']) (by omega) (by unfold maxLen; omega) (by omega) (by have := A2.out.sz; simp at this ⊢; omega) _ rfl ?_; intro g1 cap1 w5 hown hgrow hat hlt1; rw [← ints_snoc] at hown; have hm := (A2.out.allocd _).lies (i := 1) rfl hown hgrow hat; clear q3 q4 f3 f4 hlg p0 p1 hown hgrow hat; have q3 := hm.cell (i := 0) rfl 3 (.slice ka1 l1 kc1) rfl; have f3 := hm.free (i := 0) rfl 3; have hlg := hm.lt (i := 0) rfl; have H1 := hideIt (hm.store (i := 0) (j := 3) rfl (.slice (some ⟨g1, 0, none⟩) (l1 + 1) cap1) rfl); clear hm A2)
    have q4 := H1.out.cell (i := 0) rfl 4 (.slice va1 l1 vc1) rfl
    have f4 := H1.out.free (i := 0) rfl 4
    have p2 := H1.out.cell (i := 4) rfl 2 (.int .i64 v) rfl
    go_upto_region 6 with (at_builtin; refine wpList_append_lies _ rfl _ _ 22 rfl B 3 i0 (.int .i64 0) 1 8 Tryd.underlying22 hi0 hz0 hz1 hz2 rfl (by decide) _ l1 (ints (tkV n.ks n.vs 0 key [] n.ks.length)) rfl (World.ownsRow.alloc (H1.out.get (i := 2) rfl) _) ⟨_, 0, none⟩ 1 1 [.int .i64 v] rfl rfl (by have := news_one (w5.setCell ⟨g0 + 1 + 1 + 1, 3, none⟩ (.slice (some ⟨g1, 0, none⟩) (l1 + 1) cap1)) (.int .i64 v) 3; simpa using this) (by simp [Value.oneCell']) (by omega) (by unfold maxLen; omega) (by omega) (by have := H1.out.sz; simp at this ⊢; omega) _ rfl ?_; intro g2 cap2 w7 hown hgrow hat hlt2; rw [← ints_snoc] at hown; have hm := (H1.out.allocd _).lies (i := 2) rfl hown hgrow hat; clear q3 q4 f3 f4 p2 hlg hown hgrow hat; have q4 := hm.cell (i := 0) rfl 4 (.slice va1 l1 vc1) rfl; have f4 := hm.free (i := 0) rfl 4; have hlg := hm.lt (i := 0) rfl; have A3 := hideIt (hm.store (i := 0) (j := 4) rfl (.slice (some ⟨g2, 0, none⟩) (l1 + 1) cap2) rfl); clear hm H1)
    have CT2 := hideIt (takeOver_any _ (l1 + 1) n n.lv n.lk n.hi (key + 1) n.hi (tkK n.ks 0 key [] n.ks.length ++ [key]) (tkV n.ks n.vs 0 key [] n.ks.length ++ [v]) (.slice (some ⟨g1, 0, none⟩) (l1 + 1) cap1) (.slice (some ⟨g2, 0, none⟩) (l1 + 1) cap2) (.slice na n.ks.length nc) (.slice nva n.vs.length nvc) _ w0 _ B (by rw [List.length_append, HL.out.1]; rfl) (by rw [List.length_append, HL.out.2]; rfl) (by omega) A3.out (by simp [HKA.out]) (by simp [HVA.out]) HN.out h6)
    have n0 := A3.out.cell (i := 5) rfl 0 (.int .i64 n.lv) rfl
    have n1 := A3.out.cell (i := 5) rfl 1 (.int .i64 n.lk) rfl
    have n2 := A3.out.cell (i := 5) rfl 2 (.int .i64 n.hi) rfl
    have n3 := A3.out.cell (i := 5) rfl 3 (.slice na n.ks.length nc) rfl
    have n4 := A3.out.cell (i := 5) rfl 4 (.slice nva n.vs.length nvc) rfl
    have o0 := A3.out.cell (i := 4) rfl 0 (.int .i64 2) rfl
    have o1 := A3.out.cell (i := 4) rfl 1 (.int .i64 key) rfl
    clear A3
    go_wp2_with fail
    refine CT2.out.mono ?_
    rintro e w6 ⟨⟨u, rfl⟩, kv2, vv2, l2, hm1, hm2, hm3, hM2⟩
    obtain ⟨ka2, kc2, rfl⟩ := As.form0 (hM2.get (i := 1) rfl)
    obtain ⟨va2, vc2, rfl⟩ := As.form0 (hM2.get (i := 2) rfl)
    have S5 := hideIt (hM2.store5 (i := 3) rfl (.int .i64 n.lv) (.int .i64 n.lk) (.int .i64 n.hi) (.slice ka2 l2 kc2) (.slice va2 l2 vc2))
    have a0 := hM2.cell (i := 0) rfl 0 (.int .i64 n.lv) rfl
    have a1 := hM2.cell (i := 0) rfl 1 (.int .i64 n.lk) rfl
    have a2 := hM2.cell (i := 0) rfl 2 (.int .i64 n.hi) rfl
    have a3 := hM2.cell (i := 0) rfl 3 (.slice ka2 l2 kc2) rfl
    have a4 := hM2.cell (i := 0) rfl 4 (.slice va2 l2 vc2) rfl
    have r0 := hM2.cell (i := 3) rfl 0 (.int .i64 0) rfl
    have r1 := hM2.cell (i := 3) rfl 1 (.int .i64 0) rfl
    have r2 := hM2.cell (i := 3) rfl 2 (.int .i64 0) rfl
    have r3 := hM2.cell (i := 3) rfl 3 (.slice none 0 0) rfl
    have r4 := hM2.cell (i := 3) rfl 4 (.slice none 0 0) rfl
    have f0 := hM2.free (i := 3) rfl 0
    have f1 := hM2.free (i := 3) rfl 1
    have f2 := hM2.free (i := 3) rfl 2
    have f3 := hM2.free (i := 3) rfl 3
    have f4 := hM2.free (i := 3) rfl 4
    have HCC : Hid (chK n 2 key = tkK n.ks (key + 1) n.hi (tkK n.ks 0 key [] n.ks.length ++ [key]) n.ks.length ∧ chV n 2 key v = tkV n.ks n.vs (key + 1) n.hi (tkV n.ks n.vs 0 key [] n.ks.length ++ [v]) n.ks.length) := HCH.out
    have HM := hideIt (And.intro hm1 hm2)
    clear CT2 hM2 n0 n1 n2 n3 n4 o0 o1 HCH hm1 hm2
    go_wp2
    refine bodyPost_ret (v := .agg #[.int .i64 n.lv, .int .i64 n.lk, .int .i64 n.hi, .slice ka2 l2 kc2, .slice va2 l2 vc2]) (by simp [results, Tryd.results109, go_sem, *]) rfl ⟨_, _, l2, rfl, by rw [HCC.out.1]; exact HM.out.1, by rw [HCC.out.2]; exact HM.out.2, by omega, ?_⟩
    rw [HCC.out.1, HCC.out.2]
    exact S5.out.sub (.cons _ (.cons_cons _ (.cons_cons _ (.cons _ (.cons _ (.cons _ (List.Sublist.refl _)))))))
  · have A3 := A2
    clear A2
    have CT2 := hideIt (takeOver_any _ (l1) n n.lv n.lk n.hi (key + 1) n.hi (tkK n.ks 0 key [] n.ks.length) (tkV n.ks n.vs 0 key [] n.ks.length) (.slice ka1 l1 kc1) (.slice va1 l1 vc1) (.slice na n.ks.length nc) (.slice nva n.vs.length nvc) _ w0 _ B HL.out.1 HL.out.2 (by omega) A3.out (by simp [HKA.out]) (by simp [HVA.out]) HN.out h6)
    have n0 := A3.out.cell (i := 5) rfl 0 (.int .i64 n.lv) rfl
    have n1 := A3.out.cell (i := 5) rfl 1 (.int .i64 n.lk) rfl
    have n2 := A3.out.cell (i := 5) rfl 2 (.int .i64 n.hi) rfl
    have n3 := A3.out.cell (i := 5) rfl 3 (.slice na n.ks.length nc) rfl
    have n4 := A3.out.cell (i := 5) rfl 4 (.slice nva n.vs.length nvc) rfl
    have o0 := A3.out.cell (i := 4) rfl 0 (.int .i64 3) rfl
    have o1 := A3.out.cell (i := 4) rfl 1 (.int .i64 key) rfl
    clear A3
    go_wp2_with fail
    refine CT2.out.mono ?_
    rintro e w6 ⟨⟨u, rfl⟩, kv2, vv2, l2, hm1, hm2, hm3, hM2⟩
    obtain ⟨ka2, kc2, rfl⟩ := As.form0 (hM2.get (i := 1) rfl)
    obtain ⟨va2, vc2, rfl⟩ := As.form0 (hM2.get (i := 2) rfl)
    have S5 := hideIt (hM2.store5 (i := 3) rfl (.int .i64 n.lv) (.int .i64 n.lk) (.int .i64 n.hi) (.slice ka2 l2 kc2) (.slice va2 l2 vc2))
    have a0 := hM2.cell (i := 0) rfl 0 (.int .i64 n.lv) rfl
    have a1 := hM2.cell (i := 0) rfl 1 (.int .i64 n.lk) rfl
    have a2 := hM2.cell (i := 0) rfl 2 (.int .i64 n.hi) rfl
    have a3 := hM2.cell (i := 0) rfl 3 (.slice ka2 l2 kc2) rfl
    have a4 := hM2.cell (i := 0) rfl 4 (.slice va2 l2 vc2) rfl
    have r0 := hM2.cell (i := 3) rfl 0 (.int .i64 0) rfl
    have r1 := hM2.cell (i := 3) rfl 1 (.int .i64 0) rfl
    have r2 := hM2.cell (i := 3) rfl 2 (.int .i64 0) rfl
    have r3 := hM2.cell (i := 3) rfl 3 (.slice none 0 0) rfl
    have r4 := hM2.cell (i := 3) rfl 4 (.slice none 0 0) rfl
    have f0 := hM2.free (i := 3) rfl 0
    have f1 := hM2.free (i := 3) rfl 1
    have f2 := hM2.free (i := 3) rfl 2
    have f3 := hM2.free (i := 3) rfl 3
    have f4 := hM2.free (i := 3) rfl 4
    have HCC : Hid (chK n 3 key = tkK n.ks (key + 1) n.hi (tkK n.ks 0 key [] n.ks.length) n.ks.length ∧ chV n 3 key v = tkV n.ks n.vs (key + 1) n.hi (tkV n.ks n.vs 0 key [] n.ks.length) n.ks.length) := by have h9 := HCH.out; rw [if_neg (by decide), if_neg (by decide), List.append_nil, List.append_nil] at h9; exact h9
    have HM := hideIt (And.intro hm1 hm2)
    clear CT2 hM2 n0 n1 n2 n3 n4 o0 o1 HCH hm1 hm2
    go_wp2
    refine bodyPost_ret (v := .agg #[.int .i64 n.lv, .int .i64 n.lk, .int .i64 n.hi, .slice ka2 l2 kc2, .slice va2 l2 vc2]) (by simp [results, Tryd.results109, go_sem, *]) rfl ⟨_, _, l2, rfl, by rw [HCC.out.1]; exact HM.out.1, by rw [HCC.out.2]; exact HM.out.2, by omega, ?_⟩
    rw [HCC.out.1, HCC.out.2]
    exact S5.out.sub (.cons _ (.cons_cons _ (.cons_cons _ (.cons _ (.cons _ (.cons _ (List.Sublist.refl _)))))))
end Go.Proofs.YtjpgldeeopmbgaaDoor.Sap
