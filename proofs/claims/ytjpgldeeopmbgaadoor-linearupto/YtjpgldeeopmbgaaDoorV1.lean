/- WHAT IS PROVED HERE: what tree.takeOver adds of a leaf to a node. Conditions: named at the theorem. -/
import Derived.Test.YtjpgldeeopmbgaaDoorL3
namespace Go.Proofs.YtjpgldeeopmbgaaDoor.Sap
open Go.RowKit

/-- What a node has of keys and values behind a leaf's first k entries, of those from l on, below h. -/
def tkK (ks : List Int) (l h : Int) (K : List Int) : Nat → List Int
  | 0 => K
  | k + 1 => if l ≤ ks[k]?.getD 0 ∧ ks[k]?.getD 0 < h then tkK ks l h K k ++ [ks[k]?.getD 0] else tkK ks l h K k
def tkV (ks vs : List Int) (l h : Int) (V : List Int) : Nat → List Int
  | 0 => V
  | k + 1 => if l ≤ ks[k]?.getD 0 ∧ ks[k]?.getD 0 < h then tkV ks vs l h V k ++ [vs[k]?.getD 0] else tkV ks vs l h V k

set_option maxRecDepth 100000 in
set_option maxHeartbeats 6400000 in
theorem takeOver_any (gs l0 : Nat) (n : Nd) (lv lk hi L H : Int) (K V : List Int) (kv vv ka va : Value) (fr : List As) (w0 w : World) (B : Nat) (hK : K.length = l0) (hV : V.length = l0) (hl0 : l0 ≤ 12)
    (h : M w0 B w (.blk gs #[.int .i64 lv, .int .i64 lk, .int .i64 hi, kv, vv] 24 :: .row 3 1 kv l0 (ints K) :: .row 3 1 vv l0 (ints V) :: fr))
    (hka : .row 3 1 ka n.ks.length (ints n.ks) ∈ fr) (hva : .row 3 1 va n.vs.length (ints n.vs) ∈ fr) (hn : n.ks.length = n.vs.length) (h6 : n.ks.length ≤ 6) :
    Calls Tryd.prog 113 #[.pointer (some ⟨gs, 0, none⟩), .agg #[.int .i64 n.lv, .int .i64 n.lk, .int .i64 n.hi, ka, va], .int .i64 L, .int .i64 H] w fun e w' => (∃ u, e = .returned u) ∧ ∃ kv' vv' l, (tkK n.ks L H K n.ks.length).length = l ∧ (tkV n.ks n.vs L H V n.ks.length).length = l ∧ l ≤ l0 + 6 ∧
      M w0 B w' (.blk gs #[.int .i64 lv, .int .i64 lk, .int .i64 hi, kv', vv'] 24 :: .row 3 1 kv' l (ints (tkK n.ks L H K n.ks.length)) :: .row 3 1 vv' l (ints (tkV n.ks n.vs L H V n.ks.length)) :: fr) := by
  obtain ⟨i0, hi0, hz0, hz1, hz2⟩ := info_parts infoInt
  obtain ⟨na, nc, rfl⟩ := As.form0 (h.holds _ (show As.row 3 1 ka n.ks.length (ints n.ks) ∈ _ by simp [hka]))
  obtain ⟨nva, nvc, rfl⟩ := As.form0 (h.holds _ (show As.row 3 1 va n.vs.length (ints n.vs) ∈ _ by simp [hva]))
  obtain ⟨m, hm⟩ : ∃ m, n.ks.length = m := ⟨_, rfl⟩
  have HRD : Hid (∀ W, M w0 B W fr → Rd W (.slice na m nc) n.ks ∧ Rd W (.slice nva m nvc) n.vs) := by
    intro W hW
    have h1 : As.holds W B (.row 3 1 (.slice na n.ks.length nc) n.ks.length (ints n.ks)) := hW.holds _ hka
    have h2 : As.holds W B (.row 3 1 (.slice nva n.vs.length nvc) n.vs.length (ints n.vs)) := hW.holds _ hva
    have r1 := owns_rd h1
    have r2 := owns_rd h2
    rw [← hn] at r2
    rw [hm] at r1 r2
    exact ⟨r1, r2⟩
  have A0 := hideIt (h.alloc #[.int .i64 n.lv, .int .i64 n.lk, .int .i64 n.hi, .slice na n.ks.length nc, .slice nva n.vs.length nvc] 24)
  rw [← hn] at A0 ⊢
  rw [hm] at h6 A0 ⊢
  have HVA := hideIt hva
  have HKL := hideIt hK
  have HVL := hideIt hV
  clear h hka hva hn hm hK hV
  go_enter Tryd.func113, Tryd.ntmps113
  go_wp2
  obtain ⟨gn, hgn⟩ : ∃ g, w.heap.size = g := ⟨_, rfl⟩
  rw [hgn] at A0 ⊢
  clear hgn
  go_loopw [8] (fun i wr => ∃ k l : Nat, ∃ kv vv : Value, k ≤ m ∧ i = .int .i64 k ∧ l ≤ l0 + k ∧ Hid ((tkK n.ks L H K k).length = l ∧ (tkV n.ks n.vs L H V k).length = l) ∧ Hid (M w0 B wr (.blk gn #[.int .i64 n.lv, .int .i64 n.lk, .int .i64 n.hi, .slice na m nc, .slice nva m nvc] 24 :: .blk gs #[.int .i64 lv, .int .i64 lk, .int .i64 hi, kv, vv] 24 :: .row 3 1 kv l (ints (tkK n.ks L H K k)) :: .row 3 1 vv l (ints (tkV n.ks n.vs L H V k)) :: fr))) (fun i _ => m - (intOf i).toNat)
  case atStart => exact ⟨0, l0, _, _, Nat.zero_le _, rfl, Nat.le_refl _, ⟨HKL.out, HVL.out⟩, A0.out⟩
  case round =>
    clear A0
    obtain ⟨k, l, kv, vv, hk, rfl, hl, hI, hM⟩ := hrel
    obtain ⟨ka2, kc2, rfl⟩ := As.form0 (hM.out.get (i := 2) rfl)
    obtain ⟨va2, vc2, rfl⟩ := As.form0 (hM.out.get (i := 3) rfl)
    have n3 := hM.out.cell (i := 0) rfl 3 (.slice na m nc) rfl
    have n4 := hM.out.cell (i := 0) rfl 4 (.slice nva m nvc) rfl
    have s5 := hM.out.cell (i := 1) rfl 3 (.slice ka2 l kc2) rfl
    have s6 := hM.out.cell (i := 1) rfl 4 (.slice va2 l vc2) rfl
    have f5 := hM.out.free (i := 1) rfl 3
    have f6 := hM.out.free (i := 1) rfl 4
    have hlg := hM.out.lt (i := 1) rfl
    have hln := hM.out.lt (i := 0) rfl
    by_cases hlt : k < m
    · obtain ⟨rk, rv⟩ := HRD.out _ ((((hM.out.sub (List.sublist_cons_self _ _)).sub (List.sublist_cons_self _ _)).sub (List.sublist_cons_self _ _)).sub (List.sublist_cons_self _ _))
      obtain ⟨b1, o1, rfl, -, x1⟩ := rk.elem k hlt
      obtain ⟨b2, o2, rfl, -, x2⟩ := rv.elem k hlt
      have y1 := x1 _ (Below.refl _ _)
      have y2 := x2 _ (Below.refl _ _)
      have hb1 := rk.blk_lt k hlt
      have hb2 := rv.blk_lt k hlt
      have HC : Hid (tkK n.ks L H K (k + 1) = (if L ≤ n.ks[k]?.getD 0 ∧ n.ks[k]?.getD 0 < H then tkK n.ks L H K k ++ [n.ks[k]?.getD 0] else tkK n.ks L H K k) ∧ tkV n.ks n.vs L H V (k + 1) = (if L ≤ n.ks[k]?.getD 0 ∧ n.ks[k]?.getD 0 < H then tkV n.ks n.vs L H V k ++ [n.vs[k]?.getD 0] else tkV n.ks n.vs L H V k)) := ⟨rfl, rfl⟩
      obtain ⟨a, ha⟩ : ∃ y, n.ks[k]?.getD 0 = y := ⟨_, rfl⟩
      obtain ⟨b, hb⟩ : ∃ y, n.vs[k]?.getD 0 = y := ⟨_, rfl⟩
      rw [ha] at y1 HC
      rw [hb] at y2 HC
      have HBV := hideIt hb
      have hb2s : b2 ≠ gs := fun e => hM.out.neMem (i := 1) rfl (show As.row 3 1 (.slice (some ⟨b2, o2, none⟩) n.vs.length nvc) n.vs.length (ints n.vs) ∈ _ by simp [HVA.out]) e.symm
      have hgns : gn ≠ gs := hM.out.bne2 (i := 0) (j := 1) rfl rfl (by omega)
      have hkk : (0 : Int) ≤ (k : Int) := by omega
      have hkl : (k : Int) < (m : Int) := by omega
      clear x1 x2 ha hb rk rv
      go_upto_region 4 with fail
      go_cut [38] from 9 to 66 (fun u wx => u = .bool (decide (L ≤ a ∧ a < H)) ∧ wx = wr)
      case first =>
        go_wp2
        all_goals
          go_meet
          case rel => exact ⟨by congr 1; rw [Bool.eq_iff_iff]; simp only [decide_eq_true_eq, Bool.false_eq_true, false_iff]; omega, rfl⟩
      case rest =>
        obtain ⟨rfl, rfl⟩ := hcut
        by_cases hd : L ≤ a ∧ a < H
        · rw [if_pos hd, if_pos hd] at HC
          have hde : decide (L ≤ a ∧ a < H) = true := decide_eq_true hd
          rw [hde]
          clear hd hde
          go_upto_region 5 with fail
          go_cut [] from 9 to 66 (fun wy => ∃ g1 cap1 : Nat, Hid (M w0 B wy (.blk gn #[.int .i64 n.lv, .int .i64 n.lk, .int .i64 n.hi, .slice (some ⟨b1, o1, none⟩) m nc, .slice (some ⟨b2, o2, none⟩) m nvc] 24 :: .blk gs #[.int .i64 lv, .int .i64 lk, .int .i64 hi, .slice (some ⟨g1, 0, none⟩) (l + 1) cap1, .slice va2 l vc2] 24 :: .row 3 1 (.slice (some ⟨g1, 0, none⟩) (l + 1) cap1) (l + 1) (ints (tkK n.ks L H K (k + 1))) :: .row 3 1 (.slice va2 l vc2) l (ints (tkV n.ks n.vs L H V k)) :: fr)))
          case first =>
            go_region_law (refine step_append_lies _ rfl _ _ 22 rfl B 3 i0 (.int .i64 0) 1 8 Tryd.underlying22 hi0 hz0 hz1 hz2 rfl (by decide) _ l (ints (tkK n.ks L H K k)) rfl (World.ownsRow.alloc (hM.out.get (i := 2) rfl) _) ⟨_, 0, none⟩ 1 1 [.int .i64 a] rfl rfl (news_one _ _ _) (by simp [Value.oneCell']) (by omega) (by unfold maxLen; omega) (by omega) (by have := hM.out.sz; simp at this ⊢; omega) _ rfl ?_; intro g1 cap1 w5 hown hgrow hat hlt1; rw [← ints_snoc, ← HC.out.1] at hown; have hm := (hM.out.allocd _).drew.lies (i := 2) rfl hown hgrow hat; clear s5 f5 s6 f6 n3 n4 y1 y2 hlg hln hb1 hb2 hown hgrow hat; have s5 := hm.cell (i := 1) rfl 3 (.slice ka2 l kc2) rfl; have f5 := hm.free (i := 1) rfl 3; have H1 := hideIt (hm.store (i := 1) (j := 3) rfl (.slice (some ⟨g1, 0, none⟩) (l + 1) cap1) rfl); clear hm)
            all_goals
              go_wp2
              go_meet
              case rel => exact ⟨g1, cap1, H1.out⟩
          case rest =>
            obtain ⟨g1, cap1, H1⟩ := hcut
            clear hM s5 s6 f5 f6 n3 n4 y1 y2 hlg hln hb1 hb2
            have n4 := H1.out.cell (i := 0) rfl 4 (.slice (some ⟨b2, o2, none⟩) m nvc) rfl
            have s6 := H1.out.cell (i := 1) rfl 4 (.slice va2 l vc2) rfl
            have f6 := H1.out.free (i := 1) rfl 4
            have hlg := H1.out.lt (i := 1) rfl
            have hln := H1.out.lt (i := 0) rfl
            obtain ⟨-, rv5⟩ := HRD.out _ ((((H1.out.sub (List.sublist_cons_self _ _)).sub (List.sublist_cons_self _ _)).sub (List.sublist_cons_self _ _)).sub (List.sublist_cons_self _ _))
            obtain ⟨b3, o3, e3, -, x3⟩ := rv5.elem k hlt
            cases e3
            have y2 := x3 _ (Below.refl _ _)
            rw [HBV.out] at y2
            have hb2 := rv5.blk_lt k hlt
            clear rv5 x3
            go_upto_region 6 with fail
            go_region_law (refine step_append_lies _ rfl _ _ 22 rfl B 3 i0 (.int .i64 0) 1 8 Tryd.underlying22 hi0 hz0 hz1 hz2 rfl (by decide) _ l (ints (tkV n.ks n.vs L H V k)) rfl (World.ownsRow.alloc (H1.out.get (i := 3) rfl) _) ⟨_, 0, none⟩ 1 1 [.int .i64 b] rfl rfl (news_one _ _ _) (by simp [Value.oneCell']) (by omega) (by unfold maxLen; omega) (by omega) (by have := H1.out.sz; simp at this ⊢; omega) _ rfl ?_; intro g2 cap2 w6 hown hgrow hat hlt2; rw [← ints_snoc, ← HC.out.2] at hown; have hm := (H1.out.allocd _).drew.lies (i := 3) rfl hown hgrow hat; clear s6 f6 n4 y2 hlg hln hb2 hown hgrow hat; have s6 := hm.cell (i := 1) rfl 4 (.slice va2 l vc2) rfl; have f6 := hm.free (i := 1) rfl 4; have H2 := hideIt (hm.store (i := 1) (j := 4) rfl (.slice (some ⟨g2, 0, none⟩) (l + 1) cap2) rfl); clear hm)
            all_goals
              go_wp2
              go_roundw
              case rel => exact ⟨k + 1, l + 1, _, _, by omega, by go_num, by omega, by unfold Hid; rw [HC.out.1, HC.out.2, List.length_append, List.length_append, hI.out.1, hI.out.2]; exact ⟨rfl, rfl⟩, H2.out⟩
              case measure => simp [intOf]; omega
        · rw [if_neg hd, if_neg hd] at HC
          have hde : decide (L ≤ a ∧ a < H) = false := decide_eq_false hd
          rw [hde]
          clear hd hde
          go_wp2
          go_roundw
          case rel => exact ⟨k + 1, l, _, _, by omega, by go_num, by omega, by unfold Hid; rw [HC.out.1, HC.out.2]; exact hI.out, by unfold Hid; rw [HC.out.1, HC.out.2]; exact hM.out⟩
          case measure => simp [intOf]; omega
    · obtain rfl : k = m := by omega
      go_wp2
      exact bodyPost_end (results_none Tryd.results113 _ _ _) rfl ⟨⟨_, rfl⟩, _, _, l, hI.out.1, hI.out.2, by omega, hM.out.sub (List.sublist_cons_self _ _)⟩
end Go.Proofs.YtjpgldeeopmbgaaDoor.Sap
