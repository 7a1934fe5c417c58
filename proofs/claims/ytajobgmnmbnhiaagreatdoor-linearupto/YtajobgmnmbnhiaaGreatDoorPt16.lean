/- WHAT IS PROVED HERE: what tree's addKeys takes over of a leaf. Conditions: named at the theorem. -/
import Derived.Test.YtajobgmnmbnhiaaGreatDoorPt12
import Derived.Test.YtajobgmnmbnhiaaGreatDoorPt15
import Derived.Test.YtajobgmnmbnhiaaGreatDoorPt18
namespace Go.Proofs.YtajobgmnmbnhiaaGreatDoor.Sap
open Go.RowKit
def adK (ks : List Int) (l v : Int) (K : List Int) : Nat → List Int
  | 0 => K
  | k + 1 => if l ≤ ks[k]?.getD 0 ∧ ks[k]?.getD 0 ≤ v ∧ (adK ks l v K k).length < 12 then adK ks l v K k ++ [ks[k]?.getD 0] else adK ks l v K k
def adV (ks vs : List Int) (l v : Int) (K V : List Int) : Nat → List Int
  | 0 => V
  | k + 1 => if l ≤ ks[k]?.getD 0 ∧ ks[k]?.getD 0 ≤ v ∧ (adK ks l v K k).length < 12 then adV ks vs l v K V k ++ [vs[k]?.getD 0] else adV ks vs l v K V k
theorem M.bne2 {w0 w : World} {B i j b g : Nat} {l : List As} {c d : Array Value} {t u : TypeId} (h : M w0 B w l) (hi : l[i]? = some (.blk b c t)) (hj : l[j]? = some (.blk g d u)) (hij : i < j) : b ≠ g := by
  intro e
  subst e
  have hil : i < l.length := (List.getElem?_eq_some_iff.1 hi).1
  have hjl : j < l.length := (List.getElem?_eq_some_iff.1 hj).1
  have hia := (List.getElem?_eq_some_iff.1 hi).2
  have hja := (List.getElem?_eq_some_iff.1 hj).2
  have := List.pairwise_iff_getElem.1 h.apart i j hil hjl hij
  rw [hia, hja] at this
  exact this b rfl rfl
theorem M.neMem {w0 w : World} {B i b g : Nat} {l : List As} {c : Array Value} {t e : TypeId} {z n m cap off : Nat} {xs : List Value} (h : M w0 B w l) (hi : l[i]? = some (.blk b c t)) (hj : .row e z (.slice (some ⟨g, off, none⟩) m cap) n xs ∈ l) : b ≠ g := by
  intro e
  subst e
  obtain ⟨j, hj⟩ := List.mem_iff_getElem?.1 hj
  have hil : i < l.length := (List.getElem?_eq_some_iff.1 hi).1
  have hjl : j < l.length := (List.getElem?_eq_some_iff.1 hj).1
  have hia := (List.getElem?_eq_some_iff.1 hi).2
  have hja := (List.getElem?_eq_some_iff.1 hj).2
  have hp := List.pairwise_iff_getElem.1 h.apart
  rcases Nat.lt_trichotomy i j with hlt | rfl | hlt
  · have := hp i j hil hjl hlt; rw [hia, hja] at this; exact this b rfl rfl
  · rw [hi] at hj; cases hj
  · have := hp j i hjl hil hlt; rw [hia, hja] at this; exact this b rfl rfl
theorem rd0 {w : World} {a : Option Addr} {c : Nat} {xs : List Int} (h : xs = []) : Rd w (.slice a 0 c) xs := by subst h; exact ⟨a, c, rfl, fun h => by simp at h⟩
set_option maxRecDepth 100000 in
set_option maxHeartbeats 6400000 in
theorem addKeys_any (gs : Nat) (s : St) (n : Nd) (kv vv bv pv ka va : Value) (ax ay : Option Addr) (cx cy : Nat) (hsp : s.sp = []) (hsv : s.sv = []) (fr : List As) (w0 w : World) (B : Nat) (hI : StI s) (hkl : s.keys.length = s.vals.length)
    (h : M w0 B w (.blk gs #[.int .i64 s.kd, .int .i64 s.key, .int .i64 s.val, .int .i64 s.step, .int .i64 s.pg, kv, vv, bv, pv, .string s.sw, .int .i64 s.ver, .slice ax 0 cx, .slice ay 0 cy, .int .i64 s.laid, .int .i64 s.lv, .int .i64 s.low, .int .i64 s.ch, .int .i64 s.pt] 92 :: .row 3 1 kv s.keys.length (ints s.keys) :: .row 3 1 vv s.keys.length (ints s.vals) :: fr))
    (hb : .row 3 1 bv s.bel.length (ints s.bel) ∈ fr) (hp : .row 3 1 pv s.pts.length (ints s.pts) ∈ fr) (hka : .row 3 1 ka n.ks.length (ints n.ks) ∈ fr) (hva : .row 3 1 va n.vs.length (ints n.vs) ∈ fr) (hn : n.ks.length = n.vs.length) (h6 : n.ks.length ≤ 6) :
    Calls Tryz.prog 103 #[.pointer (some ⟨gs, 0, none⟩), .agg #[.int .i64 n.lv, .int .i64 n.lk, .int .i64 n.hi, ka, va]] w fun e w' => (∃ u, e = .returned u) ∧ ∃ kv' vv' l, (adK n.ks (wantV s) s.val s.keys n.ks.length).length = l ∧ (adV n.ks n.vs (wantV s) s.val s.keys s.vals n.ks.length).length = l ∧
      M w0 B w' (.blk gs #[.int .i64 s.kd, .int .i64 s.key, .int .i64 s.val, .int .i64 s.step, .int .i64 s.pg, kv', vv', bv, pv, .string s.sw, .int .i64 s.ver, .slice ax 0 cx, .slice ay 0 cy, .int .i64 s.laid, .int .i64 s.lv, .int .i64 s.low, .int .i64 s.ch, .int .i64 s.pt] 92 :: .row 3 1 kv' l (ints (adK n.ks (wantV s) s.val s.keys n.ks.length)) :: .row 3 1 vv' l (ints (adV n.ks n.vs (wantV s) s.val s.keys s.vals n.ks.length)) :: fr) := by
  obtain ⟨i0, hi0, hz0, hz1, hz2⟩ := info_parts infoInt
  obtain ⟨ab, cb, rfl⟩ := As.form0 (h.holds _ (show As.row 3 1 bv s.bel.length (ints s.bel) ∈ _ by simp [hb]))
  obtain ⟨ap, cp, rfl⟩ := As.form0 (h.holds _ (show As.row 3 1 pv s.pts.length (ints s.pts) ∈ _ by simp [hp]))
  obtain ⟨na, nc, rfl⟩ := As.form0 (h.holds _ (show As.row 3 1 ka n.ks.length (ints n.ks) ∈ _ by simp [hka]))
  obtain ⟨nva, nvc, rfl⟩ := As.form0 (h.holds _ (show As.row 3 1 va n.vs.length (ints n.vs) ∈ _ by simp [hva]))
  obtain ⟨ak, ck, rfl⟩ := As.form0 (h.get (i := 1) rfl)
  obtain ⟨av, cv, rfl⟩ := As.form0 (h.get (i := 2) rfl)
  obtain ⟨m, hm⟩ : ∃ m, n.ks.length = m := ⟨_, rfl⟩
  have HRD : Hid (∀ W, M w0 B W fr → Rd W (.slice na m nc) n.ks ∧ Rd W (.slice nva m nvc) n.vs) := by
    intro W hW
    have h1 : As.holds W B (.row 3 1 (.slice na n.ks.length nc) n.ks.length (ints n.ks)) := hW.holds _ hka
    have h2 : As.holds W B (.row 3 1 (.slice nva n.vs.length nvc) n.vs.length (ints n.vs)) := hW.holds _ hva
    have r1 := owns_rd h1
    have r2 := owns_rd h2
    rw [← hn] at r2
    rw [hm] at r1 r2
    exact ⟨r1, r2⟩
  have CW : Hid (∀ W l, M w0 B W (l ++ (.blk gs #[.int .i64 s.kd, .int .i64 s.key, .int .i64 s.val, .int .i64 s.step, .int .i64 s.pg, .slice ak s.keys.length ck, .slice av s.keys.length cv, .slice ab s.bel.length cb, .slice ap s.pts.length cp, .string s.sw, .int .i64 s.ver, .slice ax 0 cx, .slice ay 0 cy, .int .i64 s.laid, .int .i64 s.lv, .int .i64 s.low, .int .i64 s.ch, .int .i64 s.pt] 92 :: .row 3 1 (.slice ak s.keys.length ck) s.keys.length (ints s.keys) :: .row 3 1 (.slice av s.keys.length cv) s.keys.length (ints s.vals) :: fr)) → StV W s (.slice ak s.keys.length ck) (.slice av s.keys.length cv) (.slice ab s.bel.length cb) (.slice ap s.pts.length cp) (.slice ax 0 cx) (.slice ay 0 cy)) := by
    intro W l hW
    have h1 : As.holds W B (.row 3 1 (.slice ak s.keys.length ck) s.keys.length (ints s.keys)) := hW.holds _ (by simp)
    have h2 : As.holds W B (.row 3 1 (.slice av s.keys.length cv) s.keys.length (ints s.vals)) := hW.holds _ (by simp)
    have h3 : As.holds W B (.row 3 1 (.slice ab s.bel.length cb) s.bel.length (ints s.bel)) := hW.holds _ (by simp [hb])
    have h4 : As.holds W B (.row 3 1 (.slice ap s.pts.length cp) s.pts.length (ints s.pts)) := hW.holds _ (by simp [hp])
    refine ⟨owns_rd h1, ?_, owns_rd h3, owns_rd h4, rd0 hsp, rd0 hsv⟩
    rw [hkl] at h2 ⊢
    exact owns_rd h2
  have A0 := hideIt (h.alloc #[.int .i64 n.lv, .int .i64 n.lk, .int .i64 n.hi, .slice na n.ks.length nc, .slice nva n.vs.length nvc] 67)
  have HI := hideIt hI
  have hkL := hI.keysL
  have HKL := hideIt hkl
  rw [← hn] at A0 ⊢
  rw [hm] at h6 A0 ⊢
  have hlt := h.lt (i := 0) rfl
  obtain ⟨L, hL⟩ : ∃ L, wantV s = L := ⟨_, rfl⟩
  have HL := hideIt hL
  rw [hL]
  have HVA := hideIt hva
  clear h hb hp hka hva hn hm hI hkl hL
  go_enter Tryz.func103, Tryz.ntmps103
  go_wp2_with (refine wpList_load_row rfl 92 _ rfl _ rfl 92 _ (0, 0) _ (A0.out.block (i := 1) rfl) Tryz.underlying92 rfl infoState ?_)
  refine (wanted_any s _ _ _ _ _ _ _ (CW.out _ [_] A0.out) HI.out).mono ?_
  rintro e w1 ⟨rfl, hb⟩
  rw [HL.out]
  have A1 := hideIt (A0.out.below hb)
  obtain ⟨gn, hgn⟩ : ∃ g, w.heap.size = g := ⟨_, rfl⟩
  rw [hgn] at A1 ⊢
  clear hb A0 hlt hgn CW
  go_wp2
  go_loopw [5] (fun i wr => ∃ k l : Nat, ∃ kv vv : Value, k ≤ m ∧ i = .int .i64 k ∧ l ≤ s.keys.length + k ∧ Hid ((adK n.ks L s.val s.keys k).length = l ∧ (adV n.ks n.vs L s.val s.keys s.vals k).length = l) ∧ Hid (M w0 B wr (.blk gn #[.int .i64 n.lv, .int .i64 n.lk, .int .i64 n.hi, .slice na m nc, .slice nva m nvc] 67 :: .blk gs #[.int .i64 s.kd, .int .i64 s.key, .int .i64 s.val, .int .i64 s.step, .int .i64 s.pg, kv, vv, .slice ab s.bel.length cb, .slice ap s.pts.length cp, .string s.sw, .int .i64 s.ver, .slice ax 0 cx, .slice ay 0 cy, .int .i64 s.laid, .int .i64 s.lv, .int .i64 s.low, .int .i64 s.ch, .int .i64 s.pt] 92 :: .row 3 1 kv l (ints (adK n.ks L s.val s.keys k)) :: .row 3 1 vv l (ints (adV n.ks n.vs L s.val s.keys s.vals k)) :: fr))) (fun i _ => m - (intOf i).toNat)
  case atStart => exact ⟨0, s.keys.length, _, _, Nat.zero_le _, rfl, Nat.le_refl _, ⟨rfl, HKL.out.symm⟩, A1.out⟩
  case round =>
    clear A1
    obtain ⟨k, l, kv, vv, hk, rfl, hl, hI, hM⟩ := hrel
    obtain ⟨ka2, kc2, rfl⟩ := As.form0 (hM.out.get (i := 2) rfl)
    obtain ⟨va2, vc2, rfl⟩ := As.form0 (hM.out.get (i := 3) rfl)
    have n3 := hM.out.cell (i := 0) rfl 3 (.slice na m nc) rfl
    have n4 := hM.out.cell (i := 0) rfl 4 (.slice nva m nvc) rfl
    have s2 := hM.out.cell (i := 1) rfl 2 (.int .i64 s.val) rfl
    have s5 := hM.out.cell (i := 1) rfl 5 (.slice ka2 l kc2) rfl
    have s6 := hM.out.cell (i := 1) rfl 6 (.slice va2 l vc2) rfl
    have f5 := hM.out.free (i := 1) rfl 5
    have f6 := hM.out.free (i := 1) rfl 6
    have hlg := hM.out.lt (i := 1) rfl
    have hln := hM.out.lt (i := 0) rfl
    by_cases hlt : k < m
    · obtain ⟨rk, rv⟩ := HRD.out _ ((((hM.out.sub (List.sublist_cons_self _ _)).sub (List.sublist_cons_self _ _)).sub (List.sublist_cons_self _ _)).sub (List.sublist_cons_self _ _))
      obtain ⟨b1, o1, rfl, -, x1⟩ := rk.elem k hlt
      obtain ⟨b2, o2, rfl, -, x2⟩ := rv.elem k hlt
      have y1 := x1 _ (Below.refl _ _)
      have y2 := x2 _ (Below.refl _ _)
      have hb2 := rv.blk_lt k hlt
      have HC : Hid (adK n.ks L s.val s.keys (k + 1) = (if L ≤ n.ks[k]?.getD 0 ∧ n.ks[k]?.getD 0 ≤ s.val ∧ (adK n.ks L s.val s.keys k).length < 12 then adK n.ks L s.val s.keys k ++ [n.ks[k]?.getD 0] else adK n.ks L s.val s.keys k) ∧ adV n.ks n.vs L s.val s.keys s.vals (k + 1) = (if L ≤ n.ks[k]?.getD 0 ∧ n.ks[k]?.getD 0 ≤ s.val ∧ (adK n.ks L s.val s.keys k).length < 12 then adV n.ks n.vs L s.val s.keys s.vals k ++ [n.vs[k]?.getD 0] else adV n.ks n.vs L s.val s.keys s.vals k)) := ⟨rfl, rfl⟩
      obtain ⟨a, ha⟩ : ∃ y, n.ks[k]?.getD 0 = y := ⟨_, rfl⟩
      obtain ⟨b, hb⟩ : ∃ y, n.vs[k]?.getD 0 = y := ⟨_, rfl⟩
      rw [ha] at y1 HC
      rw [hb] at y2 HC
      have HBV := hideIt hb
      have hb2s : b2 ≠ gs := fun e => hM.out.neMem (i := 1) rfl (show As.row 3 1 (.slice (some ⟨b2, o2, none⟩) n.vs.length nvc) n.vs.length (ints n.vs) ∈ _ by simp [HVA.out]) e.symm
      have hgns : gn ≠ gs := hM.out.bne2 (i := 0) (j := 1) rfl rfl (by omega)
      rw [hI.out.1] at HC
      have hkk : (0 : Int) ≤ (k : Int) := by omega
      have hkl : (k : Int) < (m : Int) := by omega
      clear x1 x2 ha hb rk rv
      go_upto_region 6 with fail
      go_cut [49] from 11 to 73 (fun u wx => u = .bool (decide (L ≤ a ∧ a ≤ s.val ∧ l < 12)) ∧ wx = wr)
      case first =>
        go_wp2
        all_goals
          go_meet
          case rel => exact ⟨by congr 1; rw [Bool.eq_iff_iff]; simp only [decide_eq_true_eq, Bool.false_eq_true, false_iff]; omega, rfl⟩
      case rest =>
        obtain ⟨rfl, rfl⟩ := hcut
        by_cases hd : L ≤ a ∧ a ≤ s.val ∧ l < 12
        · rw [if_pos hd, if_pos hd] at HC
          have hde : decide (L ≤ a ∧ a ≤ s.val ∧ l < 12) = true := decide_eq_true hd
          rw [hde]
          clear hd hde
          go_upto_region 8 with (at_builtin; refine wpList_append_lies _ rfl _ _ 22 rfl B 3 i0 (.int .i64 0) 1 8 Tryz.underlying22 hi0 hz0 hz1 hz2 rfl (by decide) _ l (ints (adK n.ks L s.val s.keys k)) rfl (World.ownsRow.alloc (hM.out.get (i := 2) rfl) _) ⟨_, 0, none⟩ 1 1 [.int .i64 a] rfl rfl (news_one _ _ _) (by simp [Value.oneCell']) (by omega) (by unfold maxLen; omega) (by omega) (by have := hM.out.sz; simp at this ⊢; omega) _ rfl ?_; intro g1 cap1 w5 hown hgrow hat hlt1; rw [← ints_snoc, ← HC.out.1] at hown; have hm := (hM.out.allocd _).lies (i := 2) rfl hown hgrow hat; clear s5 f5 s6 f6 n3 n4 s2 y1 y2 hlg hln hown hgrow hat; have s5 := hm.cell (i := 1) rfl 5 (.slice ka2 l kc2) rfl; have f5 := hm.free (i := 1) rfl 5; have s6 := hm.cell (i := 1) rfl 6 (.slice va2 l vc2) rfl; have f6 := hm.free (i := 1) rfl 6; have n4 := hm.cell (i := 0) rfl 4 (.slice (some ⟨b2, o2, none⟩) m nvc) rfl; have hlg := hm.lt (i := 1) rfl; have hln := hm.lt (i := 0) rfl; obtain ⟨-, rv5⟩ := HRD.out _ ((((hm.sub (List.sublist_cons_self _ _)).sub (List.sublist_cons_self _ _)).sub (List.sublist_cons_self _ _)).sub (List.sublist_cons_self _ _)); obtain ⟨b3, o3, e3, -, x3⟩ := rv5.elem k hlt; cases e3; have y2 := x3 _ (Below.refl _ _); rw [HBV.out] at y2; have hb25 := rv5.blk_lt k hlt; clear rv5 x3; have H1 := hideIt (hm.store (i := 1) (j := 5) rfl (.slice (some ⟨g1, 0, none⟩) (l + 1) cap1) rfl); clear hm)
          go_region_law (refine step_append_lies _ rfl _ _ 22 rfl B 3 i0 (.int .i64 0) 1 8 Tryz.underlying22 hi0 hz0 hz1 hz2 rfl (by decide) _ l (ints (adV n.ks n.vs L s.val s.keys s.vals k)) rfl (World.ownsRow.alloc (H1.out.get (i := 3) rfl) _) ⟨_, 0, none⟩ 1 1 [.int .i64 b] rfl rfl (by have := news_one (w5.setCell ⟨gs, 5, none⟩ (.slice (some ⟨g1, 0, none⟩) (l + 1) cap1)) (.int .i64 b) 3; simpa using this) (by simp [Value.oneCell']) (by omega) (by unfold maxLen; omega) (by omega) (by have := H1.out.sz; simp at this ⊢; omega) _ rfl ?_; intro g2 cap2 w6 hown hgrow hat hlt2; rw [← ints_snoc, ← HC.out.2] at hown; have hm := (H1.out.allocd _).drew.lies (i := 3) rfl hown hgrow hat; clear s5 f5 s6 f6 n4 y2 hlg hln hb25 hown hgrow hat; have s6 := hm.cell (i := 1) rfl 6 (.slice va2 l vc2) rfl; have f6 := hm.free (i := 1) rfl 6; have H2 := hideIt (hm.store (i := 1) (j := 6) rfl (.slice (some ⟨g2, 0, none⟩) (l + 1) cap2) rfl); clear hm)
          all_goals
            go_wp2
            go_roundw
            case rel => exact ⟨k + 1, l + 1, _, _, by omega, by go_num, by omega, by unfold Hid; rw [HC.out.1, HC.out.2, List.length_append, List.length_append, hI.out.1, hI.out.2]; exact ⟨rfl, rfl⟩, H2.out⟩
            case measure => simp [intOf]; omega
        · rw [if_neg hd, if_neg hd] at HC
          have hde : decide (L ≤ a ∧ a ≤ s.val ∧ l < 12) = false := decide_eq_false hd
          rw [hde]
          clear hd hde
          go_wp2
          go_roundw
          case rel => exact ⟨k + 1, l, _, _, by omega, by go_num, by omega, by unfold Hid; rw [HC.out.1, HC.out.2]; exact hI.out, by unfold Hid; rw [HC.out.1, HC.out.2]; exact hM.out⟩
          case measure => simp [intOf]; omega
    · obtain rfl : k = m := by omega
      go_wp2
      exact bodyPost_end (results_none Tryz.results103 _ _ _) rfl ⟨⟨_, rfl⟩, _, _, l, hI.out.1, hI.out.2, hM.out.sub (List.sublist_cons_self _ _)⟩
set_option maxRecDepth 100000 in
set_option maxHeartbeats 6400000 in
theorem takeOver_any (gs l0 : Nat) (n : Nd) (lv lk hi L H : Int) (K V : List Int) (kv vv ka va : Value) (fr : List As) (w0 w : World) (B : Nat) (hK : K.length = l0) (hV : V.length = l0) (hl0 : l0 ≤ 12)
    (h : M w0 B w (.blk gs #[.int .i64 lv, .int .i64 lk, .int .i64 hi, kv, vv] 67 :: .row 3 1 kv l0 (ints K) :: .row 3 1 vv l0 (ints V) :: fr))
    (hka : .row 3 1 ka n.ks.length (ints n.ks) ∈ fr) (hva : .row 3 1 va n.vs.length (ints n.vs) ∈ fr) (hn : n.ks.length = n.vs.length) (h6 : n.ks.length ≤ 7) :
    Calls Tryz.prog 101 #[.pointer (some ⟨gs, 0, none⟩), .agg #[.int .i64 n.lv, .int .i64 n.lk, .int .i64 n.hi, ka, va], .int .i64 L, .int .i64 H] w fun e w' => (∃ u, e = .returned u) ∧ ∃ kv' vv' l, (tkK n.ks L H K n.ks.length).length = l ∧ (tkV n.ks n.vs L H V n.ks.length).length = l ∧ l ≤ l0 + 7 ∧
      M w0 B w' (.blk gs #[.int .i64 lv, .int .i64 lk, .int .i64 hi, kv', vv'] 67 :: .row 3 1 kv' l (ints (tkK n.ks L H K n.ks.length)) :: .row 3 1 vv' l (ints (tkV n.ks n.vs L H V n.ks.length)) :: fr) := by
  obtain ⟨i0, hi0, hz0, hz1, hz2⟩ := info_parts infoInt
  obtain ⟨na, nc, rfl⟩ := As.form0 (h.holds _ (show As.row 3 1 ka n.ks.length (ints n.ks) ∈ _ by simp [hka]))
  obtain ⟨nva, nvc, rfl⟩ := As.form0 (h.holds _ (show As.row 3 1 va n.vs.length (ints n.vs) ∈ _ by simp [hva]))
  obtain ⟨m, hm⟩ : ∃ m, n.ks.length = m := ⟨_, rfl⟩
  have HRD : Hid (∀ W, M w0 B W fr → Rd W (.slice na m nc) n.ks ∧ Rd W (.slice nva m nvc) n.vs) := by
    intro W hW
    have h1 : As.holds W B (.row 3 1 (.slice na n.ks.length nc) n.ks.length (ints n.ks)) := hW.holds _ hka
    have h2 : As.holds W B (.row 3 1 (.slice nva n.vs.length nvc) n.vs.length (ints n.vs)) := hW.holds _ hva
    have r1 := owns_rd h1
    have r2 := owns_rd h2
    rw [← hn] at r2
    rw [hm] at r1 r2
    exact ⟨r1, r2⟩
  have A0 := hideIt (h.alloc #[.int .i64 n.lv, .int .i64 n.lk, .int .i64 n.hi, .slice na n.ks.length nc, .slice nva n.vs.length nvc] 67)
  rw [← hn] at A0 ⊢
  rw [hm] at h6 A0 ⊢
  have HVA := hideIt hva
  have HKL := hideIt hK
  have HVL := hideIt hV
  clear h hka hva hn hm hK hV
  go_enter Tryz.func101, Tryz.ntmps101
  go_wp2
  obtain ⟨gn, hgn⟩ : ∃ g, w.heap.size = g := ⟨_, rfl⟩
  rw [hgn] at A0 ⊢
  clear hgn
  go_loopw [8] (fun i wr => ∃ k l : Nat, ∃ kv vv : Value, k ≤ m ∧ i = .int .i64 k ∧ l ≤ l0 + k ∧ Hid ((tkK n.ks L H K k).length = l ∧ (tkV n.ks n.vs L H V k).length = l) ∧ Hid (M w0 B wr (.blk gn #[.int .i64 n.lv, .int .i64 n.lk, .int .i64 n.hi, .slice na m nc, .slice nva m nvc] 67 :: .blk gs #[.int .i64 lv, .int .i64 lk, .int .i64 hi, kv, vv] 67 :: .row 3 1 kv l (ints (tkK n.ks L H K k)) :: .row 3 1 vv l (ints (tkV n.ks n.vs L H V k)) :: fr))) (fun i _ => m - (intOf i).toNat)
  case atStart => exact ⟨0, l0, _, _, Nat.zero_le _, rfl, Nat.le_refl _, ⟨HKL.out, HVL.out⟩, A0.out⟩
  case round =>
    clear A0
    obtain ⟨k, l, kv, vv, hk, rfl, hl, hI, hM⟩ := hrel
    obtain ⟨ka2, kc2, rfl⟩ := As.form0 (hM.out.get (i := 2) rfl)
    obtain ⟨va2, vc2, rfl⟩ := As.form0 (hM.out.get (i := 3) rfl)
    have n3 := hM.out.cell (i := 0) rfl 3 (.slice na m nc) rfl
    have n4 := hM.out.cell (i := 0) rfl 4 (.slice nva m nvc) rfl
    have s5 := hM.out.cell (i := 1) rfl 3 (.slice ka2 l kc2) rfl
    have s6 := hM.out.cell (i := 1) rfl 4 (.slice va2 l vc2) rfl
    have f5 := hM.out.free (i := 1) rfl 3
    have f6 := hM.out.free (i := 1) rfl 4
    have hlg := hM.out.lt (i := 1) rfl
    have hln := hM.out.lt (i := 0) rfl
    by_cases hlt : k < m
    · obtain ⟨rk, rv⟩ := HRD.out _ ((((hM.out.sub (List.sublist_cons_self _ _)).sub (List.sublist_cons_self _ _)).sub (List.sublist_cons_self _ _)).sub (List.sublist_cons_self _ _))
      obtain ⟨b1, o1, rfl, -, x1⟩ := rk.elem k hlt
      obtain ⟨b2, o2, rfl, -, x2⟩ := rv.elem k hlt
      have y1 := x1 _ (Below.refl _ _)
      have y2 := x2 _ (Below.refl _ _)
      have hb1 := rk.blk_lt k hlt
      have hb2 := rv.blk_lt k hlt
      have HC : Hid (tkK n.ks L H K (k + 1) = (if L ≤ n.ks[k]?.getD 0 ∧ n.ks[k]?.getD 0 < H then tkK n.ks L H K k ++ [n.ks[k]?.getD 0] else tkK n.ks L H K k) ∧ tkV n.ks n.vs L H V (k + 1) = (if L ≤ n.ks[k]?.getD 0 ∧ n.ks[k]?.getD 0 < H then tkV n.ks n.vs L H V k ++ [n.vs[k]?.getD 0] else tkV n.ks n.vs L H V k)) := ⟨rfl, rfl⟩
      obtain ⟨a, ha⟩ : ∃ y, n.ks[k]?.getD 0 = y := ⟨_, rfl⟩
      obtain ⟨b, hb⟩ : ∃ y, n.vs[k]?.getD 0 = y := ⟨_, rfl⟩
      rw [ha] at y1 HC
      rw [hb] at y2 HC
      have HBV := hideIt hb
      have hb2s : b2 ≠ gs := fun e => hM.out.neMem (i := 1) rfl (show As.row 3 1 (.slice (some ⟨b2, o2, none⟩) n.vs.length nvc) n.vs.length (ints n.vs) ∈ _ by simp [HVA.out]) e.symm
      have hgns : gn ≠ gs := hM.out.bne2 (i := 0) (j := 1) rfl rfl (by omega)
      have hkk : (0 : Int) ≤ (k : Int) := by omega
      have hkl : (k : Int) < (m : Int) := by omega
      clear x1 x2 ha hb rk rv
      go_upto_region 4 with fail
      go_cut [38] from 9 to 66 (fun u wx => u = .bool (decide (L ≤ a ∧ a < H)) ∧ wx = wr)
      case first =>
        go_wp2
        all_goals
          go_meet
          case rel => exact ⟨by congr 1; rw [Bool.eq_iff_iff]; simp only [decide_eq_true_eq, Bool.false_eq_true, false_iff]; omega, rfl⟩
      case rest =>
        obtain ⟨rfl, rfl⟩ := hcut
        by_cases hd : L ≤ a ∧ a < H
        · rw [if_pos hd, if_pos hd] at HC
          have hde : decide (L ≤ a ∧ a < H) = true := decide_eq_true hd
          rw [hde]
          clear hd hde
          go_upto_region 5 with fail
          go_cut [] from 9 to 66 (fun wy => ∃ g1 cap1 : Nat, Hid (M w0 B wy (.blk gn #[.int .i64 n.lv, .int .i64 n.lk, .int .i64 n.hi, .slice (some ⟨b1, o1, none⟩) m nc, .slice (some ⟨b2, o2, none⟩) m nvc] 67 :: .blk gs #[.int .i64 lv, .int .i64 lk, .int .i64 hi, .slice (some ⟨g1, 0, none⟩) (l + 1) cap1, .slice va2 l vc2] 67 :: .row 3 1 (.slice (some ⟨g1, 0, none⟩) (l + 1) cap1) (l + 1) (ints (tkK n.ks L H K (k + 1))) :: .row 3 1 (.slice va2 l vc2) l (ints (tkV n.ks n.vs L H V k)) :: fr)))
          case first =>
            go_region_law (refine step_append_lies _ rfl _ _ 22 rfl B 3 i0 (.int .i64 0) 1 8 Tryz.underlying22 hi0 hz0 hz1 hz2 rfl (by decide) _ l (ints (tkK n.ks L H K k)) rfl (World.ownsRow.alloc (hM.out.get (i := 2) rfl) _) ⟨_, 0, none⟩ 1 1 [.int .i64 a] rfl rfl (news_one _ _ _) (by simp [Value.oneCell']) (by omega) (by unfold maxLen; omega) (by omega) (by have := hM.out.sz; simp at this ⊢; omega) _ rfl ?_; intro g1 cap1 w5 hown hgrow hat hlt1; rw [← ints_snoc, ← HC.out.1] at hown; have hm := (hM.out.allocd _).drew.lies (i := 2) rfl hown hgrow hat; clear s5 f5 s6 f6 n3 n4 y1 y2 hlg hln hb1 hb2 hown hgrow hat; have s5 := hm.cell (i := 1) rfl 3 (.slice ka2 l kc2) rfl; have f5 := hm.free (i := 1) rfl 3; have H1 := hideIt (hm.store (i := 1) (j := 3) rfl (.slice (some ⟨g1, 0, none⟩) (l + 1) cap1) rfl); clear hm)
            all_goals
              go_wp2
              go_meet
              case rel => exact ⟨g1, cap1, H1.out⟩
          case rest =>
            obtain ⟨g1, cap1, H1⟩ := hcut
            clear hM s5 s6 f5 f6 n3 n4 y1 y2 hlg hln hb1 hb2
            have n4 := H1.out.cell (i := 0) rfl 4 (.slice (some ⟨b2, o2, none⟩) m nvc) rfl
            have s6 := H1.out.cell (i := 1) rfl 4 (.slice va2 l vc2) rfl
            have f6 := H1.out.free (i := 1) rfl 4
            have hlg := H1.out.lt (i := 1) rfl
            have hln := H1.out.lt (i := 0) rfl
            obtain ⟨-, rv5⟩ := HRD.out _ ((((H1.out.sub (List.sublist_cons_self _ _)).sub (List.sublist_cons_self _ _)).sub (List.sublist_cons_self _ _)).sub (List.sublist_cons_self _ _))
            obtain ⟨b3, o3, e3, -, x3⟩ := rv5.elem k hlt
            cases e3
            have y2 := x3 _ (Below.refl _ _)
            rw [HBV.out] at y2
            have hb2 := rv5.blk_lt k hlt
            clear rv5 x3
            go_upto_region 6 with fail
            go_region_law (refine step_append_lies _ rfl _ _ 22 rfl B 3 i0 (.int .i64 0) 1 8 Tryz.underlying22 hi0 hz0 hz1 hz2 rfl (by decide) _ l (ints (tkV n.ks n.vs L H V k)) rfl (World.ownsRow.alloc (H1.out.get (i := 3) rfl) _) ⟨_, 0, none⟩ 1 1 [.int .i64 b] rfl rfl (news_one _ _ _) (by simp [Value.oneCell']) (by omega) (by unfold maxLen; omega) (by omega) (by have := H1.out.sz; simp at this ⊢; omega) _ rfl ?_; intro g2 cap2 w6 hown hgrow hat hlt2; rw [← ints_snoc, ← HC.out.2] at hown; have hm := (H1.out.allocd _).drew.lies (i := 3) rfl hown hgrow hat; clear s6 f6 n4 y2 hlg hln hb2 hown hgrow hat; have s6 := hm.cell (i := 1) rfl 4 (.slice va2 l vc2) rfl; have f6 := hm.free (i := 1) rfl 4; have H2 := hideIt (hm.store (i := 1) (j := 4) rfl (.slice (some ⟨g2, 0, none⟩) (l + 1) cap2) rfl); clear hm)
            all_goals
              go_wp2
              go_roundw
              case rel => exact ⟨k + 1, l + 1, _, _, by omega, by go_num, by omega, by unfold Hid; rw [HC.out.1, HC.out.2, List.length_append, List.length_append, hI.out.1, hI.out.2]; exact ⟨rfl, rfl⟩, H2.out⟩
              case measure => simp [intOf]; omega
        · rw [if_neg hd, if_neg hd] at HC
          have hde : decide (L ≤ a ∧ a < H) = false := decide_eq_false hd
          rw [hde]
          clear hd hde
          go_wp2
          go_roundw
          case rel => exact ⟨k + 1, l, _, _, by omega, by go_num, by omega, by unfold Hid; rw [HC.out.1, HC.out.2]; exact hI.out, by unfold Hid; rw [HC.out.1, HC.out.2]; exact hM.out⟩
          case measure => simp [intOf]; omega
    · obtain rfl : k = m := by omega
      go_wp2
      exact bodyPost_end (results_none Tryz.results101 _ _ _) rfl ⟨⟨_, rfl⟩, _, _, l, hI.out.1, hI.out.2, by omega, hM.out.sub (List.sublist_cons_self _ _)⟩
def AtP (T : List ByteArray) (a b q : Nat) (n : Nd) : Prop := a ≤ q ∧ q < b ∧ ∃ t, T[q]? = some t ∧ Unp t.data.toList n
theorem AtP.uniq {T : List ByteArray} {a b c d q : Nat} {n m : Nd} (h : AtP T a b q n) (k : AtP T c d q m) : n = m := by
  obtain ⟨-, -, t, h1, h2⟩ := h
  obtain ⟨-, -, s, k1, k2⟩ := k
  rw [h1] at k1; cases k1
  exact h2.uniq k2
theorem AtP.mono {T T' : List ByteArray} {a b a' b' q : Nat} {n : Nd} (h : AtP T a b q n) (ha : a' ≤ a) (hb : b ≤ b') (hT : ∀ i, a ≤ i → i < b → T'[i]? = T[i]?) : AtP T' a' b' q n := by
  obtain ⟨h1, h2, t, h3, h4⟩ := h
  exact ⟨by omega, by omega, t, by rw [hT q h1 h2]; exact h3, h4⟩
structure Stp (P : Nat → Nd → Prop) (KV : List (Int × Int)) (rk : Nat → Nat) (lo : Nat → Int) (p : Nat) (n : Nd) : Prop where
  link : n.hi ≠ 10000 → ∃ (q : Nat) (m : Nd), n.lk = (q : Int) ∧ P q m ∧ m.lv = n.lv ∧ lo q = n.hi ∧ rk q < rk p
  kids : n.lv ≠ 0 → n.ks[0]? = some (lo p) ∧ ∀ (i : Nat) (k c : Int), n.ks[i]? = some k → n.vs[i]? = some c → ∃ (q : Nat) (m : Nd), c = (q : Int) ∧ P q m ∧ lo q = k ∧ rk q < rk p
  leaf : n.lv = 0 → KV.filter (fun x => decide (lo p ≤ x.1) && decide (x.1 < n.hi)) = n.ks.zip n.vs
structure Pl (T : List ByteArray) (p0 : Nat) (KV : List (Int × Int)) (rk : Nat → Nat) (lo : Nat → Int) : Prop where
  ok : ∀ p, 1 ≤ p → p < p0 → ∃ n, AtP T 1 p0 p n ∧ Stp (AtP T 1 p0) KV rk lo p n
  rk : ∀ p, 1 ≤ p → p < p0 → rk p + 1 < p0
structure Pe (T : List ByteArray) (p0 : Nat) (KV : List (Int × Int)) (lo : Nat → Int) (ns : List Nv) (L : Int) : Prop where
  nz : ns ≠ []
  lv : ∀ x ∈ ns, x.n.lv = L
  ne : ∀ (i : Nat) (x : Nv), 0 < i → ns[i]? = some x → x.n.ks ≠ []
  kids : L ≠ 0 → ∀ (i : Nat) (x : Nv), ns[i]? = some x → x.n.ks[0]? = some (bnd ns i) ∧ ∀ (j : Nat) (k c : Int), x.n.ks[j]? = some k → x.n.vs[j]? = some c → ∃ (q : Nat) (m : Nd), c = (q : Int) ∧ AtP T 1 p0 q m ∧ lo q = k
  leaf : L = 0 → ∀ (i : Nat) (x : Nv), ns[i]? = some x → KV.filter (fun y => decide (bnd ns i ≤ y.1) && decide (y.1 < hiOf ns i)) = x.n.ks.zip x.n.vs
theorem linkN_at (ns : List Nv) (f : Int) (i : Nat) : (linkN ns f)[i]? = (ns[i]?).map (lnk ns f i) := by
  unfold linkN linkUp
  rw [List.getElem?_mapIdx]
  cases h : ns[i]? with
  | none => rfl
  | some x =>
    have := (List.getElem?_eq_some_iff.1 h).1
    simp [this]
def rk2 (rk : Nat → Nat) (p0 n : Nat) (p : Nat) : Nat := if p0 ≤ p then (p0 - 1) + (n - 1 - (p - p0)) else rk p
def lo2 (lo : Nat → Int) (ns : List Nv) (p0 : Nat) (p : Nat) : Int := if p0 ≤ p then bnd ns (p - p0) else lo p
theorem Stp.mono {T T' : List ByteArray} {p0 q0 : Nat} {KV : List (Int × Int)} {rk : Nat → Nat} {lo : Nat → Int} {ns : List Nv} {n : Nat} {p : Nat} {x : Nd} (h : Stp (AtP T 1 p0) KV rk lo p x) (hp : p < p0) (hq : p0 ≤ q0) (hT : ∀ i, 1 ≤ i → i < p0 → T'[i]? = T[i]?) :
    Stp (AtP T' 1 q0) KV (rk2 rk p0 n) (lo2 lo ns p0) p x := by
  have e1 : ∀ q, q < p0 → rk2 rk p0 n q = rk q := fun q hq => by unfold rk2; rw [if_neg (by omega)]
  have e2 : ∀ q, q < p0 → lo2 lo ns p0 q = lo q := fun q hq => by unfold lo2; rw [if_neg (by omega)]
  refine ⟨fun hh => ?_, fun hh => ?_, fun hh => ?_⟩
  · obtain ⟨q, m, a1, a2, a3, a4, a5⟩ := h.link hh
    have hq2 := a2.2.1
    exact ⟨q, m, a1, a2.mono (Nat.le_refl _) hq hT, a3, by rw [e2 q hq2]; exact a4, by rw [e1 q hq2, e1 p hp]; exact a5⟩
  · obtain ⟨b1, b2⟩ := h.kids hh
    refine ⟨by rw [e2 p hp]; exact b1, fun i k c h1 h2 => ?_⟩
    obtain ⟨q, m, a1, a2, a3, a4⟩ := b2 i k c h1 h2
    have hq2 := a2.2.1
    exact ⟨q, m, a1, a2.mono (Nat.le_refl _) hq hT, by rw [e2 q hq2]; exact a3, by rw [e1 q hq2, e1 p hp]; exact a4⟩
  · rw [e2 p hp]; exact h.leaf hh
theorem Pl.place {T T' : List ByteArray} {p0 : Nat} {KV : List (Int × Int)} {rk : Nat → Nat} {lo : Nat → Int} {ns : List Nv} {lv : Int} (h : Pl T p0 KV rk lo) (he : Pe T p0 KV lo ns lv) (hp0 : 1 ≤ p0)
    (hT : ∀ i, 1 ≤ i → i < p0 → T'[i]? = T[i]?) (hN : ∀ i x, (linkN ns (p0 : Int))[i]? = some x → ∃ t, T'[p0 + i]? = some t ∧ Unp t.data.toList x.n) :
    Pl T' (p0 + ns.length) KV (rk2 rk p0 ns.length) (lo2 lo ns p0) := by
  have hAt : ∀ i, i < ns.length → ∃ x, ns[i]? = some x ∧ AtP T' 1 (p0 + ns.length) (p0 + i) (lnk ns (p0 : Int) i x).n := by
    intro i hi
    have hx : ns[i]? = some ns[i] := List.getElem?_eq_getElem hi
    obtain ⟨t, t1, t2⟩ := hN i (lnk ns (p0 : Int) i ns[i]) (by rw [linkN_at, hx]; rfl)
    exact ⟨ns[i], hx, by omega, by omega, t, t1, t2⟩
  refine ⟨fun p h1 h2 => ?_, fun p h1 h2 => ?_⟩
  · rcases Nat.lt_or_ge p p0 with hlt | hge
    · obtain ⟨n, a1, a2⟩ := h.ok p h1 hlt
      exact ⟨n, a1.mono (Nat.le_refl _) (by omega) hT, a2.mono hlt (by omega) hT⟩
    · obtain ⟨i, rfl⟩ : ∃ i, p = p0 + i := ⟨p - p0, by omega⟩
      have hi : i < ns.length := by omega
      obtain ⟨x, hx, hA⟩ := hAt i hi
      have hlvx : x.n.lv = lv := he.lv x (List.mem_of_getElem? hx)
      have er : rk2 rk p0 ns.length (p0 + i) = (p0 - 1) + (ns.length - 1 - i) := by unfold rk2; rw [if_pos (by omega)]; congr 1; omega
      have el : lo2 lo ns p0 (p0 + i) = bnd ns i := by unfold lo2; rw [if_pos (by omega)]; congr 1; omega
      refine ⟨_, hA, fun hh => ?_, fun hh => ?_, fun hh => ?_⟩
      · have hi1 : i + 1 < ns.length := by
          rcases Nat.lt_or_ge (i + 1) ns.length with h' | h'
          · exact h'
          · exfalso; apply hh; show hiOf ns i = 10000; unfold hiOf; rw [if_neg (by omega)]
        obtain ⟨y, hy, hB⟩ := hAt (i + 1) hi1
        have hlvy : y.n.lv = lv := he.lv y (List.mem_of_getElem? hy)
        refine ⟨p0 + (i + 1), _, ?_, hB, ?_, ?_, ?_⟩
        · show lkOf ns (p0 : Int) i = _; unfold lkOf; rw [if_pos hi1]; omega
        · show y.n.lv = x.n.lv; rw [hlvx, hlvy]
        · show lo2 lo ns p0 (p0 + (i + 1)) = hiOf ns i
          unfold lo2 hiOf; rw [if_pos (by omega), if_pos hi1]; congr 1; omega
        · rw [er]; unfold rk2; rw [if_pos (by omega)]; omega
      · have hl : lv ≠ 0 := fun e => hh (by show x.n.lv = 0; rw [hlvx, e])
        obtain ⟨b1, b2⟩ := he.kids hl i x hx
        refine ⟨by rw [el]; exact b1, fun j k c h3 h4 => ?_⟩
        obtain ⟨q, m, a1, a2, a3⟩ := b2 j k c h3 h4
        have hq2 := a2.2.1
        have hq1 := a2.1
        have := h.rk q hq1 hq2
        refine ⟨q, m, a1, a2.mono (Nat.le_refl _) (by omega) hT, ?_, ?_⟩
        · unfold lo2; rw [if_neg (by omega)]; exact a3
        · rw [er]; unfold rk2; rw [if_neg (by omega)]; omega
      · have hl : lv = 0 := by rw [← hlvx]; exact hh
        rw [el]
        exact he.leaf hl i x hx
  · unfold rk2
    split
    · omega
    · have := h.rk p h1 (by omega); omega
theorem mem_zip_key {a b : List Int} {x : Int × Int} (h : x ∈ a.zip b) : x.1 ∈ a := (List.of_mem_zip h).1
theorem Pl.start (T : List ByteArray) (KV : List (Int × Int)) (rk : Nat → Nat) (lo : Nat → Int) : Pl T 1 KV rk lo := ⟨fun p h1 h2 => by omega, fun p h1 h2 => by omega⟩
theorem zip_at {a b : List Int} {i : Nat} {x y : Int} (ha : a[i]? = some x) (hb : b[i]? = some y) : (x, y) ∈ a.zip b := by
  refine List.mem_of_getElem? (i := i) ?_
  rw [List.getElem?_zip_eq_some]; exact ⟨ha, hb⟩
end Go.Proofs.YtajobgmnmbnhiaaGreatDoor.Sap
