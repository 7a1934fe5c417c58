/- WHAT IS PROVED HERE: what tree's addKeys takes over of a leaf. Conditions: named at the theorem. -/
import Derived.Test.YtajobgmnmbnhiaaDoorPt14
import Derived.Test.YtajobgmnmbnhiaaDoorPt16
import Derived.Deep.RegionHeld3
namespace Go.Proofs.YtajobgmnmbnhiaaDoor.Sap
open Go.RowKit
def adK (ks : List Int) (l v : Int) (K : List Int) : Nat → List Int
  | 0 => K
  | k + 1 => if l ≤ ks[k]?.getD 0 ∧ ks[k]?.getD 0 ≤ v ∧ (adK ks l v K k).length < 12 then adK ks l v K k ++ [ks[k]?.getD 0] else adK ks l v K k
def adV (ks vs : List Int) (l v : Int) (K V : List Int) : Nat → List Int
  | 0 => V
  | k + 1 => if l ≤ ks[k]?.getD 0 ∧ ks[k]?.getD 0 ≤ v ∧ (adK ks l v K k).length < 12 then adV ks vs l v K V k ++ [vs[k]?.getD 0] else adV ks vs l v K V k
theorem M.bne2 {w0 w : World} {B i j b g : Nat} {l : List As} {c d : Array Value} {t u : TypeId} (h : M w0 B w l) (hi : l[i]? = some (.blk b c t)) (hj : l[j]? = some (.blk g d u)) (hij : i < j) : b ≠ g := by
  intro e
  subst e
  have hil : i < l.length := (List.getElem?_eq_some_iff.1 hi).1
  have hjl : j < l.length := (List.getElem?_eq_some_iff.1 hj).1
  have hia := (List.getElem?_eq_some_iff.1 hi).2
  have hja := (List.getElem?_eq_some_iff.1 hj).2
  have := List.pairwise_iff_getElem.1 h.apart i j hil hjl hij
  rw [hia, hja] at this
  exact this b rfl rfl
theorem M.neMem {w0 w : World} {B i b g : Nat} {l : List As} {c : Array Value} {t e : TypeId} {z n m cap off : Nat} {xs : List Value} (h : M w0 B w l) (hi : l[i]? = some (.blk b c t)) (hj : .row e z (.slice (some ⟨g, off, none⟩) m cap) n xs ∈ l) : b ≠ g := by
  intro e
  subst e
  obtain ⟨j, hj⟩ := List.mem_iff_getElem?.1 hj
  have hil : i < l.length := (List.getElem?_eq_some_iff.1 hi).1
  have hjl : j < l.length := (List.getElem?_eq_some_iff.1 hj).1
  have hia := (List.getElem?_eq_some_iff.1 hi).2
  have hja := (List.getElem?_eq_some_iff.1 hj).2
  have hp := List.pairwise_iff_getElem.1 h.apart
  rcases Nat.lt_trichotomy i j with hlt | rfl | hlt
  · have := hp i j hil hjl hlt; rw [hia, hja] at this; exact this b rfl rfl
  · rw [hi] at hj; cases hj
  · have := hp j i hjl hil hlt; rw [hia, hja] at this; exact this b rfl rfl
theorem rd0 {w : World} {a : Option Addr} {c : Nat} {xs : List Int} (h : xs = []) : Rd w (.slice a 0 c) xs := by subst h; exact ⟨a, c, rfl, fun h => by simp at h⟩
set_option maxRecDepth 100000 in
set_option maxHeartbeats 6400000 in
theorem addKeys_any (gs : Nat) (s : St) (n : Nd) (kv vv bv pv ka va : Value) (ax ay : Option Addr) (cx cy : Nat) (hsp : s.sp = []) (hsv : s.sv = []) (fr : List As) (w0 w : World) (B : Nat) (hI : StI s) (hkl : s.keys.length = s.vals.length)
    (h : M w0 B w (.blk gs #[.int .i64 s.kd, .int .i64 s.key, .int .i64 s.val, .int .i64 s.step, .int .i64 s.pg, kv, vv, bv, pv, .string s.sw, .int .i64 s.ver, .slice ax 0 cx, .slice ay 0 cy, .int .i64 s.laid, .int .i64 s.lv, .int .i64 s.low, .int .i64 s.ch, .int .i64 s.pt] 98 :: .row 3 1 kv s.keys.length (ints s.keys) :: .row 3 1 vv s.keys.length (ints s.vals) :: fr))
    (hb : .row 3 1 bv s.bel.length (ints s.bel) ∈ fr) (hp : .row 3 1 pv s.pts.length (ints s.pts) ∈ fr) (hka : .row 3 1 ka n.ks.length (ints n.ks) ∈ fr) (hva : .row 3 1 va n.vs.length (ints n.vs) ∈ fr) (hn : n.ks.length = n.vs.length) (h6 : n.ks.length ≤ 6) :
    Calls Tryd.prog 115 #[.pointer (some ⟨gs, 0, none⟩), .agg #[.int .i64 n.lv, .int .i64 n.lk, .int .i64 n.hi, ka, va]] w fun e w' => (∃ u, e = .returned u) ∧ ∃ kv' vv' l, (adK n.ks (wantV s) s.val s.keys n.ks.length).length = l ∧ (adV n.ks n.vs (wantV s) s.val s.keys s.vals n.ks.length).length = l ∧
      M w0 B w' (.blk gs #[.int .i64 s.kd, .int .i64 s.key, .int .i64 s.val, .int .i64 s.step, .int .i64 s.pg, kv', vv', bv, pv, .string s.sw, .int .i64 s.ver, .slice ax 0 cx, .slice ay 0 cy, .int .i64 s.laid, .int .i64 s.lv, .int .i64 s.low, .int .i64 s.ch, .int .i64 s.pt] 98 :: .row 3 1 kv' l (ints (adK n.ks (wantV s) s.val s.keys n.ks.length)) :: .row 3 1 vv' l (ints (adV n.ks n.vs (wantV s) s.val s.keys s.vals n.ks.length)) :: fr) := by
  obtain ⟨i0, hi0, hz0, hz1, hz2⟩ := info_parts infoInt
  obtain ⟨ab, cb, rfl⟩ := As.form0 (h.holds _ (show As.row 3 1 bv s.bel.length (ints s.bel) ∈ _ by simp [hb]))
  obtain ⟨ap, cp, rfl⟩ := As.form0 (h.holds _ (show As.row 3 1 pv s.pts.length (ints s.pts) ∈ _ by simp [hp]))
  obtain ⟨na, nc, rfl⟩ := As.form0 (h.holds _ (show As.row 3 1 ka n.ks.length (ints n.ks) ∈ _ by simp [hka]))
  obtain ⟨nva, nvc, rfl⟩ := As.form0 (h.holds _ (show As.row 3 1 va n.vs.length (ints n.vs) ∈ _ by simp [hva]))
  obtain ⟨ak, ck, rfl⟩ := As.form0 (h.get (i := 1) rfl)
  obtain ⟨av, cv, rfl⟩ := As.form0 (h.get (i := 2) rfl)
  obtain ⟨m, hm⟩ : ∃ m, n.ks.length = m := ⟨_, rfl⟩
  have HRD : Hid (∀ W, M w0 B W fr → Rd W (.slice na m nc) n.ks ∧ Rd W (.slice nva m nvc) n.vs) := by
    intro W hW
    have h1 : As.holds W B (.row 3 1 (.slice na n.ks.length nc) n.ks.length (ints n.ks)) := hW.holds _ hka
    have h2 : As.holds W B (.row 3 1 (.slice nva n.vs.length nvc) n.vs.length (ints n.vs)) := hW.holds _ hva
    have r1 := owns_rd h1
    have r2 := owns_rd h2
    rw [← hn] at r2
    rw [hm] at r1 r2
    exact ⟨r1, r2⟩
  have CW : Hid (∀ W l, M w0 B W (l ++ (.blk gs #[.int .i64 s.kd, .int .i64 s.key, .int .i64 s.val, .int .i64 s.step, .int .i64 s.pg, .slice ak s.keys.length ck, .slice av s.keys.length cv, .slice ab s.bel.length cb, .slice ap s.pts.length cp, .string s.sw, .int .i64 s.ver, .slice ax 0 cx, .slice ay 0 cy, .int .i64 s.laid, .int .i64 s.lv, .int .i64 s.low, .int .i64 s.ch, .int .i64 s.pt] 98 :: .row 3 1 (.slice ak s.keys.length ck) s.keys.length (ints s.keys) :: .row 3 1 (.slice av s.keys.length cv) s.keys.length (ints s.vals) :: fr)) → StV W s (.slice ak s.keys.length ck) (.slice av s.keys.length cv) (.slice ab s.bel.length cb) (.slice ap s.pts.length cp) (.slice ax 0 cx) (.slice ay 0 cy)) := by
    intro W l hW
    have h1 : As.holds W B (.row 3 1 (.slice ak s.keys.length ck) s.keys.length (ints s.keys)) := hW.holds _ (by simp)
    have h2 : As.holds W B (.row 3 1 (.slice av s.keys.length cv) s.keys.length (ints s.vals)) := hW.holds _ (by simp)
    have h3 : As.holds W B (.row 3 1 (.slice ab s.bel.length cb) s.bel.length (ints s.bel)) := hW.holds _ (by simp [hb])
    have h4 : As.holds W B (.row 3 1 (.slice ap s.pts.length cp) s.pts.length (ints s.pts)) := hW.holds _ (by simp [hp])
    refine ⟨owns_rd h1, ?_, owns_rd h3, owns_rd h4, rd0 hsp, rd0 hsv⟩
    rw [hkl] at h2 ⊢
    exact owns_rd h2
  have A0 := hideIt (h.alloc #[.int .i64 n.lv, .int .i64 n.lk, .int .i64 n.hi, .slice na n.ks.length nc, .slice nva n.vs.length nvc] 24)
  have HI := hideIt hI
  have hkL := hI.keysL
  have HKL := hideIt hkl
  rw [← hn] at A0 ⊢
  rw [hm] at h6 A0 ⊢
  have hlt := h.lt (i := 0) rfl
  obtain ⟨L, hL⟩ : ∃ L, wantV s = L := ⟨_, rfl⟩
  have HL := hideIt hL
  rw [hL]
  have HVA := hideIt hva
  clear h hb hp hka hva hn hm hI hkl hL
  go_enter Tryd.func115, Tryd.ntmps115
  go_wp2_with (refine wpList_load_row rfl 98 _ rfl _ rfl 98 _ (0, 0) _ (A0.out.block (i := 1) rfl) Tryd.underlying98 rfl infoState ?_)
  refine (wanted_any s _ _ _ _ _ _ _ (CW.out _ [_] A0.out) HI.out).mono ?_
  rintro e w1 ⟨rfl, hb⟩
  rw [HL.out]
  have A1 := hideIt (A0.out.below hb)
  obtain ⟨gn, hgn⟩ : ∃ g, w.heap.size = g := ⟨_, rfl⟩
  rw [hgn] at A1 ⊢
  clear hb A0 hlt hgn CW
  go_wp2
  go_loopw [5] (fun i wr => ∃ k l : Nat, ∃ kv vv : Value, k ≤ m ∧ i = .int .i64 k ∧ l ≤ s.keys.length + k ∧ Hid ((adK n.ks L s.val s.keys k).length = l ∧ (adV n.ks n.vs L s.val s.keys s.vals k).length = l) ∧ Hid (M w0 B wr (.blk gn #[.int .i64 n.lv, .int .i64 n.lk, .int .i64 n.hi, .slice na m nc, .slice nva m nvc] 24 :: .blk gs #[.int .i64 s.kd, .int .i64 s.key, .int .i64 s.val, .int .i64 s.step, .int .i64 s.pg, kv, vv, .slice ab s.bel.length cb, .slice ap s.pts.length cp, .string s.sw, .int .i64 s.ver, .slice ax 0 cx, .slice ay 0 cy, .int .i64 s.laid, .int .i64 s.lv, .int .i64 s.low, .int .i64 s.ch, .int .i64 s.pt] 98 :: .row 3 1 kv l (ints (adK n.ks L s.val s.keys k)) :: .row 3 1 vv l (ints (adV n.ks n.vs L s.val s.keys s.vals k)) :: fr))) (fun i _ => m - (intOf i).toNat)
  case atStart => exact ⟨0, s.keys.length, _, _, Nat.zero_le _, rfl, Nat.le_refl _, ⟨rfl, HKL.out.symm⟩, A1.out⟩
  case round =>
    clear A1
    obtain ⟨k, l, kv, vv, hk, rfl, hl, hI, hM⟩ := hrel
    obtain ⟨ka2, kc2, rfl⟩ := As.form0 (hM.out.get (i := 2) rfl)
    obtain ⟨va2, vc2, rfl⟩ := As.form0 (hM.out.get (i := 3) rfl)
    have n3 := hM.out.cell (i := 0) rfl 3 (.slice na m nc) rfl
    have n4 := hM.out.cell (i := 0) rfl 4 (.slice nva m nvc) rfl
    have s2 := hM.out.cell (i := 1) rfl 2 (.int .i64 s.val) rfl
    have s5 := hM.out.cell (i := 1) rfl 5 (.slice ka2 l kc2) rfl
    have s6 := hM.out.cell (i := 1) rfl 6 (.slice va2 l vc2) rfl
    have f5 := hM.out.free (i := 1) rfl 5
    have f6 := hM.out.free (i := 1) rfl 6
    have hlg := hM.out.lt (i := 1) rfl
    have hln := hM.out.lt (i := 0) rfl
    by_cases hlt : k < m
    · obtain ⟨rk, rv⟩ := HRD.out _ ((((hM.out.sub (List.sublist_cons_self _ _)).sub (List.sublist_cons_self _ _)).sub (List.sublist_cons_self _ _)).sub (List.sublist_cons_self _ _))
      obtain ⟨b1, o1, rfl, -, x1⟩ := rk.elem k hlt
      obtain ⟨b2, o2, rfl, -, x2⟩ := rv.elem k hlt
      have y1 := x1 _ (Below.refl _ _)
      have y2 := x2 _ (Below.refl _ _)
      have hb2 := rv.blk_lt k hlt
      have HC : Hid (adK n.ks L s.val s.keys (k + 1) = (if L ≤ n.ks[k]?.getD 0 ∧ n.ks[k]?.getD 0 ≤ s.val ∧ (adK n.ks L s.val s.keys k).length < 12 then adK n.ks L s.val s.keys k ++ [n.ks[k]?.getD 0] else adK n.ks L s.val s.keys k) ∧ adV n.ks n.vs L s.val s.keys s.vals (k + 1) = (if L ≤ n.ks[k]?.getD 0 ∧ n.ks[k]?.getD 0 ≤ s.val ∧ (adK n.ks L s.val s.keys k).length < 12 then adV n.ks n.vs L s.val s.keys s.vals k ++ [n.vs[k]?.getD 0] else adV n.ks n.vs L s.val s.keys s.vals k)) := ⟨rfl, rfl⟩
      obtain ⟨a, ha⟩ : ∃ y, n.ks[k]?.getD 0 = y := ⟨_, rfl⟩
      obtain ⟨b, hb⟩ : ∃ y, n.vs[k]?.getD 0 = y := ⟨_, rfl⟩
      rw [ha] at y1 HC
      rw [hb] at y2 HC
      have HBV := hideIt hb
      have hb2s : b2 ≠ gs := fun e => hM.out.neMem (i := 1) rfl (show As.row 3 1 (.slice (some ⟨b2, o2, none⟩) n.vs.length nvc) n.vs.length (ints n.vs) ∈ _ by simp [HVA.out]) e.symm
      have hgns : gn ≠ gs := hM.out.bne2 (i := 0) (j := 1) rfl rfl (by omega)
      rw [hI.out.1] at HC
      have hkk : (0 : Int) ≤ (k : Int) := by omega
      have hkl : (k : Int) < (m : Int) := by omega
      clear x1 x2 ha hb rk rv
      go_upto_region 6 with fail
      go_cut [49] from 11 to 73 (fun u wx => u = .bool (decide (L ≤ a ∧ a ≤ s.val ∧ l < 12)) ∧ wx = wr)
      case first =>
        go_wp2
        all_goals
          go_meet
          case rel => exact ⟨by congr 1; rw [Bool.eq_iff_iff]; simp only [decide_eq_true_eq, Bool.false_eq_true, false_iff]; omega, rfl⟩
      case rest =>
        obtain ⟨rfl, rfl⟩ := hcut
        by_cases hd : L ≤ a ∧ a ≤ s.val ∧ l < 12
        · rw [if_pos hd, if_pos hd] at HC
          have hde : decide (L ≤ a ∧ a ≤ s.val ∧ l < 12) = true := decide_eq_true hd
          rw [hde]
          clear hd hde
          go_upto_region 8 with (at_builtin; refine wpList_append_lies _ rfl _ _ 22 rfl B 3 i0 (.int .i64 0) 1 8 Tryd.underlying22 hi0 hz0 hz1 hz2 rfl (by decide) _ l (ints (adK n.ks L s.val s.keys k)) rfl (World.ownsRow.alloc (hM.out.get (i := 2) rfl) _) ⟨_, 0, none⟩ 1 1 [.int .i64 a] rfl rfl (news_one _ _ _) (by simp [Value.oneCell']) (by omega) (by unfold maxLen; omega) (by omega) (by have := hM.out.sz; simp at this ⊢; omega) _ rfl ?_; intro g1 cap1 w5 hown hgrow hat hlt1; rw [← ints_snoc, ← HC.out.1] at hown; have hm := (hM.out.allocd _).lies (i := 2) rfl hown hgrow hat; clear s5 f5 s6 f6 n3 n4 s2 y1 y2 hlg hln hown hgrow hat; have s5 := hm.cell (i := 1) rfl 5 (.slice ka2 l kc2) rfl; have f5 := hm.free (i := 1) rfl 5; have s6 := hm.cell (i := 1) rfl 6 (.slice va2 l vc2) rfl; have f6 := hm.free (i := 1) rfl 6; have n4 := hm.cell (i := 0) rfl 4 (.slice (some ⟨b2, o2, none⟩) m nvc) rfl; have hlg := hm.lt (i := 1) rfl; have hln := hm.lt (i := 0) rfl; obtain ⟨-, rv5⟩ := HRD.out _ ((((hm.sub (List.sublist_cons_self _ _)).sub (List.sublist_cons_self _ _)).sub (List.sublist_cons_self _ _)).sub (List.sublist_cons_self _ _)); obtain ⟨b3, o3, e3, -, x3⟩ := rv5.elem k hlt; cases e3; have y2 := x3 _ (Below.refl _ _); rw [HBV.out] at y2; have hb25 := rv5.blk_lt k hlt; clear rv5 x3; have H1 := hideIt (hm.store (i := 1) (j := 5) rfl (.slice (some ⟨g1, 0, none⟩) (l + 1) cap1) rfl); clear hm)
          go_region_law (refine step_append_lies _ rfl _ _ 22 rfl B 3 i0 (.int .i64 0) 1 8 Tryd.underlying22 hi0 hz0 hz1 hz2 rfl (by decide) _ l (ints (adV n.ks n.vs L s.val s.keys s.vals k)) rfl (World.ownsRow.alloc (H1.out.get (i := 3) rfl) _) ⟨_, 0, none⟩ 1 1 [.int .i64 b] rfl rfl (by have := news_one (w5.setCell ⟨gs, 5, none⟩ (.slice (some ⟨g1, 0, none⟩) (l + 1) cap1)) (.int .i64 b) 3; simpa using this) (by simp [Value.oneCell']) (by omega) (by unfold maxLen; omega) (by omega) (by have := H1.out.sz; simp at this ⊢; omega) _ rfl ?_; intro g2 cap2 w6 hown hgrow hat hlt2; rw [← ints_snoc, ← HC.out.2] at hown; have hm := (H1.out.allocd _).drew.lies (i := 3) rfl hown hgrow hat; clear s5 f5 s6 f6 n4 y2 hlg hln hb25 hown hgrow hat; have s6 := hm.cell (i := 1) rfl 6 (.slice va2 l vc2) rfl; have f6 := hm.free (i := 1) rfl 6; have H2 := hideIt (hm.store (i := 1) (j := 6) rfl (.slice (some ⟨g2, 0, none⟩) (l + 1) cap2) rfl); clear hm)
          all_goals
            go_wp2
            go_roundw
            case rel => exact ⟨k + 1, l + 1, _, _, by omega, by go_num, by omega, by unfold Hid; rw [HC.out.1, HC.out.2, List.length_append, List.length_append, hI.out.1, hI.out.2]; exact ⟨rfl, rfl⟩, H2.out⟩
            case measure => simp [intOf]; omega
        · rw [if_neg hd, if_neg hd] at HC
          have hde : decide (L ≤ a ∧ a ≤ s.val ∧ l < 12) = false := decide_eq_false hd
          rw [hde]
          clear hd hde
          go_wp2
          go_roundw
          case rel => exact ⟨k + 1, l, _, _, by omega, by go_num, by omega, by unfold Hid; rw [HC.out.1, HC.out.2]; exact hI.out, by unfold Hid; rw [HC.out.1, HC.out.2]; exact hM.out⟩
          case measure => simp [intOf]; omega
    · obtain rfl : k = m := by omega
      go_wp2
      exact bodyPost_end (results_none Tryd.results115 _ _ _) rfl ⟨⟨_, rfl⟩, _, _, l, hI.out.1, hI.out.2, hM.out.sub (List.sublist_cons_self _ _)⟩
set_option maxRecDepth 100000 in
set_option maxHeartbeats 6400000 in
theorem takeOver_any (gs l0 : Nat) (n : Nd) (lv lk hi L H : Int) (K V : List Int) (kv vv ka va : Value) (fr : List As) (w0 w : World) (B : Nat) (hK : K.length = l0) (hV : V.length = l0) (hl0 : l0 ≤ 12)
    (h : M w0 B w (.blk gs #[.int .i64 lv, .int .i64 lk, .int .i64 hi, kv, vv] 24 :: .row 3 1 kv l0 (ints K) :: .row 3 1 vv l0 (ints V) :: fr))
    (hka : .row 3 1 ka n.ks.length (ints n.ks) ∈ fr) (hva : .row 3 1 va n.vs.length (ints n.vs) ∈ fr) (hn : n.ks.length = n.vs.length) (h6 : n.ks.length ≤ 7) :
    Calls Tryd.prog 100 #[.pointer (some ⟨gs, 0, none⟩), .agg #[.int .i64 n.lv, .int .i64 n.lk, .int .i64 n.hi, ka, va], .int .i64 L, .int .i64 H] w fun e w' => (∃ u, e = .returned u) ∧ ∃ kv' vv' l, (tkK n.ks L H K n.ks.length).length = l ∧ (tkV n.ks n.vs L H V n.ks.length).length = l ∧ l ≤ l0 + 7 ∧
      M w0 B w' (.blk gs #[.int .i64 lv, .int .i64 lk, .int .i64 hi, kv', vv'] 24 :: .row 3 1 kv' l (ints (tkK n.ks L H K n.ks.length)) :: .row 3 1 vv' l (ints (tkV n.ks n.vs L H V n.ks.length)) :: fr) := by
  obtain ⟨i0, hi0, hz0, hz1, hz2⟩ := info_parts infoInt
  obtain ⟨na, nc, rfl⟩ := As.form0 (h.holds _ (show As.row 3 1 ka n.ks.length (ints n.ks) ∈ _ by simp [hka]))
  obtain ⟨nva, nvc, rfl⟩ := As.form0 (h.holds _ (show As.row 3 1 va n.vs.length (ints n.vs) ∈ _ by simp [hva]))
  obtain ⟨m, hm⟩ : ∃ m, n.ks.length = m := ⟨_, rfl⟩
  have HRD : Hid (∀ W, M w0 B W fr → Rd W (.slice na m nc) n.ks ∧ Rd W (.slice nva m nvc) n.vs) := by
    intro W hW
    have h1 : As.holds W B (.row 3 1 (.slice na n.ks.length nc) n.ks.length (ints n.ks)) := hW.holds _ hka
    have h2 : As.holds W B (.row 3 1 (.slice nva n.vs.length nvc) n.vs.length (ints n.vs)) := hW.holds _ hva
    have r1 := owns_rd h1
    have r2 := owns_rd h2
    rw [← hn] at r2
    rw [hm] at r1 r2
    exact ⟨r1, r2⟩
  have A0 := hideIt (h.alloc #[.int .i64 n.lv, .int .i64 n.lk, .int .i64 n.hi, .slice na n.ks.length nc, .slice nva n.vs.length nvc] 24)
  rw [← hn] at A0 ⊢
  rw [hm] at h6 A0 ⊢
  have HVA := hideIt hva
  have HKL := hideIt hK
  have HVL := hideIt hV
  clear h hka hva hn hm hK hV
  go_enter Tryd.func100, Tryd.ntmps100
  go_wp2
  obtain ⟨gn, hgn⟩ : ∃ g, w.heap.size = g := ⟨_, rfl⟩
  rw [hgn] at A0 ⊢
  clear hgn
  go_loopw [8] (fun i wr => ∃ k l : Nat, ∃ kv vv : Value, k ≤ m ∧ i = .int .i64 k ∧ l ≤ l0 + k ∧ Hid ((tkK n.ks L H K k).length = l ∧ (tkV n.ks n.vs L H V k).length = l) ∧ Hid (M w0 B wr (.blk gn #[.int .i64 n.lv, .int .i64 n.lk, .int .i64 n.hi, .slice na m nc, .slice nva m nvc] 24 :: .blk gs #[.int .i64 lv, .int .i64 lk, .int .i64 hi, kv, vv] 24 :: .row 3 1 kv l (ints (tkK n.ks L H K k)) :: .row 3 1 vv l (ints (tkV n.ks n.vs L H V k)) :: fr))) (fun i _ => m - (intOf i).toNat)
  case atStart => exact ⟨0, l0, _, _, Nat.zero_le _, rfl, Nat.le_refl _, ⟨HKL.out, HVL.out⟩, A0.out⟩
  case round =>
    clear A0
    obtain ⟨k, l, kv, vv, hk, rfl, hl, hI, hM⟩ := hrel
    obtain ⟨ka2, kc2, rfl⟩ := As.form0 (hM.out.get (i := 2) rfl)
    obtain ⟨va2, vc2, rfl⟩ := As.form0 (hM.out.get (i := 3) rfl)
    have n3 := hM.out.cell (i := 0) rfl 3 (.slice na m nc) rfl
    have n4 := hM.out.cell (i := 0) rfl 4 (.slice nva m nvc) rfl
    have s5 := hM.out.cell (i := 1) rfl 3 (.slice ka2 l kc2) rfl
    have s6 := hM.out.cell (i := 1) rfl 4 (.slice va2 l vc2) rfl
    have f5 := hM.out.free (i := 1) rfl 3
    have f6 := hM.out.free (i := 1) rfl 4
    have hlg := hM.out.lt (i := 1) rfl
    have hln := hM.out.lt (i := 0) rfl
    by_cases hlt : k < m
    · obtain ⟨rk, rv⟩ := HRD.out _ ((((hM.out.sub (List.sublist_cons_self _ _)).sub (List.sublist_cons_self _ _)).sub (List.sublist_cons_self _ _)).sub (List.sublist_cons_self _ _))
      obtain ⟨b1, o1, rfl, -, x1⟩ := rk.elem k hlt
      obtain ⟨b2, o2, rfl, -, x2⟩ := rv.elem k hlt
      have y1 := x1 _ (Below.refl _ _)
      have y2 := x2 _ (Below.refl _ _)
      have hb1 := rk.blk_lt k hlt
      have hb2 := rv.blk_lt k hlt
      have HC : Hid (tkK n.ks L H K (k + 1) = (if L ≤ n.ks[k]?.getD 0 ∧ n.ks[k]?.getD 0 < H then tkK n.ks L H K k ++ [n.ks[k]?.getD 0] else tkK n.ks L H K k) ∧ tkV n.ks n.vs L H V (k + 1) = (if L ≤ n.ks[k]?.getD 0 ∧ n.ks[k]?.getD 0 < H then tkV n.ks n.vs L H V k ++ [n.vs[k]?.getD 0] else tkV n.ks n.vs L H V k)) := ⟨rfl, rfl⟩
      obtain ⟨a, ha⟩ : ∃ y, n.ks[k]?.getD 0 = y := ⟨_, rfl⟩
      obtain ⟨b, hb⟩ : ∃ y, n.vs[k]?.getD 0 = y := ⟨_, rfl⟩
      rw [ha] at y1 HC
      rw [hb] at y2 HC
      have HBV := hideIt hb
      have hb2s : b2 ≠ gs := fun e => hM.out.neMem (i := 1) rfl (show As.row 3 1 (.slice (some ⟨b2, o2, none⟩) n.vs.length nvc) n.vs.length (ints n.vs) ∈ _ by simp [HVA.out]) e.symm
      have hgns : gn ≠ gs := hM.out.bne2 (i := 0) (j := 1) rfl rfl (by omega)
      have hkk : (0 : Int) ≤ (k : Int) := by omega
      have hkl : (k : Int) < (m : Int) := by omega
      clear x1 x2 ha hb rk rv
      go_upto_region 4 with fail
      go_cut [38] from 9 to 66 (fun u wx => u = .bool (decide (L ≤ a ∧ a < H)) ∧ wx = wr)
      case first =>
        go_wp2
        all_goals
          go_meet
          case rel => exact ⟨by congr 1; rw [Bool.eq_iff_iff]; simp only [decide_eq_true_eq, Bool.false_eq_true, false_iff]; omega, rfl⟩
      case rest =>
        obtain ⟨rfl, rfl⟩ := hcut
        by_cases hd : L ≤ a ∧ a < H
        · rw [if_pos hd, if_pos hd] at HC
          have hde : decide (L ≤ a ∧ a < H) = true := decide_eq_true hd
          rw [hde]
          clear hd hde
          go_upto_region 5 with fail
          go_cut [] from 9 to 66 (fun wy => ∃ g1 cap1 : Nat, Hid (M w0 B wy (.blk gn #[.int .i64 n.lv, .int .i64 n.lk, .int .i64 n.hi, .slice (some ⟨b1, o1, none⟩) m nc, .slice (some ⟨b2, o2, none⟩) m nvc] 24 :: .blk gs #[.int .i64 lv, .int .i64 lk, .int .i64 hi, .slice (some ⟨g1, 0, none⟩) (l + 1) cap1, .slice va2 l vc2] 24 :: .row 3 1 (.slice (some ⟨g1, 0, none⟩) (l + 1) cap1) (l + 1) (ints (tkK n.ks L H K (k + 1))) :: .row 3 1 (.slice va2 l vc2) l (ints (tkV n.ks n.vs L H V k)) :: fr)))
          case first =>
            go_region_law (refine step_append_lies _ rfl _ _ 22 rfl B 3 i0 (.int .i64 0) 1 8 Tryd.underlying22 hi0 hz0 hz1 hz2 rfl (by decide) _ l (ints (tkK n.ks L H K k)) rfl (World.ownsRow.alloc (hM.out.get (i := 2) rfl) _) ⟨_, 0, none⟩ 1 1 [.int .i64 a] rfl rfl (news_one _ _ _) (by simp [Value.oneCell']) (by omega) (by unfold maxLen; omega) (by omega) (by have := hM.out.sz; simp at this ⊢; omega) _ rfl ?_; intro g1 cap1 w5 hown hgrow hat hlt1; rw [← ints_snoc, ← HC.out.1] at hown; have hm := (hM.out.allocd _).drew.lies (i := 2) rfl hown hgrow hat; clear s5 f5 s6 f6 n3 n4 y1 y2 hlg hln hb1 hb2 hown hgrow hat; have s5 := hm.cell (i := 1) rfl 3 (.slice ka2 l kc2) rfl; have f5 := hm.free (i := 1) rfl 3; have H1 := hideIt (hm.store (i := 1) (j := 3) rfl (.slice (some ⟨g1, 0, none⟩) (l + 1) cap1) rfl); clear hm)
            all_goals
              go_wp2
              go_meet
              case rel => exact ⟨g1, cap1, H1.out⟩
          case rest =>
            obtain ⟨g1, cap1, H1⟩ := hcut
            clear hM s5 s6 f5 f6 n3 n4 y1 y2 hlg hln hb1 hb2
            have n4 := H1.out.cell (i := 0) rfl 4 (.slice (some ⟨b2, o2, none⟩) m nvc) rfl
            have s6 := H1.out.cell (i := 1) rfl 4 (.slice va2 l vc2) rfl
            have f6 := H1.out.free (i := 1) rfl 4
            have hlg := H1.out.lt (i := 1) rfl
            have hln := H1.out.lt (i := 0) rfl
            obtain ⟨-, rv5⟩ := HRD.out _ ((((H1.out.sub (List.sublist_cons_self _ _)).sub (List.sublist_cons_self _ _)).sub (List.sublist_cons_self _ _)).sub (List.sublist_cons_self _ _))
            obtain ⟨b3, o3, e3, -, x3⟩ := rv5.elem k hlt
            cases e3
            have y2 := x3 _ (Below.refl _ _)
            rw [HBV.out] at y2
            have hb2 := rv5.blk_lt k hlt
            clear rv5 x3
            go_upto_region 6 with fail
            go_region_law (refine step_append_lies _ rfl _ _ 22 rfl B 3 i0 (.int .i64 0) 1 8 Tryd.underlying22 hi0 hz0 hz1 hz2 rfl (by decide) _ l (ints (tkV n.ks n.vs L H V k)) rfl (World.ownsRow.alloc (H1.out.get (i := 3) rfl) _) ⟨_, 0, none⟩ 1 1 [.int .i64 b] rfl rfl (news_one _ _ _) (by simp [Value.oneCell']) (by omega) (by unfold maxLen; omega) (by omega) (by have := H1.out.sz; simp at this ⊢; omega) _ rfl ?_; intro g2 cap2 w6 hown hgrow hat hlt2; rw [← ints_snoc, ← HC.out.2] at hown; have hm := (H1.out.allocd _).drew.lies (i := 3) rfl hown hgrow hat; clear s6 f6 n4 y2 hlg hln hb2 hown hgrow hat; have s6 := hm.cell (i := 1) rfl 4 (.slice va2 l vc2) rfl; have f6 := hm.free (i := 1) rfl 4; have H2 := hideIt (hm.store (i := 1) (j := 4) rfl (.slice (some ⟨g2, 0, none⟩) (l + 1) cap2) rfl); clear hm)
            all_goals
              go_wp2
              go_roundw
              case rel => exact ⟨k + 1, l + 1, _, _, by omega, by go_num, by omega, by unfold Hid; rw [HC.out.1, HC.out.2, List.length_append, List.length_append, hI.out.1, hI.out.2]; exact ⟨rfl, rfl⟩, H2.out⟩
              case measure => simp [intOf]; omega
        · rw [if_neg hd, if_neg hd] at HC
          have hde : decide (L ≤ a ∧ a < H) = false := decide_eq_false hd
          rw [hde]
          clear hd hde
          go_wp2
          go_roundw
          case rel => exact ⟨k + 1, l, _, _, by omega, by go_num, by omega, by unfold Hid; rw [HC.out.1, HC.out.2]; exact hI.out, by unfold Hid; rw [HC.out.1, HC.out.2]; exact hM.out⟩
          case measure => simp [intOf]; omega
    · obtain rfl : k = m := by omega
      go_wp2
      exact bodyPost_end (results_none Tryd.results100 _ _ _) rfl ⟨⟨_, rfl⟩, _, _, l, hI.out.1, hI.out.2, by omega, hM.out.sub (List.sublist_cons_self _ _)⟩
def scK (s : St) (n : Nd) : List Int := adK n.ks (wantV s) s.val s.keys n.ks.length
def scV (s : St) (n : Nd) : List Int := adV n.ks n.vs (wantV s) s.val s.keys s.vals n.ks.length
def scB (s : St) (n : Nd) : Int := if 12 ≤ (scK s n).length then (scK s n).getLast?.getD 0 + 1 else if s.val + 1 < n.hi then s.val + 1 else n.hi
def scS (s : St) (n : Nd) : St := { s with keys := scK s n, vals := scV s n, bel := s.bel ++ [scB s n], pts := s.pts ++ [s.step] }
def scEnd (s : St) (n : Nd) : Bool := decide (12 ≤ (scK s n).length) || decide (scB s n = s.val + 1)
def scO (s : St) (n : Nd) : Out := if scEnd s n then .fin (decide (0 < (scK s n).length)) (scK s n).length s.step (scK s n) (scV s n) ((scS s n).bel.zip (scS s n).pts) else .on { scS s n with pg := n.lk, step := s.step + 1 }
theorem adK_len (ks : List Int) (l v : Int) (K : List Int) (k : Nat) (h : K.length ≤ 12) : (adK ks l v K k).length ≤ 12 := by
  induction k with
  | zero => exact h
  | succ k ih =>
    unfold adK
    split
    · rename_i hc; rw [List.length_append]; simp; omega
    · exact ih
def rng (a b : Int) (x : Int × Int) : Bool := decide (a ≤ x.1) && decide (x.1 < b)
def Asc (Z : List (Int × Int)) : Prop := Z.Pairwise (fun x y => x.1 < y.1)
theorem asc_filter {Z : List (Int × Int)} (p : Int × Int → Bool) (h : Asc Z) : Asc (Z.filter p) := List.Pairwise.filter p h
theorem filter_take {Z : List (Int × Int)} {a c : Int} {n : Nat} {y : Int × Int} (hZ : Asc Z) (hy : ((Z.filter (rng a c)).take n).getLast? = some y) : Z.filter (rng a (y.1 + 1)) = (Z.filter (rng a c)).take n := by
  obtain ⟨F, hF⟩ : ∃ F, Z.filter (rng a c) = F := ⟨_, rfl⟩
  have hA : Asc F := hF ▸ asc_filter _ hZ
  rw [hF] at hy ⊢
  have hyF : y ∈ F.take n := List.mem_of_getLast? hy
  have hyc : y.1 < c := by
    have := List.mem_of_mem_take hyF
    rw [← hF] at this
    have := (List.mem_filter.1 this).2
    simp [rng] at this; exact this.2
  have e : Z.filter (rng a (y.1 + 1)) = F.filter (fun x => decide (x.1 < y.1 + 1)) := by
    rw [← hF, List.filter_filter]
    refine List.filter_congr fun x _ => ?_
    simp only [rng]
    rw [Bool.eq_iff_iff]
    simp only [Bool.and_eq_true, decide_eq_true_eq]
    omega
  rw [e]
  conv => lhs; rw [← List.take_append_drop n F]
  rw [List.filter_append]
  have hsp : Asc (F.take n ++ F.drop n) := by rw [List.take_append_drop]; exact hA
  obtain ⟨p1, p2, p3⟩ := List.pairwise_append.1 hsp
  rw [List.filter_eq_self.2, List.filter_eq_nil_iff.2, List.append_nil]
  · intro x hx
    have := p3 y hyF x hx
    simp; omega
  · intro x hx
    obtain ⟨pre, hpre⟩ := List.getLast?_eq_some_iff.1 hy
    rw [hpre] at hx p1
    rcases List.mem_append.1 hx with hx | hx
    · have := (List.pairwise_append.1 p1).2.2 x hx y (by simp)
      simp; omega
    · rw [List.mem_singleton] at hx; subst hx
      simp; omega
theorem zip_snoc {a b : List Int} {x y : Int} (h : a.length = b.length) : (a ++ [x]).zip (b ++ [y]) = a.zip b ++ [(x, y)] := by
  rw [List.zip_append h]; rfl
theorem ad_spec (ks vs : List Int) (l v : Int) (K V : List Int) (k : Nat) (hl : ks.length = vs.length) (hk : k ≤ ks.length) (hKV : K.length = V.length) (h12 : K.length ≤ 12) :
    (adK ks l v K k).length = (adV ks vs l v K V k).length ∧ (adK ks l v K k).zip (adV ks vs l v K V k) = (K.zip V ++ ((ks.zip vs).take k).filter (rng l (v + 1))).take 12 := by
  induction k with
  | zero =>
    refine ⟨hKV, ?_⟩
    simp only [adK, adV, List.take_zero, List.filter_nil, List.append_nil]
    rw [List.take_of_length_le]
    rw [List.length_zip]; omega
  | succ k ih =>
    obtain ⟨ih1, ih2⟩ := ih (by omega)
    have hk1 : k < ks.length := by omega
    have hk2 : k < vs.length := by omega
    have hz : (ks.zip vs)[k]? = some (ks[k], vs[k]) := by rw [List.getElem?_zip_eq_some]; exact ⟨List.getElem?_eq_getElem hk1, List.getElem?_eq_getElem hk2⟩
    obtain ⟨R, hR⟩ : ∃ R, K.zip V ++ ((ks.zip vs).take k).filter (rng l (v + 1)) = R := ⟨_, rfl⟩
    rw [hR] at ih2
    have hlen : ((adK ks l v K k).zip (adV ks vs l v K V k)).length = (adK ks l v K k).length := by rw [List.length_zip, ih1, Nat.min_self]
    have hlR : (adK ks l v K k).length = min 12 R.length := by rw [← hlen, ih2, List.length_take]
    rw [List.take_add_one (l := ks.zip vs) (i := k), hz, Option.toList_some, List.filter_append, ← List.append_assoc, hR]
    simp only [adK, adV, List.getElem?_eq_getElem hk1, List.getElem?_eq_getElem hk2, Option.getD_some]
    by_cases hc : l ≤ ks[k] ∧ ks[k] ≤ v
    · have er : rng l (v + 1) (ks[k], vs[k]) = true := by simp [rng]; omega
      rw [List.filter_cons, if_pos er, List.filter_nil]
      by_cases h3 : (adK ks l v K k).length < 12
      · rw [if_pos ⟨hc.1, hc.2, h3⟩, if_pos ⟨hc.1, hc.2, h3⟩]
        refine ⟨by rw [List.length_append, List.length_append, ih1]; rfl, ?_⟩
        rw [zip_snoc ih1, ih2, List.take_of_length_le (by omega), List.take_of_length_le (by rw [List.length_append]; simp; omega)]
      · rw [if_neg (fun e => h3 e.2.2), if_neg (fun e => h3 e.2.2)]
        refine ⟨ih1, ?_⟩
        rw [ih2, List.take_append_of_le_length (by omega)]
    · have er : rng l (v + 1) (ks[k], vs[k]) = false := by simp [rng]; omega
      have hf : [(ks[k], vs[k])].filter (rng l (v + 1)) = [] := by simp [er]
      rw [hf, List.append_nil, if_neg (fun e => hc ⟨e.1, e.2.1⟩), if_neg (fun e => hc ⟨e.1, e.2.1⟩)]
      exact ⟨ih1, ih2⟩
theorem infoCut : (Tryd.prog.info? 142).map (fun i => (i.zero, i.size, i.bytes)) = some (some (.agg #[.int .i64 0, .int .i64 0]), 2, 16) := by kernel_rfl
theorem cutc_snoc (cs : List (Int × Int)) (c : Int × Int) : cutc (cs ++ [c]) = cutc cs ++ [.int .i64 c.1, .int .i64 c.2] := by simp [cutc]
set_option maxRecDepth 100000 in
set_option maxHeartbeats 6400000 in
theorem scanned_any (s : St) (kv vv bv pv xv yv : Value) (w : World) (hv : StV w s kv vv bv pv xv yv) (hl : s.bel.length = s.pts.length) (h64 : s.bel.length ≤ 64) :
    Calls Tryd.prog 116 #[.agg #[.int .i64 s.kd, .int .i64 s.key, .int .i64 s.val, .int .i64 s.step, .int .i64 s.pg, kv, vv, bv, pv, .string s.sw, .int .i64 s.ver, xv, yv, .int .i64 s.laid, .int .i64 s.lv, .int .i64 s.low, .int .i64 s.ch, .int .i64 s.pt]] w fun e w' => ∃ cv, e = .returned (.agg #[.int .i64 0, .bool (decide (0 < s.keys.length)), .int .i64 s.keys.length, .int .i64 s.step, kv, vv, cv]) ∧ M w w.heap.size w' [.row 142 2 cv s.bel.length (cutc (s.bel.zip s.pts))] := by
  obtain ⟨j0, hj0, hy0, hy1, hy2⟩ := info_parts infoCut
  obtain ⟨ak, ck, rfl⟩ := hv.keys.len
  obtain ⟨av, cv0, rfl⟩ := hv.vals.len
  obtain ⟨ab, cb, rfl⟩ := hv.bel.len
  obtain ⟨ap, cp, rfl⟩ := hv.pts.len
  obtain ⟨ax, cx, rfl⟩ := hv.sp.len
  obtain ⟨ay, cy, rfl⟩ := hv.sv.len
  have HB := hideIt hv.bel
  have HP := hideIt hv.pts
  obtain ⟨m, hm⟩ : ∃ m, s.bel.length = m := ⟨_, rfl⟩
  obtain ⟨kl, hkl⟩ : ∃ m, s.keys.length = m := ⟨_, rfl⟩
  obtain ⟨vl, hvl⟩ : ∃ m, s.vals.length = m := ⟨_, rfl⟩
  have HM := hideIt hm
  have HL := hideIt hl
  rw [← hl] at HP ⊢
  rw [hm] at HB HP h64 ⊢
  rw [hkl, hvl]
  clear hv hl hm hkl hvl
  have A0 := hideIt (M.rowNil (e := 142) (z := 2) ((((M.start w).alloc #[.int .i64 s.kd, .int .i64 s.key, .int .i64 s.val, .int .i64 s.step, .int .i64 s.pg, .slice ak kl ck, .slice av vl cv0, .slice ab m cb, .slice ap m cp, .string s.sw, .int .i64 s.ver, .slice ax s.sp.length cx, .slice ay s.sv.length cy, .int .i64 s.laid, .int .i64 s.lv, .int .i64 s.low, .int .i64 s.ch, .int .i64 s.pt] 98).alloc #[.int .i64 0, .bool false, .int .i64 0, .int .i64 0, .slice none 0 0, .slice none 0 0, .slice none 0 0] 76).alloc #[.int .i64 0, .bool (decide (0 < kl)), .int .i64 kl, .int .i64 s.step, .slice ak kl ck, .slice av vl cv0, .slice none 0 0] 76))
  rw [alloc_size, alloc_size] at A0
  go_enter Tryd.func116, Tryd.ntmps116
  go_wp2
  go_loopw [4] (fun i wr => ∃ k : Nat, ∃ cv : Value, k ≤ m ∧ i = .int .i64 k ∧ Hid (M w w.heap.size wr [.blk (w.heap.size + 1 + 1) #[.int .i64 0, .bool (decide (0 < kl)), .int .i64 kl, .int .i64 s.step, .slice ak kl ck, .slice av vl cv0, cv] 76, .row 142 2 cv k (cutc ((s.bel.zip s.pts).take k)), .blk (w.heap.size + 1) #[.int .i64 0, .bool false, .int .i64 0, .int .i64 0, .slice none 0 0, .slice none 0 0, .slice none 0 0] 76, .blk w.heap.size #[.int .i64 s.kd, .int .i64 s.key, .int .i64 s.val, .int .i64 s.step, .int .i64 s.pg, .slice ak kl ck, .slice av vl cv0, .slice ab m cb, .slice ap m cp, .string s.sw, .int .i64 s.ver, .slice ax s.sp.length cx, .slice ay s.sv.length cy, .int .i64 s.laid, .int .i64 s.lv, .int .i64 s.low, .int .i64 s.ch, .int .i64 s.pt] 98])) (fun i _ => m - (intOf i).toNat)
  case atStart =>
    exact ⟨0, .slice none 0 0, Nat.zero_le _, rfl, A0.out⟩
  case round =>
    clear A0
    obtain ⟨k, cv, hk, rfl, hM⟩ := hrel
    obtain ⟨ca, cc, rfl⟩ := As.form0 (hM.out.get (i := 1) rfl)
    have c6 := hM.out.cell (i := 0) rfl 6 (.slice ca k cc) rfl
    have f6 := hM.out.free (i := 0) rfl 6
    have s5 := hM.out.cell (i := 3) rfl 7 (.slice ab m cb) rfl
    have s6 := hM.out.cell (i := 3) rfl 8 (.slice ap m cp) rfl
    have hlg := hM.out.lt (i := 0) rfl
    by_cases hlt : k < m
    · obtain ⟨b1, o1, rfl, -, x1⟩ := HB.out.elem k hlt
      obtain ⟨b2, o2, rfl, -, x2⟩ := HP.out.elem k hlt
      obtain ⟨a, ha⟩ : ∃ y, s.bel[k]?.getD 0 = y := ⟨_, rfl⟩
      obtain ⟨b, hb⟩ : ∃ y, s.pts[k]?.getD 0 = y := ⟨_, rfl⟩
      rw [ha] at x1
      rw [hb] at x2
      have HX1 := hideIt x1
      have HX2 := hideIt x2
      have HCT : Hid (cutc ((s.bel.zip s.pts).take (k + 1)) = cutc ((s.bel.zip s.pts).take k) ++ [.int .i64 a, .int .i64 b]) := by
        have hk1 : k < s.bel.length := by rw [HM.out]; exact hlt
        have hk2 : k < s.pts.length := by rw [← HL.out]; exact hk1
        rw [List.getElem?_eq_getElem hk1] at ha
        rw [List.getElem?_eq_getElem hk2] at hb
        simp only [Option.getD_some] at ha hb
        have hz : (s.bel.zip s.pts)[k]? = some (a, b) := by rw [List.getElem?_zip_eq_some]; exact ⟨by rw [List.getElem?_eq_getElem hk1, ha], by rw [List.getElem?_eq_getElem hk2, hb]⟩
        unfold Hid
        rw [List.take_add_one, hz, Option.toList_some, cutc_snoc]
      have y1 := x1 _ hM.out.bl
      have y2 := x2 _ hM.out.bl
      have hb1 := HB.out.blk_lt k hlt
      have hb2 := HP.out.blk_lt k hlt
      have hkk : (0 : Int) ≤ (k : Int) := by omega
      have hkl : (k : Int) < (m : Int) := by omega
      have hn1 : b1 ≠ w.heap.size + 1 + 1 := by omega
      have hn2 : b2 ≠ w.heap.size + 1 + 1 := by omega
      have hn3 : w.heap.size + 1 + 1 ≠ b1 := by omega
      have hn4 : w.heap.size + 1 + 1 ≠ b2 := by omega
      have hw1 : w.heap.size < wr.heap.size := by omega
      have hw2 : b1 < wr.heap.size := by omega
      have hw3 : b2 < wr.heap.size := by omega
      clear x1 x2 ha hb
      go_wp2
      go_region_law (refine step_append_lies _ rfl _ _ 74 rfl w.heap.size 142 j0 (.agg #[.int .i64 0, .int .i64 0]) 2 16 Tryd.underlying74 hj0 hy0 hy1 hy2 rfl (by decide) _ k (cutc ((s.bel.zip s.pts).take k)) rfl (World.ownsRow.alloc (hM.out.get (i := 1) rfl) _) ⟨_, 0, none⟩ 1 1 [.int .i64 a, .int .i64 b] rfl rfl (World.news_of_block (heap_alloc_new _ _)) (by simp [Value.oneCell']) (by omega) (by unfold maxLen; omega) (by omega) (by have := hM.out.sz; simp at this ⊢; omega) _ rfl ?_; intro g1 cap1 w5 hown hgrow hat hlt1; rw [← HCT.out] at hown; have hm := (hM.out.allocd _).drew.lies (i := 1) rfl hown hgrow hat; clear c6 f6 s5 s6 y1 y2 hown hgrow hat; have c6 := hm.cell (i := 0) rfl 6 (.slice ca k cc) rfl; have f6 := hm.free (i := 0) rfl 6; have s5 := hm.cell (i := 3) rfl 7 (.slice (some ⟨b1, o1, none⟩) m cb) rfl; have s6 := hm.cell (i := 3) rfl 8 (.slice (some ⟨b2, o2, none⟩) m cp) rfl; have y1 := HX1.out _ hm.bl; have y2 := HX2.out _ hm.bl; have H1 := hideIt (hm.store (i := 0) (j := 6) rfl (.slice (some ⟨g1, 0, none⟩) (k + 1) cap1) rfl); clear hm)
      all_goals
        go_wp2
        go_roundw
        case rel => exact ⟨k + 1, _, by omega, by go_num, H1.out⟩
        case measure => simp [intOf]; omega
    · obtain rfl : k = m := by omega
      have r := fun j v hv => hM.out.cell (i := 2) rfl j v hv
      have hz : (s.bel.zip s.pts).take k = s.bel.zip s.pts := List.take_of_length_le (by rw [List.length_zip, HM.out]; omega)
      rw [hz] at hM
      have HN := hideIt hM
      have a0 := HN.out.out.cell (i := 0) rfl 0 (.int .i64 0) rfl
      have a1 := HN.out.out.cell (i := 0) rfl 1 (.bool (decide (0 < kl))) rfl
      have a2 := HN.out.out.cell (i := 0) rfl 2 (.int .i64 kl) rfl
      have a3 := HN.out.out.cell (i := 0) rfl 3 (.int .i64 s.step) rfl
      have a4 := HN.out.out.cell (i := 0) rfl 4 (.slice ak kl ck) rfl
      have a5 := HN.out.out.cell (i := 0) rfl 5 (.slice av vl cv0) rfl
      have r0 := r 0 (.int .i64 0) rfl
      have r1 := r 1 (.bool false) rfl
      have r2 := r 2 (.int .i64 0) rfl
      have r3 := r 3 (.int .i64 0) rfl
      have r4 := r 4 (.slice none 0 0) rfl
      have r5 := r 5 (.slice none 0 0) rfl
      have r6 := r 6 (.slice none 0 0) rfl
      have g := fun j => HN.out.out.free (i := 2) rfl j
      have g0 := g 0
      have g1 := g 1
      have g2 := g 2
      have g3 := g 3
      have g4 := g 4
      have g5 := g 5
      have g6 := g 6
      have S7 := hideIt ((HN.out.out.store7 (i := 2) rfl (.int .i64 0) (.bool (decide (0 < kl))) (.int .i64 kl) (.int .i64 s.step) (.slice ak kl ck) (.slice av vl cv0) (.slice ca k cc)))
      clear r g hz hM HN
      go_wp2
      refine bodyPost_ret (v := .agg #[.int .i64 0, .bool (decide (0 < kl)), .int .i64 kl, .int .i64 s.step, .slice ak kl ck, .slice av vl cv0, .slice ca k cc]) (by simp [results, Tryd.results116, go_sem, *]) rfl ⟨_, rfl, ?_⟩
      exact S7.out.sub (List.Sublist.trans (List.Sublist.cons_cons _ (List.nil_sublist _)) (List.sublist_cons_self _ _))
end Go.Proofs.YtajobgmnmbnhiaaDoor.Sap
