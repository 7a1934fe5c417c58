/- WHAT IS PROVED HERE: a text that a right node has is read as that node, and no other; what is read out of digits is written back as it stood. Conditions: none. -/
import Derived.Test.YtajobgmnmbnhiaaGreatDoorPt08
namespace Go.Proofs.YtajobgmnmbnhiaaGreatDoor.Sap

def Unp (s : List UInt8) (n : Nd) : Prop := rightB n = true ∧ packT n = s
theorem seg_left (a b : List UInt8) (n : Nat) (h : a.length = n) : seg (a ++ b) 0 n = a := by
  unfold seg; rw [List.drop_zero]; exact List.take_left' h
theorem seg_right (a b : List UInt8) (i n : Nat) : seg (a ++ b) (a.length + i) n = seg b i n := by
  unfold seg; rw [← List.drop_drop, List.drop_left]
theorem seg_add (s : List UInt8) (a n m : Nat) : seg s a (n + m) = seg s a n ++ seg s (a + n) m := by
  unfold seg; rw [List.take_add, List.drop_drop]
theorem len_seg (s : List UInt8) (a n : Nat) (h : a + n ≤ s.length) : (seg s a n).length = n := by
  unfold seg; rw [List.length_take, List.length_drop]; omega
theorem seg_zero (s : List UInt8) (a : Nat) : seg s a 0 = [] := by simp [seg]
theorem seg_all (s : List UInt8) (a : Nat) : seg s a (s.length - a) = s.drop a := by
  unfold seg; exact List.take_of_length_le (by simp)
theorem numV_dg (w n : Nat) (h : n < 10 ^ w) : numV (dg w n) = n := by
  unfold numV; rw [allDig_dg, wth_dg w n h]; rfl
theorem dg_ne_dash (n : Nat) : dg 2 n ≠ [45, 45] ∧ dg 4 n ≠ [45, 45, 45, 45] := by
  have h2 := allDig_dg 2 n
  have h4 := allDig_dg 4 n
  exact ⟨fun e => by rw [e] at h2; revert h2; decide, fun e => by rw [e] at h4; revert h4; decide⟩
theorem head_segs (n : Nd) (r : List UInt8) : seg (headT n ++ r) 0 1 = dg 1 n.lv.toNat ∧ (n.hi = 10000 → seg (headT n ++ r) 1 2 = [45, 45] ∧ seg (headT n ++ r) 3 4 = [45, 45, 45, 45]) ∧ (n.hi ≠ 10000 → seg (headT n ++ r) 1 2 = dg 2 n.lk.toNat ∧ seg (headT n ++ r) 3 4 = dg 4 n.hi.toNat) := by
  have l1 : (dg 1 n.lv.toNat).length = 1 := len_dg _ _
  unfold headT
  refine ⟨?_, fun h => ?_, fun h => ?_⟩
  · rw [List.append_assoc]; exact seg_left _ _ _ l1
  · rw [if_pos h, List.append_assoc]
    have e1 := seg_right (dg 1 n.lv.toNat) ([45, 45, 45, 45, 45, 45] ++ r) 0 2
    have e2 := seg_right (dg 1 n.lv.toNat) ([45, 45, 45, 45, 45, 45] ++ r) 2 4
    rw [l1] at e1 e2
    refine ⟨e1.trans rfl, e2.trans rfl⟩
  · rw [if_neg h, List.append_assoc]
    have e1 := seg_right (dg 1 n.lv.toNat) (dg 2 n.lk.toNat ++ dg 4 n.hi.toNat ++ r) 0 2
    have e2 := seg_right (dg 1 n.lv.toNat) (dg 2 n.lk.toNat ++ dg 4 n.hi.toNat ++ r) 2 4
    rw [l1] at e1 e2
    refine ⟨e1.trans ?_, e2.trans ?_⟩
    · rw [List.append_assoc]; exact seg_left _ _ _ (len_dg _ _)
    · rw [List.append_assoc]
      have e3 := seg_right (dg 2 n.lk.toNat) (dg 4 n.hi.toNat ++ r) 0 4
      rw [len_dg] at e3
      exact e3.trans (seg_left _ _ _ (len_dg _ _))
theorem len_packT (n : Nd) (h : rightB n = true) : (packT n).length = 7 + wd n.lv * n.ks.length ∧ (packT n).length ≤ 47 := by
  obtain ⟨-, -, -, h4, h5, h6, -⟩ := right_bd n h
  have e : (packT n).length = 7 + wd n.lv * n.ks.length := by unfold packT; rw [List.length_append, len_headT, len_ents _ _ _ h4]
  refine ⟨e, ?_⟩
  rw [e]
  by_cases h0 : n.lv = 0
  · have : wd n.lv = 8 := by unfold wd vw; rw [if_pos h0]
    have := h6 h0; rw [‹wd n.lv = 8›]; omega
  · have : wd n.lv = 6 := by unfold wd vw; rw [if_neg h0]
    rw [this]; omega
theorem head_of {s : List UInt8} {n : Nd} (h : Unp s n) : headOk s = true ∧ hLv s = n.lv ∧ hLk s = n.lk ∧ hHi s = n.hi ∧ (wth (seg s 0 1) : Int) = n.lv ∧
    (n.hi = 10000 → seg s 1 2 = [45, 45]) ∧ (n.hi ≠ 10000 → seg s 1 2 = dg 2 n.lk.toNat ∧ (wth (seg s 1 2) : Int) = n.lk ∧ (wth (seg s 3 4) : Int) = n.hi) := by
  obtain ⟨hr, rfl⟩ := h
  obtain ⟨b1, b2, b3, -⟩ := right_bd n hr
  have hl := (len_packT n hr).1
  obtain ⟨s1, s2, s3⟩ := head_segs n (ents n.lv n.ks n.vs)
  change seg (packT n) 0 1 = _ at s1
  have n1 : n.lv.toNat < 10 ^ 1 := by omega
  have hv : hLv (packT n) = n.lv := by unfold hLv; rw [s1, numV_dg _ _ n1]; omega
  have hw : (wth (seg (packT n) 0 1) : Int) = n.lv := by rw [s1, wth_dg _ _ n1]; omega
  by_cases h10 : n.hi = 10000
  · obtain ⟨t1, t2⟩ := s2 h10
    change seg (packT n) 1 2 = _ at t1
    change seg (packT n) 3 4 = _ at t2
    refine ⟨?_, hv, ?_, ?_, hw, fun _ => t1, fun h => absurd h10 h⟩
    · unfold headOk; rw [decide_eq_true (by omega), s1, t1, t2, allDig_dg]; rfl
    · unfold hLk numOr; rw [t1, if_pos rfl]; omega
    · unfold hHi numOr; rw [t2, if_pos rfl]; omega
  · obtain ⟨t1, t2⟩ := s3 h10
    change seg (packT n) 1 2 = _ at t1
    change seg (packT n) 3 4 = _ at t2
    have n2 : n.lk.toNat < 10 ^ 2 := by omega
    have n4 : n.hi.toNat < 10 ^ 4 := by omega
    refine ⟨?_, hv, ?_, ?_, hw, fun h => absurd h h10, fun _ => ⟨t1, ?_, ?_⟩⟩
    · unfold headOk digOr; rw [decide_eq_true (by omega), s1, t1, t2, if_neg (dg_ne_dash _).1, if_neg (dg_ne_dash _).2, allDig_dg, allDig_dg, allDig_dg]; rfl
    · unfold hLk numOr; rw [t1, if_neg (dg_ne_dash _).1, numV_dg _ _ n2]; omega
    · unfold hHi numOr; rw [t2, if_neg (dg_ne_dash _).2, numV_dg _ _ n4]; omega
    · rw [t1, wth_dg _ _ n2]; omega
    · rw [t2, wth_dg _ _ n4]; omega
theorem list_of_at (xs : List Int) (f : Nat → Int) (h : ∀ i, i < xs.length → f i = xs[i]?.getD 0) : (List.range xs.length).map f = xs := by
  apply List.ext_getElem
  · simp
  · intro i h1 h2
    simp only [List.getElem_map, List.getElem_range]
    rw [h i h2]; simp [h2]
theorem ents_of {s : List UInt8} {n : Nd} (h : Unp s n) : 7 + n.ks.length * wd n.lv = s.length ∧ (∀ i, i < n.ks.length → digAt n.lv s i = true) ∧ kL n.lv s n.ks.length = n.ks ∧ vL n.lv s n.ks.length = n.vs := by
  obtain ⟨hr, rfl⟩ := h
  obtain ⟨b1, b2, b3, b4, b5, b6, b7, b8⟩ := right_bd n hr
  have hl := (len_packT n hr).1
  have hs : ∀ i, i < n.ks.length → seg (packT n) (7 + i * wd n.lv) 4 = dg 4 (n.ks[i]?.getD 0).toNat ∧ seg (packT n) (7 + i * wd n.lv + 4) (vw n.lv) = dg (vw n.lv) (n.vs[i]?.getD 0).toNat := by
    intro i hi
    have h1 := seg_ents n.lv n.ks n.vs i b4 hi
    have e1 := seg_right (headT n) (ents n.lv n.ks n.vs) (i * wd n.lv) 4
    have e2 := seg_right (headT n) (ents n.lv n.ks n.vs) (i * wd n.lv + 4) (vw n.lv)
    rw [len_headT] at e1 e2
    rw [← Nat.add_assoc] at e2
    exact ⟨e1.trans h1.1, e2.trans h1.2⟩
  refine ⟨by rw [hl, Nat.mul_comm], fun i hi => ?_, ?_, ?_⟩
  · unfold digAt; rw [(hs i hi).1, (hs i hi).2, allDig_dg, allDig_dg]; rfl
  · refine list_of_at n.ks _ fun i hi => ?_
    have hm := b7 _ (mem_at hi)
    unfold kAt; rw [(hs i hi).1, wth_dg _ _ (by omega)]; omega
  · rw [b4]
    refine list_of_at n.vs _ fun i hi => ?_
    have hm := b8 _ (mem_at hi)
    unfold vAt; rw [(hs i (by omega)).2, wth_dg _ _ hm.2]; omega
theorem Unp.uniq {s : List UInt8} {n m : Nd} (h : Unp s n) (k : Unp s m) : n = m := by
  obtain ⟨-, a1, a2, a3, -⟩ := head_of h
  obtain ⟨-, c1, c2, c3, -⟩ := head_of k
  obtain ⟨e1, -, e2, e3⟩ := ents_of h
  obtain ⟨f1, -, f2, f3⟩ := ents_of k
  obtain ⟨lv, lk, hi, ks, vs⟩ := n
  obtain ⟨lv', lk', hi', ks', vs'⟩ := m
  simp only at *
  obtain rfl : lv = lv' := by omega
  obtain rfl : lk = lk' := by omega
  obtain rfl : hi = hi' := by omega
  have hlen : ks.length = ks'.length := by
    have := (wd_pos lv).1
    exact Nat.eq_of_mul_eq_mul_right (by omega : 0 < wd lv) (by omega)
  rw [hlen] at e2 e3
  obtain rfl : ks = ks' := e2.symm.trans f2
  obtain rfl : vs = vs' := e3.symm.trans f3
  rfl
theorem ents_back (lv : Int) (s : List UInt8) (j : Nat) (h1 : 7 + j * wd lv ≤ s.length) (h2 : ∀ i, i < j → digAt lv s i = true) :
    ents lv (kL lv s j) (vL lv s j) = seg s 7 (j * wd lv) := by
  induction j with
  | zero => rw [Nat.zero_mul, seg_zero]; rfl
  | succ j ih =>
    rw [Nat.add_mul] at h1
    have hw := (wd_pos lv).2.2
    have hd := h2 j (Nat.lt_succ_self j)
    unfold digAt at hd
    simp only [Bool.and_eq_true] at hd
    have hk : (kL lv s (j + 1)).length = j + 1 := len_kL _ _ _
    have hv : (vL lv s (j + 1)).length = j + 1 := len_vL _ _ _
    have hsn := ents_snoc lv (kL lv s (j + 1)) (vL lv s (j + 1)) j (by omega) (by omega)
    rw [List.take_of_length_le (by omega), List.take_of_length_le (by omega)] at hsn
    rw [hsn]
    have t1 : (kL lv s (j + 1)).take j = kL lv s j := by rw [kL_succ]; exact List.take_left' (len_kL _ _ _)
    have t2 : (vL lv s (j + 1)).take j = vL lv s j := by rw [vL_succ]; exact List.take_left' (len_vL _ _ _)
    have g1 : (kL lv s (j + 1))[j]?.getD 0 = kAt lv s j := by rw [kL_succ, List.getElem?_append_right (by rw [len_kL]; omega), len_kL]; simp
    have g2 : (vL lv s (j + 1))[j]?.getD 0 = vAt lv s j := by rw [vL_succ, List.getElem?_append_right (by rw [len_vL]; omega), len_vL]; simp
    rw [t1, t2, g1, g2, ih (by omega) (fun i hi => h2 i (by omega))]
    have l1 := len_seg s (7 + j * wd lv) 4 (by omega)
    have l2 := len_seg s (7 + j * wd lv + 4) (vw lv) (by omega)
    have d1 := dg_snoc_inv _ hd.1
    have d2 := dg_snoc_inv _ hd.2
    rw [l1] at d1
    rw [l2] at d2
    unfold kAt vAt
    rw [Int.toNat_natCast, Int.toNat_natCast, d1, d2, Nat.add_mul, Nat.one_mul]
    rw [seg_add s 7 (j * wd lv) (wd lv)]
    congr 1
    rw [hw, seg_add]
theorem back {s : List UInt8} {j : Nat} (hh : headOk s = true) (h1 : 7 + j * wd (hLv s) = s.length) (h2 : ∀ i, i < j → digAt (hLv s) s i = true)
    (hr : rightB ⟨hLv s, hLk s, hHi s, kL (hLv s) s j, vL (hLv s) s j⟩ = true) : packT ⟨hLv s, hLk s, hHi s, kL (hLv s) s j, vL (hLv s) s j⟩ = s := by
  obtain ⟨-, -, b3, -⟩ := right_bd _ hr
  simp only at b3
  unfold headOk at hh
  simp only [Bool.and_eq_true, decide_eq_true_eq] at hh
  obtain ⟨hl, d1, d2, d3⟩ := hh
  have l1 := len_seg s 0 1 (by omega)
  have l2 := len_seg s 1 2 (by omega)
  have l4 := len_seg s 3 4 (by omega)
  have he : ents (hLv s) (kL (hLv s) s j) (vL (hLv s) s j) = s.drop 7 := by
    rw [ents_back _ _ _ (by omega) h2, show j * wd (hLv s) = s.length - 7 by omega, seg_all]
  have hv : dg 1 (hLv s).toNat = seg s 0 1 := by
    have := dg_snoc_inv _ d1
    rw [l1] at this
    unfold hLv numV; rw [d1]; exact this
  have hs : s = seg s 0 1 ++ (seg s 1 2 ++ seg s 3 4) ++ s.drop 7 := by
    have e := seg_add s 0 1 6
    have e2 := seg_add s 1 2 4
    rw [Nat.zero_add] at e
    have e3 : s = seg s 0 7 ++ s.drop 7 := by unfold seg; rw [List.drop_zero]; exact (List.take_append_drop 7 s).symm
    have e4 : seg s 0 7 = seg s 0 1 ++ seg s 1 6 := e
    have e5 : seg s 1 6 = seg s 1 2 ++ seg s 3 4 := e2
    rw [← e5, ← e4]; exact e3
  unfold packT headT
  simp only [he, hv]
  by_cases h10 : hHi s = 10000
  · have hlk : hLk s = -1 := by omega
    have t2 : seg s 1 2 = [45, 45] := by
      unfold hLk numOr at hlk
      split at hlk
      · assumption
      · unfold numV at hlk; split at hlk <;> omega
    have t3 : seg s 3 4 = [45, 45, 45, 45] := by
      unfold hHi numOr at h10
      split at h10
      · assumption
      · unfold numV at h10
        have := wth_lt (seg s 3 4)
        rw [l4] at this
        split at h10 <;> omega
    rw [if_pos h10]
    rw [t2, t3] at hs
    exact hs.symm
  · have t2 : seg s 1 2 ≠ [45, 45] := by
      intro e
      have : hLk s = -1 := by unfold hLk numOr; rw [if_pos e]
      omega
    have t3 : seg s 3 4 ≠ [45, 45, 45, 45] := by
      intro e
      exact h10 (by unfold hHi numOr; rw [if_pos e])
    unfold digOr at d2 d3
    rw [if_neg t2] at d2
    rw [if_neg t3] at d3
    have f2 : dg 2 (hLk s).toNat = seg s 1 2 := by
      have := dg_snoc_inv _ d2
      rw [l2] at this
      unfold hLk numOr numV; rw [if_neg t2, d2]; exact this
    have f3 : dg 4 (hHi s).toNat = seg s 3 4 := by
      have := dg_snoc_inv _ d3
      rw [l4] at this
      unfold hHi numOr numV; rw [if_neg t3, d3]; exact this
    rw [if_neg h10, f2, f3]
    exact hs.symm
end Go.Proofs.YtajobgmnmbnhiaaGreatDoor.Sap
namespace Go.Proofs.YtajobgmnmbnhiaaGreatDoor.Sap
open Go.RowKit
def UnpR (s : List UInt8) (w' : World) (B : Nat) (e : Ending) : Prop :=
  (∃ n kv vv, Unp s n ∧ Own w' B kv vv n.ks n.vs ∧ e = .returned (.tuple #[.agg #[.int .i64 n.lv, .int .i64 n.lk, .int .i64 n.hi, kv, vv], .int .i64 0]))
  ∨ ((∀ n, ¬ Unp s n) ∧ e = .returned (.tuple #[.agg #[.int .i64 0, .int .i64 0, .int .i64 0, .slice none 0 0, .slice none 0 0], .int .i64 2]))
theorem no_long {s : List UInt8} (h : 47 < s.length) : ∀ n, ¬ Unp s n := fun n hn => by
  have := (len_packT n hn.1).2; rw [hn.2] at this; omega
theorem no_head {s : List UInt8} (h : headOk s = false) : ∀ n, ¬ Unp s n := fun n hn => by
  rw [(head_of hn).1] at h; cases h
theorem no_ents {s : List UInt8} (h : ¬ entOk (hLv s) s) : ∀ n, ¬ Unp s n := fun n hn => by
  obtain ⟨-, a, -⟩ := head_of hn
  obtain ⟨e1, e2, -⟩ := ents_of hn
  rw [a] at h
  exact h ⟨_, e1, e2⟩
theorem no_right {s : List UInt8} {j : Nat} (h1 : 7 + j * wd (hLv s) = s.length) (hr : rightB ⟨hLv s, hLk s, hHi s, kL (hLv s) s j, vL (hLv s) s j⟩ = false) : ∀ n, ¬ Unp s n := fun n hn => by
  obtain ⟨-, a1, a2, a3, -⟩ := head_of hn
  obtain ⟨e1, -, e2, e3⟩ := ents_of hn
  have hj : j = n.ks.length := by
    rw [a1] at h1
    have := (wd_pos n.lv).1
    exact Nat.eq_of_mul_eq_mul_right (by omega : 0 < wd n.lv) (by omega)
  subst hj
  rw [a1, a2, a3, e2, e3] at hr
  have := hn.1
  rw [hr] at this
  cases this
set_option maxRecDepth 100000 in
set_option maxHeartbeats 1600000 in
theorem unpack_any (s : ByteArray) (w : World) (hmax : s.size ≤ 140737488351232) :
    Calls Tryz.prog 33 #[.string s] w fun e w' => UnpR s.data.toList w' w.heap.size e ∧ Below w.heap.size w w' := by
  by_cases hl : 47 < s.size
  · have hno := hideIt (no_long (s := s.data.toList) (by rw [ba_size]; exact hl))
    go_enter Tryz.func33, Tryz.ntmps33
    go_wp2
    refine bodyPost_ret (v := .tuple #[.agg #[.int .i64 0, .int .i64 0, .int .i64 0, .slice none 0 0, .slice none 0 0], .int .i64 2]) (by simp [results, Tryz.results33, go_sem]) rfl ⟨Or.inr ⟨hno.out, rfl⟩, ?_⟩
    exact (Below.refl _ _).alloc (Nat.le_refl _) _
  · have hl47 : s.size ≤ 47 := by omega
    clear hl
    go_enter Tryz.func33, Tryz.ntmps33
    go_wp2_with fail
    refine (readHead_any s _ hl47).mono ?_
    rintro e w1 ⟨⟨hok, rfl⟩ | ⟨hok, rfl⟩, hb⟩
    · have HOK := hideIt hok
      have h7 : 7 ≤ s.size := by
        unfold headOk at hok; simp only [Bool.and_eq_true, decide_eq_true_eq] at hok
        have := hok.1; rw [ba_size] at this; exact this
      have hb1 := step ((Below.refl _ _).alloc (Nat.le_refl _) _) hb
      have hres := (hb.block w.heap.size (by simp)).trans (heap_alloc_new w _)
      have hsz := hb.size
      simp at hsz
      clear hok hb
      have hres1 := hideIt hres
      clear hres
      go_wp2_with fail
      refine (readEntries_any (hLv s.data.toList) (hLk s.data.toList) (hHi s.data.toList) _ _ s _ hl47 h7).mono ?_
      rintro e w2 ⟨⟨j, kv, vv, hj1, hj2, rfl, hO⟩ | ⟨hne, rfl⟩, hb⟩
      · have hres2 := hideIt (block_below (block_alloc hres1.out _) hb)
        have hb2 := step (hb1.alloc hb1.size _) hb
        have HO := hideIt hO
        have HJ1 := hideIt hj1
        have HJ2 := hideIt hj2
        obtain ⟨ak, ck, rfl⟩ := own_form hO.1
        obtain ⟨av, cv, rfl⟩ := own_form hO.2.1
        have hsz2 := hb.size
        simp at hsz2
        clear hO hj1 hj2 hb hres1
        have hjl : j ≤ 47 := by
          have h1 := HJ1.out; rw [ba_size] at h1
          have h2 := (wd_pos (hLv s.data.toList)).1
          have h3 : j * 1 ≤ j * wd (hLv s.data.toList) := Nat.mul_le_mul_left _ (by omega)
          omega
        obtain ⟨n, hn⟩ : ∃ n : Nd, n = ⟨hLv s.data.toList, hLk s.data.toList, hHi s.data.toList, kL (hLv s.data.toList) s.data.toList j, vL (hLv s.data.toList) s.data.toList j⟩ := ⟨_, rfl⟩
        have CR := hideIt (right_any n (.slice ak (kL (hLv s.data.toList) s.data.toList j).length ck) (.slice av (vL (hLv s.data.toList) s.data.toList j).length cv) (w2.alloc (.cells #[.int .i64 (hLv s.data.toList), .int .i64 (hLk s.data.toList), .int .i64 (hHi s.data.toList), .slice ak (kL (hLv s.data.toList) s.data.toList j).length ck, .slice av (vL (hLv s.data.toList) s.data.toList j).length cv] 67)) (by rw [hn]; exact HO.out.rdK.alloc _) (by rw [hn]; exact HO.out.rdV.alloc _) (by rw [hn]; simp only [len_kL]; omega) (by rw [hn]; simp only [len_vL]; omega))
        have e1 : n.lv = hLv s.data.toList := by rw [hn]
        have e2 : n.lk = hLk s.data.toList := by rw [hn]
        have e3 : n.hi = hHi s.data.toList := by rw [hn]
        rw [e1, e2, e3] at CR
        have HN := hideIt hn
        clear e1 e2 e3 hn
        go_wp2_with fail
        refine CR.out.mono ?_
        rintro e w3 ⟨rfl, hb⟩
        have hres3 := block_below (block_alloc hres2.out (.cells #[.int .i64 (hLv s.data.toList), .int .i64 (hLk s.data.toList), .int .i64 (hHi s.data.toList), .slice ak (kL (hLv s.data.toList) s.data.toList j).length ck, .slice av (vL (hLv s.data.toList) s.data.toList j).length cv] 67)) hb
        have hn3 := block_below (heap_alloc_new w2 (.cells #[.int .i64 (hLv s.data.toList), .int .i64 (hLk s.data.toList), .int .i64 (hHi s.data.toList), .slice ak (kL (hLv s.data.toList) s.data.toList j).length ck, .slice av (vL (hLv s.data.toList) s.data.toList j).length cv] 67)) hb
        have HO3 := hideIt ((HO.out.below ((Below.refl _ _).alloc (Nat.le_refl _) (.cells #[.int .i64 (hLv s.data.toList), .int .i64 (hLk s.data.toList), .int .i64 (hHi s.data.toList), .slice ak (kL (hLv s.data.toList) s.data.toList j).length ck, .slice av (vL (hLv s.data.toList) s.data.toList j).length cv] 67))).below hb)
        have hb3 := step (hb2.alloc hb2.size _) hb
        obtain ⟨⟨r0, r1, r2, r3, r4⟩, ⟨e0, e1, e2, e3, e4⟩⟩ := node_cells hres3
        obtain ⟨⟨q0, q1, q2, q3, q4⟩, -⟩ := node_cells hn3
        clear hb hres3 hn3 hres2 HO CR hb2
        obtain ⟨rb, hrb⟩ : ∃ rb, rightB n = rb := ⟨_, rfl⟩
        rw [hrb]
        have HRB := hideIt hrb
        clear hrb
        cases rb
        · have hno := hideIt (no_right (j := j) HJ1.out (by rw [← HN.out]; exact HRB.out))
          go_wp2
          refine bodyPost_ret (v := .tuple #[.agg #[.int .i64 0, .int .i64 0, .int .i64 0, .slice none 0 0, .slice none 0 0], .int .i64 2]) (by simp [results, Tryz.results33, go_sem, *]) rfl ⟨Or.inr ⟨hno.out, rfl⟩, ?_⟩
          repeat (refine Below.setCell ?_ (by simp) _)
          exact hb3
        · have hU := hideIt (show Unp s.data.toList n from ⟨HRB.out, by rw [HN.out]; exact back HOK.out HJ1.out HJ2.out (by rw [← HN.out]; exact HRB.out)⟩)
          go_wp2
          refine bodyPost_ret (v := .tuple #[.agg #[.int .i64 (hLv s.data.toList), .int .i64 (hLk s.data.toList), .int .i64 (hHi s.data.toList), .slice ak (kL (hLv s.data.toList) s.data.toList j).length ck, .slice av (vL (hLv s.data.toList) s.data.toList j).length cv], .int .i64 0]) (by simp [results, Tryz.results33, go_sem, *]) rfl ⟨Or.inl ⟨n, .slice ak (kL (hLv s.data.toList) s.data.toList j).length ck, .slice av (vL (hLv s.data.toList) s.data.toList j).length cv, hU.out, ?_, ?_⟩, ?_⟩
          · rw [HN.out]
            refine Own.mono (B := w.heap.size + 1) ?_ (by omega)
            repeat (refine Own.setCell ?_ (by simp) _)
            exact HO3.out.mono (by simp; omega)
          · rw [HN.out]
          · repeat (refine Below.setCell ?_ (by simp) _)
            exact hb3
      · have hno := hideIt (no_ents hne)
        have hb2 := step (hb1.alloc hb1.size _) hb
        have hres2 := block_below (block_alloc hres1.out (.cells #[.int .i64 (hLv s.data.toList), .int .i64 (hLk s.data.toList), .int .i64 (hHi s.data.toList), .slice none 0 0, .slice none 0 0] 67)) hb
        obtain ⟨⟨r0, r1, r2, r3, r4⟩, ⟨e0, e1, e2, e3, e4⟩⟩ := node_cells1 hres2
        clear hne hb hres2 hres1 HOK
        go_wp2
        refine bodyPost_ret (v := .tuple #[.agg #[.int .i64 0, .int .i64 0, .int .i64 0, .slice none 0 0, .slice none 0 0], .int .i64 2]) (by simp [results, Tryz.results33, go_sem, *]) rfl ⟨Or.inr ⟨hno.out, rfl⟩, ?_⟩
        repeat (refine Below.setCell ?_ (by simp) _)
        exact hb2.alloc hb2.size _
    · have hno := hideIt (no_head hok)
      have hb1 := step ((Below.refl _ _).alloc (Nat.le_refl _) _) hb
      have hres := (hb.block w.heap.size (by simp)).trans (heap_alloc_new w _)
      have hsz := hb.size
      simp at hsz
      obtain ⟨⟨r0, r1, r2, r3, r4⟩, ⟨e0, e1, e2, e3, e4⟩⟩ := node_cells1 hres
      clear hok hb hres
      go_wp2
      refine bodyPost_ret (v := .tuple #[.agg #[.int .i64 0, .int .i64 0, .int .i64 0, .slice none 0 0, .slice none 0 0], .int .i64 2]) (by simp [results, Tryz.results33, go_sem, *]) rfl ⟨Or.inr ⟨hno.out, rfl⟩, ?_⟩
      repeat (refine Below.setCell ?_ (by simp) _)
      exact hb1.alloc hb1.size _
def As : Type := (Nat × Array Value × TypeId) ⊕ (TypeId × Nat × Value × Nat × List Value)
def As.blk (b : Nat) (c : Array Value) (t : TypeId) : As := Sum.inl (b, c, t)
def As.row (e : TypeId) (z : Nat) (v : Value) (n : Nat) (xs : List Value) : As := Sum.inr (e, z, v, n, xs)
def As.holds (w : World) (B : Nat) (a : As) : Prop :=
  match (show (Nat × Array Value × TypeId) ⊕ (TypeId × Nat × Value × Nat × List Value) from a) with
  | .inl (b, c, t) => B ≤ b ∧ w.heap[b]? = some (.cells c t (0, 0))
  | .inr (e, z, v, n, xs) => w.ownsRow B e z v n xs
def As.foot (a : As) : Option Nat :=
  match (show (Nat × Array Value × TypeId) ⊕ (TypeId × Nat × Value × Nat × List Value) from a) with
  | .inl (b, _, _) => some b
  | .inr (_, _, v, _, _) => v.ownBlock
theorem As.holds.own {w : World} {B : Nat} {e : TypeId} {z : Nat} {v : Value} {n : Nat} {xs : List Value} (h : As.holds w B (.row e z v n xs)) : w.ownsRow B e z v n xs := h
@[simp] theorem As.foot_blk (b : Nat) (c : Array Value) (t : TypeId) : (As.blk b c t).foot = some b := rfl
@[simp] theorem As.foot_row (e : TypeId) (z : Nat) (v : Value) (n : Nat) (xs : List Value) : (As.row e z v n xs).foot = v.ownBlock := rfl
theorem As.is (a : As) : (∃ b c t, a = .blk b c t) ∨ ∃ e z v n xs, a = .row e z v n xs := by
  rcases a with x | x
  · exact .inl ⟨x.1, x.2.1, x.2.2, rfl⟩
  · exact .inr ⟨x.1, x.2.1, x.2.2.1, x.2.2.2.1, x.2.2.2.2, rfl⟩
def As.apart (a b : As) : Prop := ∀ k, a.foot = some k → b.foot = some k → False
theorem As.apart.symm {a b : As} (h : a.apart b) : b.apart a := fun k h1 h2 => h k h2 h1
structure M (w0 : World) (B : Nat) (w : World) (l : List As) : Prop where
  holds : ∀ a ∈ l, a.holds w B
  apart : l.Pairwise As.apart
  bl : Below B w0 w
  sz : B ≤ w.heap.size
theorem As.holds.lt {w : World} {B : Nat} {a : As} (h : a.holds w B) {k : Nat} (hk : a.foot = some k) : B ≤ k ∧ k < w.heap.size := by
  rcases a.is with ⟨b, c, t, rfl⟩ | ⟨e, z, v, n, xs, rfl⟩
  · simp only [As.foot_blk, Option.some.injEq] at hk; subst hk; exact ⟨h.1, lt_of_block h.2⟩
  · exact World.ownsRow.lt h k hk
theorem As.holds.kept {w w' : World} {B : Nat} {a : As} (h : a.holds w B) (hk : ∀ k, a.foot = some k → w'.heap[k]? = w.heap[k]?) : a.holds w' B := by
  rcases a.is with ⟨b, c, t, rfl⟩ | ⟨e, z, v, n, xs, rfl⟩
  · exact ⟨h.1, (hk b rfl).trans h.2⟩
  · refine ⟨h.own.1, ?_⟩
    rcases h.own.2 with hn | ⟨g, cap, cur, rfl, hg, hgg, rest⟩
    · exact .inl hn
    · exact .inr ⟨g, cap, cur, rfl, hg, (hk g rfl).trans hgg, rest⟩
theorem M.start (w : World) : M w w.heap.size w [] := ⟨fun _ h => (List.not_mem_nil h).elim, List.Pairwise.nil, Below.refl _ _, Nat.le_refl _⟩
theorem M.get {w0 w : World} {B i : Nat} {l : List As} {a : As} (h : M w0 B w l) (hi : l[i]? = some a) : a.holds w B := h.holds a (List.mem_of_getElem? hi)
theorem M.block {w0 w : World} {B i b : Nat} {l : List As} {c : Array Value} {t : TypeId} (h : M w0 B w l) (hi : l[i]? = some (.blk b c t)) : w.heap[b]? = some (.cells c t (0, 0)) := (h.get hi).2
theorem M.below {w0 w w' : World} {B : Nat} {l : List As} (h : M w0 B w l) (hb : Below w.heap.size w w') : M w0 B w' l :=
  ⟨fun a ha => (h.holds a ha).kept fun k hk => hb.block k ((h.holds a ha).lt hk).2, h.apart, h.bl.trans (hb.mono h.sz), Nat.le_trans h.sz hb.size⟩
theorem M.sub {w0 w : World} {B : Nat} {l l' : List As} (h : M w0 B w l) (hs : l'.Sublist l) : M w0 B w l' :=
  ⟨fun a ha => h.holds a (hs.subset ha), h.apart.sublist hs, h.bl, h.sz⟩
theorem M.perm {w0 w : World} {B : Nat} {l l' : List As} (h : M w0 B w l) (hs : l'.Perm l) : M w0 B w l' :=
  ⟨fun a ha => h.holds a (hs.mem_iff.1 ha), (hs.pairwise_iff (fun h => As.apart.symm h)).2 h.apart, h.bl, h.sz⟩
theorem As.holds.mono {w : World} {B B' : Nat} {a : As} (h : a.holds w B) (hb : B' ≤ B) : a.holds w B' := by
  rcases a.is with ⟨b, c, t, rfl⟩ | ⟨e, z, v, n, xs, rfl⟩
  · exact ⟨Nat.le_trans hb h.1, h.2⟩
  · refine ⟨h.own.1, ?_⟩
    rcases h.own.2 with hn | ⟨g, cap, cur, e1, hg, r⟩
    · exact .inl hn
    · exact .inr ⟨g, cap, cur, e1, by omega, r⟩
theorem M.join {w0 w w' : World} {B : Nat} {l l' : List As} (h : M w0 B w l) (k : M w w.heap.size w' l') : M w0 B w' (l' ++ l) := by
  have hm := h.below k.bl
  refine ⟨fun a ha => ?_, ?_, hm.bl, hm.sz⟩
  · rcases List.mem_append.1 ha with ha | ha
    · exact (k.holds a ha).mono h.sz
    · exact hm.holds a ha
  · refine List.pairwise_append.2 ⟨k.apart, h.apart, fun a ha b hb j h1 h2 => ?_⟩
    have e1 := ((k.holds a ha).lt h1).1
    have e2 := ((h.holds b hb).lt h2).2
    omega
theorem M.alloc {w0 w : World} {B : Nat} {l : List As} (h : M w0 B w l) (c : Array Value) (t : TypeId) : M w0 B (w.alloc (.cells c t)) (.blk w.heap.size c t :: l) := by
  have hb : Below w.heap.size w (w.alloc (.cells c t)) := (Below.refl _ _).alloc (Nat.le_refl _) _
  have hm := h.below hb
  refine ⟨fun a ha => ?_, ?_, hm.bl, hm.sz⟩
  · rcases List.mem_cons.1 ha with rfl | ha
    · exact ⟨h.sz, heap_alloc_new w _⟩
    · exact hm.holds a ha
  · refine List.pairwise_cons.2 ⟨fun b hb j h1 h2 => ?_, h.apart⟩
    simp only [As.foot_blk, Option.some.injEq] at h1
    have := ((h.holds b hb).lt h2).2
    omega
theorem M.allocd {w0 w : World} {B : Nat} {l : List As} (h : M w0 B w l) (o : Obj) : M w0 B (w.alloc o) l := h.below ((Below.refl _ _).alloc (Nat.le_refl _) _)
theorem M.drew {w0 w : World} {B : Nat} {l : List As} (h : M w0 B w l) : M w0 B w.drew l := h.below ⟨rfl, rfl, rfl, Nat.le_refl _, fun _ _ => rfl⟩
theorem M.drewN {w0 w : World} {B : Nat} {l : List As} (h : M w0 B w l) (d : Nat) : M w0 B (w.drewN d) l := h.below ⟨rfl, rfl, rfl, Nat.le_refl _, fun _ _ => rfl⟩
theorem M.upd {w0 w w' : World} {B i : Nat} {l : List As} {a a' : As} (h : M w0 B w l) (hi : l[i]? = some a) (hg : w.grownBy w' a.foot) (ha : a'.holds w' B) (hf : a'.foot = a.foot ∨ ∀ k, a'.foot = some k → w.heap.size ≤ k) :
    M w0 B w' (l.set i a') := by
  have hil : i < l.length := (List.getElem?_eq_some_iff.1 hi).1
  have hia : l[i] = a := (List.getElem?_eq_some_iff.1 hi).2
  have key : ∀ b j, l[j]? = some b → j ≠ i → b.holds w' B ∧ ∀ k, a'.foot = some k → b.foot = some k → False := by
    intro b j hj hne
    have hjl : j < l.length := (List.getElem?_eq_some_iff.1 hj).1
    have hjb : l[j] = b := (List.getElem?_eq_some_iff.1 hj).2
    have hap : a.apart b := by
      have hp := List.pairwise_iff_getElem.1 h.apart
      rcases Nat.lt_or_ge i j with hlt | hge
      · have := hp i j hil hjl hlt; rw [hia, hjb] at this; exact this
      · have := hp j i hjl hil (by omega); rw [hia, hjb] at this; exact this.symm
    have hb := h.get hj
    refine ⟨hb.kept fun k hk => ?_, fun k h1 h2 => ?_⟩
    · exact hg.block k (hb.lt hk).2 (fun e => hap k e.symm hk)
    · rcases hf with e | e
      · exact hap k (e ▸ h1) h2
      · have := e k h1; have := (hb.lt h2).2; omega
  refine ⟨fun b hb => ?_, ?_, ?_, Nat.le_trans h.sz hg.size⟩
  · obtain ⟨j, hj⟩ := List.mem_iff_getElem?.1 hb
    rw [List.getElem?_set] at hj
    split at hj
    · cases hj; exact ha
    · rename_i hne; exact (key b j hj (fun e => hne e.symm)).1
  · refine List.pairwise_iff_getElem.2 fun p q hp hq hpq => ?_
    rw [List.length_set] at hp hq
    rw [List.getElem_set, List.getElem_set]
    split
    · rename_i e
      rw [if_neg (by omega)]
      exact (key _ q (List.getElem?_eq_getElem hq) (by omega)).2
    · rename_i e
      split
      · exact fun k h1 h2 => (key _ p (List.getElem?_eq_getElem hp) (by omega)).2 k h2 h1
      · exact List.pairwise_iff_getElem.1 h.apart p q hp hq hpq
  · exact h.bl.grown hg h.sz (fun k hk => ((h.get hi).lt hk).1)
theorem M.store {w0 w : World} {B i b j : Nat} {l : List As} {c c' : Array Value} {t : TypeId} (h : M w0 B w l) (hi : l[i]? = some (.blk b c t)) (u : Value) (hc : c.setIfInBounds j u = c') : M w0 B (w.setCell ⟨b, j, none⟩ u) (l.set i (.blk b c' t)) := by
  have hb := h.get hi
  refine h.upd hi ⟨rfl, rfl, rfl, by simp [World.setCell], fun k _ hk => Below.heap_setCell _ _ _ _ (fun e => hk (by rw [e]; rfl))⟩ ⟨hb.1, ?_⟩ (Or.inl rfl)
  rw [Go.Joins.block_setCell hb.2, hc]
theorem M.storeRow {w0 w : World} {B i g j : Nat} {l : List As} {e : TypeId} {z n cap : Nat} {xs : List Value} (h : M w0 B w l) (hi : l[i]? = some (.row e z (.slice (some ⟨g, 0, none⟩) n cap) n xs)) (u : Value) : M w0 B (w.setCell ⟨g, j, none⟩ u) (l.set i (.row e z (.slice (some ⟨g, 0, none⟩) n cap) n (xs.set j u))) := by
  have hb := h.get hi
  obtain ⟨h1, h2⟩ := World.ownsRow.stored hb j u
  exact h.upd hi h2 h1 (Or.inl rfl)
theorem M.append {w0 w w' : World} {B i : Nat} {l : List As} {e : TypeId} {z n m : Nat} {v v' : Value} {xs ys : List Value} (h : M w0 B w l) (hi : l[i]? = some (.row e z v n xs)) (ho : w'.ownsRow B e z v' m ys) (hg : w.grownBy w' v.ownBlock)
    (hat : v'.ownBlock = v.ownBlock ∨ v'.ownBlock = some w.heap.size) : M w0 B w' (l.set i (.row e z v' m ys)) := by
  refine h.upd hi hg ho ?_
  rcases hat with e1 | e1
  · exact Or.inl e1
  · exact Or.inr fun k hk => by simp only [As.foot_row] at hk; rw [e1] at hk; cases hk; exact Nat.le_refl _
theorem M.cell {w0 w : World} {B i b : Nat} {l : List As} {c : Array Value} {t : TypeId} (h : M w0 B w l) (hi : l[i]? = some (.blk b c t)) (j : Nat) (v : Value) (hv : c[j]? = some v) : w.cell? ⟨b, j, none⟩ = some v := by
  rw [Go.Joins.cell_of_block (h.get hi).2]; exact hv
theorem M.free {w0 w : World} {B i b : Nat} {l : List As} {c : Array Value} {t : TypeId} (h : M w0 B w l) (hi : l[i]? = some (.blk b c t)) (j : Nat) : w.frozen? ⟨b, j, none⟩ = false := Go.Joins.unfrozen_of_block (h.get hi).2 j
theorem M.lt {w0 w : World} {B i b : Nat} {l : List As} {c : Array Value} {t : TypeId} (h : M w0 B w l) (hi : l[i]? = some (.blk b c t)) : b < w.heap.size := lt_of_block (h.get hi).2
theorem As.form {w : World} {B : Nat} {e : TypeId} {z n : Nat} {v : Value} {xs : List Value} (h : As.holds w B (.row e z v n xs)) (hn : 0 < n) : ∃ g cap, v = .slice (some ⟨g, 0, none⟩) n cap := by
  rcases h.own.2 with ⟨-, h0⟩ | ⟨g, cap, cur, rfl, -⟩
  · omega
  · exact ⟨g, cap, rfl⟩
theorem As.form0 {w : World} {B : Nat} {e : TypeId} {z n : Nat} {v : Value} {xs : List Value} (h : As.holds w B (.row e z v n xs)) : ∃ ao cap, v = .slice ao n cap := by
  rcases h.own.2 with ⟨h1, h0⟩ | ⟨g, cap, cur, rfl, -⟩
  · exact ⟨none, 0, by rw [h1, h0]⟩
  · exact ⟨_, cap, rfl⟩
def firstB : ByteArray := ⟨#[48, 45, 45, 45, 45, 45, 45]⟩
theorem first_unp : Unp firstB.data.toList ⟨0, -1, 10000, [], []⟩ := ⟨by decide, by decide⟩
end Go.Proofs.YtajobgmnmbnhiaaGreatDoor.Sap
