/- WHAT IS PROVED HERE: saplingkeep.node answers a right node, in new lists of its own, where it is no leaf. Conditions: its numbers are ints, its lists no longer than memory bears. -/
import Derived.Test.YtajobgmnmbnhiaaDoorR4
namespace Go.Proofs.YtajobgmnmbnhiaaDoor.Sap
open Go.RowKit

set_option maxRecDepth 100000 in
set_option maxHeartbeats 6400000 in
theorem node_inner (level high link : Int) (raw vals : Value) (rs us : List Int) (w : World) (h0 : In64 level) (h1 : In64 high) (h2 : In64 link) (hr : Rd w raw rs) (hv : Rd w vals us)
    (hrl : rs.length ≤ 17592186044416) (hul : us.length ≤ 17592186044416) (hrw : ∀ x ∈ rs, In64 x) (huw : ∀ x ∈ us, In64 x) (hlv : ¬ pickV level 10 = 0) :
    Calls Tryd.prog 23 #[.int .i64 level, .int .i64 high, .int .i64 link, raw, vals] w fun e w' => NodeR w w' e := by
  obtain ⟨i0, hi0, hz0, hz1, hz2⟩ := info_parts infoInt
  have HR := hideIt hr
  have HV := hideIt hv
  have HRW := hideIt hrw
  have HUW := hideIt huw
  have H1 := hideIt h1
  have H2 := hideIt h2
  obtain ⟨ar, cr, rfl⟩ := hr.len
  obtain ⟨au, cu, rfl⟩ := hv.len
  obtain ⟨nr, hnr⟩ : ∃ n, rs.length = n := ⟨_, rfl⟩
  obtain ⟨nu, hnu⟩ : ∃ n, us.length = n := ⟨_, rfl⟩
  rw [hnr] at HR hrl ⊢
  rw [hnu] at HV hul ⊢
  have HNR := hideIt hnr
  have HNU := hideIt hnu
  clear hr hv hrw huw h1 h2 hnr hnu
  go_enter Tryd.func23, Tryd.ntmps23
  go_wp2_with fail
  refine (pick_exact level 10 _ h0.1 h0.2 (by omega) (by omega)).mono ?_
  rintro e w1 ⟨rfl, rfl⟩
  obtain ⟨hl0, hl9⟩ := pickV_bd level 10 (by omega)
  obtain ⟨lv, hlve⟩ : ∃ lv, pickV level 10 = lv := ⟨_, rfl⟩
  rw [hlve] at hl0 hl9 hlv ⊢
  have HLVv := hideIt hlv
  clear hlve hlv
  clear h0
  go_upto_if 21 with fail
  go_cut [] (fun wr => ∃ lk hi : Int, Hid ((lk = -1 ∧ hi = 10000) ∨ (1 ≤ lk ∧ lk ≤ 63 ∧ 1 ≤ hi ∧ hi ≤ 9999)) ∧ wr = (w.alloc (.cells #[.int .i64 0, .int .i64 0, .int .i64 0, .slice none 0 0, .slice none 0 0] 24)).alloc (.cells #[.int .i64 lv, .int .i64 lk, .int .i64 hi, .slice none 0 0, .slice none 0 0] 24))
  case first =>
    by_cases hh : 0 ≤ high
    · go_wp2_with fail
      refine (pick_any high 9999 _ H1.out.1 H1.out.2 (by omega) (by omega)).mono ?_
      rintro e w1 ⟨⟨r1, rfl, hr0, hr1⟩, rfl⟩
      go_wp2_with fail
      refine (pick_any link 63 _ H2.out.1 H2.out.2 (by omega) (by omega)).mono ?_
      rintro e w1 ⟨⟨r2, rfl, hr2, hr3⟩, rfl⟩
      go_wp2
      go_meet
      case rel => exact ⟨1 + r2, 1 + r1, Or.inr ⟨by omega, by omega, by omega, by omega⟩, rfl⟩
    · go_wp2
      go_meet
      case rel => exact ⟨-1, 10000, Or.inl ⟨rfl, rfl⟩, rfl⟩
  case rest =>
    obtain ⟨lk, hi, hE, rfl⟩ := hcut
    clear H1 H2
    have hhi1 : 1 ≤ hi := by have := hE.out; omega
    have hhi2 : hi ≤ 10000 := by have := hE.out; omega
    have hRest := hideIt (show ∀ (W : World), W = (w.alloc (.cells #[.int .i64 0, .int .i64 0, .int .i64 0, .slice none 0 0, .slice none 0 0] 24)).alloc (.cells #[.int .i64 lv, .int .i64 lk, .int .i64 hi, .slice none 0 0, .slice none 0 0] 24) → W.heap.size = w.heap.size + 1 + 1 ∧ W.heap[w.heap.size]? = some (.cells #[.int .i64 0, .int .i64 0, .int .i64 0, .slice none 0 0, .slice none 0 0] 24 (0, 0)) ∧ W.heap[w.heap.size + 1]? = some (.cells #[.int .i64 lv, .int .i64 lk, .int .i64 hi, .slice none 0 0, .slice none 0 0] 24 (0, 0)) ∧ Below w.heap.size w W by
      intro W hW
      subst hW
      refine ⟨by simp, ?_, ?_, below_alloc2 w _ _⟩
      · rw [Below.heap_alloc _ _ _ (by simp)]; exact heap_alloc_new w _
      · have := heap_alloc_new (w.alloc (.cells #[.int .i64 0, .int .i64 0, .int .i64 0, .slice none 0 0, .slice none 0 0] 24)) (.cells #[.int .i64 lv, .int .i64 lk, .int .i64 hi, .slice none 0 0, .slice none 0 0] 24)
        simpa using this)
    have hlv := HLVv.out
    clear HLVv
    have hlb : (lv == 0) = false := by simp [hlv]
    have hl1 : 1 ≤ lv := by omega
    have HLV := hideIt hlv
    have HLE : Hid (least lv = 0) := by unfold Hid least; rw [if_neg hlv]
    clear hlv
    go_wp2_with fail
    refine (sorted_any (.slice ar nr cr) rs _ (HR.out.below (hRest.out _ rfl).2.2.2) (by rw [HNR.out]; exact hrl) (fun x hx => HRW.out x hx)).mono ?_
    rintro e w2 ⟨kvs, K, rfl, hKo, hKk, hKl, hb⟩
    have hR := hRest.out _ rfl
    rw [hR.1] at hKo
    have hR2 := hideIt (block_below hR.2.1 hb)
    have hR3 := block_below hR.2.2.1 hb
    have hb2 := step hR.2.2.2 hb
    have hsz2 := hb.size
    rw [hR.1] at hsz2
    have HKO := hideIt hKo
    have HKK := hideIt hKk
    obtain ⟨ak, ck, rfl⟩ := own_form hKo
    obtain ⟨m, hm⟩ : ∃ m, K.length = m := ⟨_, rfl⟩
    rw [hm] at HKO hKl ⊢
    have HM := hideIt hm
    have HN0 : NX w2 (w.heap.size + 1) w2.heap.size lv lk hi (.slice none 0 0) (.slice none 0 0) [] [] := ⟨hR3, ⟨World.ownsRow_nil _ _ _ _, World.ownsRow_nil _ _ _ _, fun g hg => by simp [Value.ownBlock] at hg⟩, by omega, Nat.le_refl _⟩
    have HN0' := hideIt HN0
    clear hR hR3 hb hKo hKk hm HN0 hRest
    go_wp2_with fail
    go_loopw [14] (fun iv wr => ∃ (i : Nat) (kv vv : Value) (ks vs : List Int), i ≤ m ∧ iv = .int .i64 i ∧ Hid (NX wr (w.heap.size + 1) w2.heap.size lv lk hi kv vv ks vs) ∧ Hid (NInv lv hi K i ks vs) ∧ ks.length ≤ 6 ∧ But (w.heap.size + 1) w2.heap.size w2 wr) (fun iv _ => m - (intOf iv).toNat)
    case atStart => exact ⟨0, _, _, [], [], Nat.zero_le _, rfl, HN0'.out, ⟨rfl, rfl, rfl, (fun x hx => by cases hx), (fun _ => rfl), (fun _ h => by omega)⟩, by simp, But.refl _ _ _⟩
    case round =>
      obtain ⟨i, kv, vv, ks, vs, hi', rfl, hNX, hinv, hks, hbut⟩ := hrel
      clear HN0'
      obtain ⟨akv, ckv, rfl⟩ := own_form hNX.out.2.1.1
      obtain ⟨avv, cvv, rfl⟩ := own_form hNX.out.2.1.2.1
      obtain ⟨⟨q0, q1, q2, q3, q4⟩, ⟨f0, f1, f2, f3, f4⟩⟩ := node_cells hNX.out.1
      have hwsz := hNX.out.2.2.2
      have hlen := hinv.out.2.2.1
      obtain ⟨p, hp⟩ : ∃ p, ks.length = p := ⟨_, rfl⟩
      have hp2 : vs.length = p := by omega
      rw [hp2] at q4
      rw [hp] at q3 hks
      have hNXp : NX wr (w.heap.size + 1) w2.heap.size lv lk hi (.slice akv p ckv) (.slice avv p cvv) ks vs := by
        have h' := hNX.out
        rw [hp, hp2] at h'
        exact h'
      have HK1 := hNXp.2.1.1
      have HV1 := hNXp.2.1.2.1
      rw [hp] at HK1
      rw [hp2] at HV1
      have hNX := hideIt hNXp
      have HKR := hideIt HK1
      have HP := hideIt hp
      have HP2 := hideIt hp2
      clear hNXp HK1 HV1 hp2
      have hbw := (hb2.trans ((hbut.below (by omega)).mono (by omega)))
      clear hlen hp
      by_cases hlt : i < m
      · by_cases hpm : p < 6
        · have hKr := owns_but HKO.out hbut (by omega) (fun g hg => (HKO.out.lt g hg).2)
          obtain ⟨g, rfl, hcell, -⟩ := own_elem hKr i hlt
          clear hKr
          have hxm := mem_at (xs := K) (k := i) (by rw [HM.out]; exact hlt)
          have hx1 := keys_lo _ _ _ HKK.out _ hxm
          have hx2 := (keys_bd _ _ _ HKK.out (by omega) (by omega) _ hxm).2
          obtain ⟨x, hx⟩ : ∃ x, K[i]?.getD 0 = x := ⟨_, rfl⟩
          rw [hx] at hcell hx1 hx2
          have HX := hideIt hx
          have hkk : (0 : Int) ≤ (i : Int) := by omega
          have hkl : (i : Int) < (m : Int) := by omega
          clear hxm hx
          rcases Nat.eq_zero_or_pos i with hi0' | hi0'
          · have hib : ((i : Int) == 0) = true := by simp [hi0']
            have hi00 : (i : Int) ≤ 0 := by omega
            have HI0 := hideIt hi0'
            clear hi0'
            by_cases hnu : nu = 0
            · have hnu1 : nu ≤ 0 := by omega
              clear hnu
              go_wp2_with fail
              refine (pick_any 0 63 _ (by omega) (by omega) (by omega) (by omega)).mono ?_
              rintro e w9 ⟨⟨r, rfl, hr0, hr1⟩, rfl⟩
              have hval := hideIt (show valOk lv (1 + r) = true by unfold valOk; rw [if_neg HLV.out]; simp [pageOk]; omega)
              have hnext := hideIt (hinv.out.push (k := 0) (v := (1 + r)) HKK.out (by rw [HM.out]; exact hlt) (by rw [HLE.out]; omega) (by omega) (by rw [HX.out]; omega) (fun h => absurd HI0.out h) hval.out)
              go_wp2_with (first | (at_builtin; refine wpList_append_own_at _ rfl _ _ 22 rfl w2.heap.size 3 i0 (.int .i64 0) 1 8 Tryd.underlying22 hi0 hz0 hz1 hz2 rfl (by decide) _ p (ints ks) rfl (HKR.out.alloc _) ⟨w9.heap.size, 0, none⟩ 1 1 [.int .i64 0] rfl rfl (news_one _ _ _) (by simp [Value.oneCell']) (by unfold maxLen; omega) (by omega) (by simp; omega) ?_; intro v1 w4 hown hgrow _ hat; obtain ⟨b1, cp1, rfl⟩ := own_form hown; have hpush := hNX.out.pushK (x := 0) (by rw [HP.out]; exact hown) hgrow hat; have hmid := hNX.out.mid hgrow (Or.inl rfl); obtain ⟨hpN, hpB⟩ := hpush; clear q0 q1 q2 q3 q4 f0 f1 f2 f3 f4 hown hgrow hat; obtain ⟨⟨q0, q1, q2, q3, q4⟩, ⟨f0, f1, f2, f3, f4⟩⟩ := node_cells hmid.1; have HPN := hideIt hpN; have hsz5 := hpN.2.2.2; clear hpN hmid) | (at_builtin; refine wpList_append_own_at _ rfl _ _ 22 rfl w2.heap.size 3 i0 (.int .i64 0) 1 8 Tryd.underlying22 hi0 hz0 hz1 hz2 rfl (by decide) _ p (ints vs) rfl (by have h' := HPN.out.2.1.2.1; rw [HP2.out] at h'; exact h'.alloc _) ⟨w4.heap.size, 0, none⟩ 1 1 [.int .i64 (1 + r)] rfl rfl (by have := news_one (w4.setCell ⟨w.heap.size + 1, 3, none⟩ (.slice b1 (p + 1) cp1)) (.int .i64 (1 + r)) 3; simpa using this) (by simp [Value.oneCell']) (by unfold maxLen; omega) (by omega) (by simp at hsz5 ⊢; omega) ?_; intro v2 w5 hown hgrow _ hat; obtain ⟨b2, cp2, rfl⟩ := own_form hown; have hpush := HPN.out.pushV (x := (1 + r)) (by rw [HP2.out]; exact hown) hgrow hat; have hmid := HPN.out.mid hgrow (Or.inr rfl); obtain ⟨hpN, hpB2⟩ := hpush; clear q0 q1 q2 q3 q4 f0 f1 f2 f3 f4 hown hgrow hat; obtain ⟨⟨q0, q1, q2, q3, q4⟩, ⟨f0, f1, f2, f3, f4⟩⟩ := node_cells hmid.1; have HPN2 := hideIt hpN; clear hpN hmid))
              have hbut5 := hideIt (hbut.trans (hpB.trans hpB2))
              clear hpB hpB2
              go_wp2
              go_roundw
              case rel => exact ⟨i + 1, _, _, ks ++ [0], vs ++ [(1 + r)], by omega, by go_num, HPN2.out, hnext, by rw [List.length_append, HP.out]; show p + 1 ≤ _; omega, hbut5.out⟩
              case measure => simp [intOf]; omega
            · have hnu1 : 0 < nu := by omega
              have hnub : ((nu : Int) == 0) = false := by simp; omega
              obtain ⟨hre, hrl2⟩ := rem_small i nu hnu1
              obtain ⟨bu, ou, rfl, hul2, hcu⟩ := HV.out.elem (i % nu) hrl2
              have hcu1 := hcu wr hbw
              have hub := HUW.out _ (mem_at hul2)
              obtain ⟨u, hu⟩ : ∃ u, us[i % nu]?.getD 0 = u := ⟨_, rfl⟩
              rw [hu] at hcu1 hub
              have HUB := hideIt hub
              have hm0 : (0 : Int) ≤ (i : Int) % (nu : Int) := Int.emod_nonneg _ (by omega)
              have hm1 : (i : Int) % (nu : Int) < (nu : Int) := Int.emod_lt_of_pos _ (by omega)
              clear hre hcu hul2 hu hub hnu
              go_wp2_with fail
              refine (pick_any u 63 _ HUB.out.1 HUB.out.2 (by omega) (by omega)).mono ?_
              rintro e w9 ⟨⟨r, rfl, hr0, hr1⟩, rfl⟩
              have hval := hideIt (show valOk lv (1 + r) = true by unfold valOk; rw [if_neg HLV.out]; simp [pageOk]; omega)
              have hnext := hideIt (hinv.out.push (k := 0) (v := (1 + r)) HKK.out (by rw [HM.out]; exact hlt) (by rw [HLE.out]; omega) (by omega) (by rw [HX.out]; omega) (fun h => absurd HI0.out h) hval.out)
              go_wp2_with (first | (at_builtin; refine wpList_append_own_at _ rfl _ _ 22 rfl w2.heap.size 3 i0 (.int .i64 0) 1 8 Tryd.underlying22 hi0 hz0 hz1 hz2 rfl (by decide) _ p (ints ks) rfl (HKR.out.alloc _) ⟨w9.heap.size, 0, none⟩ 1 1 [.int .i64 0] rfl rfl (news_one _ _ _) (by simp [Value.oneCell']) (by unfold maxLen; omega) (by omega) (by simp; omega) ?_; intro v1 w4 hown hgrow _ hat; obtain ⟨b1, cp1, rfl⟩ := own_form hown; have hpush := hNX.out.pushK (x := 0) (by rw [HP.out]; exact hown) hgrow hat; have hmid := hNX.out.mid hgrow (Or.inl rfl); obtain ⟨hpN, hpB⟩ := hpush; clear q0 q1 q2 q3 q4 f0 f1 f2 f3 f4 hown hgrow hat; obtain ⟨⟨q0, q1, q2, q3, q4⟩, ⟨f0, f1, f2, f3, f4⟩⟩ := node_cells hmid.1; have HPN := hideIt hpN; have hsz5 := hpN.2.2.2; clear hpN hmid) | (at_builtin; refine wpList_append_own_at _ rfl _ _ 22 rfl w2.heap.size 3 i0 (.int .i64 0) 1 8 Tryd.underlying22 hi0 hz0 hz1 hz2 rfl (by decide) _ p (ints vs) rfl (by have h' := HPN.out.2.1.2.1; rw [HP2.out] at h'; exact h'.alloc _) ⟨w4.heap.size, 0, none⟩ 1 1 [.int .i64 (1 + r)] rfl rfl (by have := news_one (w4.setCell ⟨w.heap.size + 1, 3, none⟩ (.slice b1 (p + 1) cp1)) (.int .i64 (1 + r)) 3; simpa using this) (by simp [Value.oneCell']) (by unfold maxLen; omega) (by omega) (by simp at hsz5 ⊢; omega) ?_; intro v2 w5 hown hgrow _ hat; obtain ⟨b2, cp2, rfl⟩ := own_form hown; have hpush := HPN.out.pushV (x := (1 + r)) (by rw [HP2.out]; exact hown) hgrow hat; have hmid := HPN.out.mid hgrow (Or.inr rfl); obtain ⟨hpN, hpB2⟩ := hpush; clear q0 q1 q2 q3 q4 f0 f1 f2 f3 f4 hown hgrow hat; obtain ⟨⟨q0, q1, q2, q3, q4⟩, ⟨f0, f1, f2, f3, f4⟩⟩ := node_cells hmid.1; have HPN2 := hideIt hpN; clear hpN hmid))
              have hbut5 := hideIt (hbut.trans (hpB.trans hpB2))
              clear hpB hpB2
              go_wp2
              go_roundw
              case rel => exact ⟨i + 1, _, _, ks ++ [0], vs ++ [(1 + r)], by omega, by go_num, HPN2.out, hnext, by rw [List.length_append, HP.out]; show p + 1 ≤ _; omega, hbut5.out⟩
              case measure => simp [intOf]; omega
          · have hib : ((i : Int) == 0) = false := by simp; omega
            by_cases hc : hi ≤ x
            · skip
              have hskip := hideIt (hinv.out.skip HKK.out (by rw [HM.out]; exact hlt) (fun _ => hinv.out.2.2.2.2.2 HLV.out hi0'))
              go_wp2
              go_roundw
              case rel => exact ⟨i + 1, .slice akv p ckv, .slice avv p cvv, ks, vs, by omega, by go_num, hNX, hskip, by rw [HP.out]; exact hks, hbut⟩
              case measure => simp [intOf]; omega
            by_cases hnu : nu = 0
            · have hnu1 : nu ≤ 0 := by omega
              clear hnu
              go_wp2_with fail
              refine (pick_any 0 63 _ (by omega) (by omega) (by omega) (by omega)).mono ?_
              rintro e w9 ⟨⟨r, rfl, hr0, hr1⟩, rfl⟩
              have hval := hideIt (show valOk lv (1 + r) = true by unfold valOk; rw [if_neg HLV.out]; simp [pageOk]; omega)
              have hnext := hideIt (hinv.out.push (k := x) (v := (1 + r)) HKK.out (by rw [HM.out]; exact hlt) (by rw [HLE.out]; omega) (by omega) (by rw [HX.out]; omega) (fun _ => HX.out.symm) hval.out)
              go_wp2_with (first | (at_builtin; refine wpList_append_own_at _ rfl _ _ 22 rfl w2.heap.size 3 i0 (.int .i64 0) 1 8 Tryd.underlying22 hi0 hz0 hz1 hz2 rfl (by decide) _ p (ints ks) rfl (HKR.out.alloc _) ⟨w9.heap.size, 0, none⟩ 1 1 [.int .i64 x] rfl rfl (news_one _ _ _) (by simp [Value.oneCell']) (by unfold maxLen; omega) (by omega) (by simp; omega) ?_; intro v1 w4 hown hgrow _ hat; obtain ⟨b1, cp1, rfl⟩ := own_form hown; have hpush := hNX.out.pushK (x := x) (by rw [HP.out]; exact hown) hgrow hat; have hmid := hNX.out.mid hgrow (Or.inl rfl); obtain ⟨hpN, hpB⟩ := hpush; clear q0 q1 q2 q3 q4 f0 f1 f2 f3 f4 hown hgrow hat; obtain ⟨⟨q0, q1, q2, q3, q4⟩, ⟨f0, f1, f2, f3, f4⟩⟩ := node_cells hmid.1; have HPN := hideIt hpN; have hsz5 := hpN.2.2.2; clear hpN hmid) | (at_builtin; refine wpList_append_own_at _ rfl _ _ 22 rfl w2.heap.size 3 i0 (.int .i64 0) 1 8 Tryd.underlying22 hi0 hz0 hz1 hz2 rfl (by decide) _ p (ints vs) rfl (by have h' := HPN.out.2.1.2.1; rw [HP2.out] at h'; exact h'.alloc _) ⟨w4.heap.size, 0, none⟩ 1 1 [.int .i64 (1 + r)] rfl rfl (by have := news_one (w4.setCell ⟨w.heap.size + 1, 3, none⟩ (.slice b1 (p + 1) cp1)) (.int .i64 (1 + r)) 3; simpa using this) (by simp [Value.oneCell']) (by unfold maxLen; omega) (by omega) (by simp at hsz5 ⊢; omega) ?_; intro v2 w5 hown hgrow _ hat; obtain ⟨b2, cp2, rfl⟩ := own_form hown; have hpush := HPN.out.pushV (x := (1 + r)) (by rw [HP2.out]; exact hown) hgrow hat; have hmid := HPN.out.mid hgrow (Or.inr rfl); obtain ⟨hpN, hpB2⟩ := hpush; clear q0 q1 q2 q3 q4 f0 f1 f2 f3 f4 hown hgrow hat; obtain ⟨⟨q0, q1, q2, q3, q4⟩, ⟨f0, f1, f2, f3, f4⟩⟩ := node_cells hmid.1; have HPN2 := hideIt hpN; clear hpN hmid))
              have hbut5 := hideIt (hbut.trans (hpB.trans hpB2))
              clear hpB hpB2
              go_wp2
              go_roundw
              case rel => exact ⟨i + 1, _, _, ks ++ [x], vs ++ [(1 + r)], by omega, by go_num, HPN2.out, hnext, by rw [List.length_append, HP.out]; show p + 1 ≤ _; omega, hbut5.out⟩
              case measure => simp [intOf]; omega
            · have hnu1 : 0 < nu := by omega
              have hnub : ((nu : Int) == 0) = false := by simp; omega
              obtain ⟨hre, hrl2⟩ := rem_small i nu hnu1
              obtain ⟨bu, ou, rfl, hul2, hcu⟩ := HV.out.elem (i % nu) hrl2
              have hcu1 := hcu wr hbw
              have hub := HUW.out _ (mem_at hul2)
              obtain ⟨u, hu⟩ : ∃ u, us[i % nu]?.getD 0 = u := ⟨_, rfl⟩
              rw [hu] at hcu1 hub
              have HUB := hideIt hub
              have hm0 : (0 : Int) ≤ (i : Int) % (nu : Int) := Int.emod_nonneg _ (by omega)
              have hm1 : (i : Int) % (nu : Int) < (nu : Int) := Int.emod_lt_of_pos _ (by omega)
              clear hre hcu hul2 hu hub hnu
              go_wp2_with fail
              refine (pick_any u 63 _ HUB.out.1 HUB.out.2 (by omega) (by omega)).mono ?_
              rintro e w9 ⟨⟨r, rfl, hr0, hr1⟩, rfl⟩
              have hval := hideIt (show valOk lv (1 + r) = true by unfold valOk; rw [if_neg HLV.out]; simp [pageOk]; omega)
              have hnext := hideIt (hinv.out.push (k := x) (v := (1 + r)) HKK.out (by rw [HM.out]; exact hlt) (by rw [HLE.out]; omega) (by omega) (by rw [HX.out]; omega) (fun _ => HX.out.symm) hval.out)
              go_wp2_with (first | (at_builtin; refine wpList_append_own_at _ rfl _ _ 22 rfl w2.heap.size 3 i0 (.int .i64 0) 1 8 Tryd.underlying22 hi0 hz0 hz1 hz2 rfl (by decide) _ p (ints ks) rfl (HKR.out.alloc _) ⟨w9.heap.size, 0, none⟩ 1 1 [.int .i64 x] rfl rfl (news_one _ _ _) (by simp [Value.oneCell']) (by unfold maxLen; omega) (by omega) (by simp; omega) ?_; intro v1 w4 hown hgrow _ hat; obtain ⟨b1, cp1, rfl⟩ := own_form hown; have hpush := hNX.out.pushK (x := x) (by rw [HP.out]; exact hown) hgrow hat; have hmid := hNX.out.mid hgrow (Or.inl rfl); obtain ⟨hpN, hpB⟩ := hpush; clear q0 q1 q2 q3 q4 f0 f1 f2 f3 f4 hown hgrow hat; obtain ⟨⟨q0, q1, q2, q3, q4⟩, ⟨f0, f1, f2, f3, f4⟩⟩ := node_cells hmid.1; have HPN := hideIt hpN; have hsz5 := hpN.2.2.2; clear hpN hmid) | (at_builtin; refine wpList_append_own_at _ rfl _ _ 22 rfl w2.heap.size 3 i0 (.int .i64 0) 1 8 Tryd.underlying22 hi0 hz0 hz1 hz2 rfl (by decide) _ p (ints vs) rfl (by have h' := HPN.out.2.1.2.1; rw [HP2.out] at h'; exact h'.alloc _) ⟨w4.heap.size, 0, none⟩ 1 1 [.int .i64 (1 + r)] rfl rfl (by have := news_one (w4.setCell ⟨w.heap.size + 1, 3, none⟩ (.slice b1 (p + 1) cp1)) (.int .i64 (1 + r)) 3; simpa using this) (by simp [Value.oneCell']) (by unfold maxLen; omega) (by omega) (by simp at hsz5 ⊢; omega) ?_; intro v2 w5 hown hgrow _ hat; obtain ⟨b2, cp2, rfl⟩ := own_form hown; have hpush := HPN.out.pushV (x := (1 + r)) (by rw [HP2.out]; exact hown) hgrow hat; have hmid := HPN.out.mid hgrow (Or.inr rfl); obtain ⟨hpN, hpB2⟩ := hpush; clear q0 q1 q2 q3 q4 f0 f1 f2 f3 f4 hown hgrow hat; obtain ⟨⟨q0, q1, q2, q3, q4⟩, ⟨f0, f1, f2, f3, f4⟩⟩ := node_cells hmid.1; have HPN2 := hideIt hpN; clear hpN hmid))
              have hbut5 := hideIt (hbut.trans (hpB.trans hpB2))
              clear hpB hpB2
              go_wp2
              go_roundw
              case rel => exact ⟨i + 1, _, _, ks ++ [x], vs ++ [(1 + r)], by omega, by go_num, HPN2.out, hnext, by rw [List.length_append, HP.out]; show p + 1 ≤ _; omega, hbut5.out⟩
              case measure => simp [intOf]; omega
        · skip
          have hpb : ((p : Int) == 0) = false := by simp; omega
          have hres := (hbut.2.2.2.2 w.heap.size (by omega) (by omega)).trans hR2.out
          obtain ⟨⟨r0, r1, r2, r3, r4⟩, ⟨e0, e1, e2, e3, e4⟩⟩ := node_cells hres
          have hright := hideIt (show rightB ⟨lv, lk, hi, ks, vs⟩ = true by
            rw [rr_yes lv lk hi ks vs (by omega) (by omega) (by have := hE.out; omega) hinv.out.2.2.1 (by unfold cntOk; rw [if_neg HLV.out, HP.out]; simp; omega), hinv.out.1, hinv.out.2.1]; rfl)
          clear hres
          go_wp2
          refine bodyPost_ret (v := .agg #[.int .i64 lv, .int .i64 lk, .int .i64 hi, .slice akv p ckv, .slice avv p cvv]) (by simp [results, Tryd.results23, go_sem, *]) rfl ⟨⟨lv, lk, hi, ks, vs⟩, .slice akv p ckv, .slice avv p cvv, hright.out, rfl, ?_, ?_⟩
          · have hO := hNX.out.2.1
            refine Own.mono (B := w2.heap.size) ?_ (by omega)
            repeat (refine Own.setCell ?_ (by show w.heap.size < _; omega) _)
            exact hO
          · repeat (refine Below.setCell ?_ (by simp) _)
            exact hbw
      · by_cases hpm : p < 6
        · skip
          by_cases hp0 : p = 0
          · skip
            have hks0 : ks = [] := List.eq_nil_of_length_eq_zero (by rw [HP.out]; exact hp0)
            have hvs0 : vs = [] := List.eq_nil_of_length_eq_zero (by rw [HP2.out]; exact hp0)
            have hpb : ((p : Int) == 0) = true := by simp [hp0]
            have hpl : p ≤ 0 := by omega
            have hres := (hbut.2.2.2.2 w.heap.size (by omega) (by omega)).trans hR2.out
            have hright := hideIt (show rightB ⟨lv, lk, hi, ks ++ [0], vs ++ [1]⟩ = true by
              rw [hks0, hvs0]
              show rightB ⟨lv, lk, hi, [0], [1]⟩ = true
              rw [rr_yes lv lk hi [0] [1] (by omega) (by omega) (by have := hE.out; omega) rfl (by unfold cntOk; rw [if_neg HLV.out]; rfl), HLE.out]
              simp [keysOk, valsOk, valOk, pageOk, HLV.out]; omega)
            have HRS := hideIt hres
            clear hres hks0 hvs0 hp0
            go_wp2_with (first | (at_builtin; refine wpList_append_own_at _ rfl _ _ 22 rfl w2.heap.size 3 i0 (.int .i64 0) 1 8 Tryd.underlying22 hi0 hz0 hz1 hz2 rfl (by decide) _ p (ints ks) rfl (HKR.out.alloc _) ⟨wr.heap.size, 0, none⟩ 1 1 [.int .i64 0] rfl rfl (news_one _ _ _) (by simp [Value.oneCell']) (by unfold maxLen; omega) (by omega) (by simp; omega) ?_; intro v1 w4 hown hgrow _ hat; obtain ⟨b1, cp1, rfl⟩ := own_form hown; have hpush := hNX.out.pushK (x := 0) (by rw [HP.out]; exact hown) hgrow hat; have hmid := hNX.out.mid hgrow (Or.inl rfl); obtain ⟨hpN, hpB⟩ := hpush; clear q0 q1 q2 q3 q4 f0 f1 f2 f3 f4 hown hgrow hat; obtain ⟨⟨q0, q1, q2, q3, q4⟩, ⟨f0, f1, f2, f3, f4⟩⟩ := node_cells hmid.1; have HPN := hideIt hpN; have hsz5 := hpN.2.2.2; clear hpN hmid) | (at_builtin; refine wpList_append_own_at _ rfl _ _ 22 rfl w2.heap.size 3 i0 (.int .i64 0) 1 8 Tryd.underlying22 hi0 hz0 hz1 hz2 rfl (by decide) _ p (ints vs) rfl (by have h' := HPN.out.2.1.2.1; rw [HP2.out] at h'; exact h'.alloc _) ⟨w4.heap.size, 0, none⟩ 1 1 [.int .i64 1] rfl rfl (by have := news_one (w4.setCell ⟨w.heap.size + 1, 3, none⟩ (.slice b1 (p + 1) cp1)) (.int .i64 1) 3; simpa using this) (by simp [Value.oneCell']) (by unfold maxLen; omega) (by omega) (by simp at hsz5 ⊢; omega) ?_; intro v2 w5 hown hgrow _ hat; obtain ⟨b2, cp2, rfl⟩ := own_form hown; have hpush := HPN.out.pushV (x := 1) (by rw [HP2.out]; exact hown) hgrow hat; have hmid := HPN.out.mid hgrow (Or.inr rfl); obtain ⟨hpN, hpB2⟩ := hpush; have hres5 := (mid_but hgrow HPN.out.2.2.2 hmid.2 w.heap.size (by omega)).trans ((hpB.2.2.2.2 w.heap.size (by omega) (by omega)).trans HRS.out); clear q0 q1 q2 q3 q4 f0 f1 f2 f3 f4 hown hgrow hat; obtain ⟨⟨q0, q1, q2, q3, q4⟩, ⟨f0, f1, f2, f3, f4⟩⟩ := node_cells hmid.1; have HPN2 := hideIt hpN; obtain ⟨⟨r0, r1, r2, r3, r4⟩, ⟨e0, e1, e2, e3, e4⟩⟩ := node_cells hres5; clear hpN hmid hres5))
            have hw5 := hb2.trans (((hbut.trans (hpB.trans hpB2)).below (by omega)).mono (by omega))
            go_wp2
            refine bodyPost_ret (v := .agg #[.int .i64 lv, .int .i64 lk, .int .i64 hi, .slice b1 (p + 1) cp1, .slice b2 (p + 1) cp2]) (by simp [results, Tryd.results23, go_sem, *]) rfl ⟨⟨lv, lk, hi, ks ++ [0], vs ++ [1]⟩, .slice b1 (p + 1) cp1, .slice b2 (p + 1) cp2, hright.out, rfl, ?_, ?_⟩
            · have hO := HPN2.out.2.1
              refine Own.mono (B := w2.heap.size) ?_ (by omega)
              repeat (refine Own.setCell ?_ (by show w.heap.size < _; omega) _)
              exact hO
            · repeat (refine Below.setCell ?_ (by show w.heap.size ≤ w.heap.size; omega) _)
              exact hw5
          · have hpb : ((p : Int) == 0) = false := by simp; omega
            have hres := (hbut.2.2.2.2 w.heap.size (by omega) (by omega)).trans hR2.out
            obtain ⟨⟨r0, r1, r2, r3, r4⟩, ⟨e0, e1, e2, e3, e4⟩⟩ := node_cells hres
            have hright := hideIt (show rightB ⟨lv, lk, hi, ks, vs⟩ = true by
              rw [rr_yes lv lk hi ks vs (by omega) (by omega) (by have := hE.out; omega) hinv.out.2.2.1 (by unfold cntOk; rw [if_neg HLV.out, HP.out]; simp; omega), hinv.out.1, hinv.out.2.1]; rfl)
            clear hres
            go_wp2
            refine bodyPost_ret (v := .agg #[.int .i64 lv, .int .i64 lk, .int .i64 hi, .slice akv p ckv, .slice avv p cvv]) (by simp [results, Tryd.results23, go_sem, *]) rfl ⟨⟨lv, lk, hi, ks, vs⟩, .slice akv p ckv, .slice avv p cvv, hright.out, rfl, ?_, ?_⟩
            · have hO := hNX.out.2.1
              refine Own.mono (B := w2.heap.size) ?_ (by omega)
              repeat (refine Own.setCell ?_ (by show w.heap.size < _; omega) _)
              exact hO
            · repeat (refine Below.setCell ?_ (by simp) _)
              exact hbw
        · skip
          have hpb : ((p : Int) == 0) = false := by simp; omega
          have hres := (hbut.2.2.2.2 w.heap.size (by omega) (by omega)).trans hR2.out
          obtain ⟨⟨r0, r1, r2, r3, r4⟩, ⟨e0, e1, e2, e3, e4⟩⟩ := node_cells hres
          have hright := hideIt (show rightB ⟨lv, lk, hi, ks, vs⟩ = true by
            rw [rr_yes lv lk hi ks vs (by omega) (by omega) (by have := hE.out; omega) hinv.out.2.2.1 (by unfold cntOk; rw [if_neg HLV.out, HP.out]; simp; omega), hinv.out.1, hinv.out.2.1]; rfl)
          clear hres
          go_wp2
          refine bodyPost_ret (v := .agg #[.int .i64 lv, .int .i64 lk, .int .i64 hi, .slice akv p ckv, .slice avv p cvv]) (by simp [results, Tryd.results23, go_sem, *]) rfl ⟨⟨lv, lk, hi, ks, vs⟩, .slice akv p ckv, .slice avv p cvv, hright.out, rfl, ?_, ?_⟩
          · have hO := hNX.out.2.1
            refine Own.mono (B := w2.heap.size) ?_ (by omega)
            repeat (refine Own.setCell ?_ (by show w.heap.size < _; omega) _)
            exact hO
          · repeat (refine Below.setCell ?_ (by simp) _)
            exact hbw
end Go.Proofs.YtajobgmnmbnhiaaDoor.Sap
