/- WHAT IS PROVED HERE: saplingkeep.grown makes pages that stand, or says that it cannot. Conditions: the table of powers of ten is laid; the numbers are ints. -/
import Derived.Test.YtajobgmnmbnhiaaGreatDoorXW5Mem
import Derived.Test.YtajobgmnmbnhiaaGreatDoorXL3D2
import Derived.Test.YtajobgmnmbnhiaaGreatDoorXL8S6
namespace Go.Proofs.YtajobgmnmbnhiaaGreatDoor.Sap
open Go.RowKit

theorem ints_app (a b : List Int) : ints (a ++ b) = ints a ++ ints b := by simp [ints]
theorem keys_sub {ns : List Nv} {x : Nv} (h : x ∈ ns) : x.n.ks.length ≤ (keysOf ns).length := by
  induction ns with
  | nil => cases h
  | cons y r ih =>
    rw [keysOf_cons, List.length_append]
    rcases List.mem_cons.1 h with rfl | h
    · omega
    · have := ih h; omega
set_option maxRecDepth 100000 in
set_option maxHeartbeats 6400000 in
theorem grown_any (rv sv : Value) (rs sz : List Int) (w : World) (htab : Tab w) (hr : Rd w rv rs) (hs : Rd w sv sz) (hrl : rs.length ≤ 17592186044416) (hsl : sz.length ≤ 17592186044416) (hrb : ∀ x ∈ rs, I64 x) (hsb : ∀ x ∈ sz, I64 x) :
    Calls Tryz.prog 8 #[rv, sv] w fun e w' => GrownR (rs = []) w w' e := by
  obtain ⟨i0, hi0, hz0, hz1, hz2⟩ := info_parts infoInt
  have HT := hideIt htab
  have HR := hideIt hr
  have HS := hideIt hs
  have HRB := hideIt hrb
  have HSB := hideIt hsb
  obtain ⟨ar, cr, rfl⟩ := hr.len
  obtain ⟨asz, csz, rfl⟩ := hs.len
  obtain ⟨nr, hnr⟩ : ∃ n, rs.length = n := ⟨_, rfl⟩
  obtain ⟨m, hm⟩ : ∃ m, sz.length = m := ⟨_, rfl⟩
  rw [hnr] at HR hrl ⊢
  rw [hm] at HS hsl ⊢
  have HNR := hideIt hnr
  have HM := hideIt hm
  clear htab hr hs hrb hsb hnr hm
  go_enter Tryz.func8, Tryz.ntmps8
  go_wp2_with fail
  refine (fresh_any w).mono ?_
  rintro e w1 ⟨tv, uv, vv, bv, rfl, hF⟩
  have F1 := hideIt (hF.alloc #[.slice none 0 0, .slice none 0 0] 55)
  clear hF
  go_wp2_with fail
  refine (sorted_full (.slice ar nr cr) rs _ (HR.out.below F1.out.bl) (by rw [HNR.out]; exact hrl) HRB.out).mono ?_
  rintro e w2 ⟨lv, L, rfl, hS, hK, hL, hZ⟩
  have F2 := hideIt (F1.out.join hS)
  have HK := hideIt hK
  have HZ := hideIt hZ
  obtain ⟨la, lc, rfl⟩ := As.form0 (hS.get (i := 0) rfl)
  have RL := hideIt (show Rd w2 (.slice la L.length lc) L from owns_rd (show w2.ownsRow _ 3 1 _ L.length (ints L) from hS.get (i := 0) rfl))
  clear hS hK hZ F1
  go_wp2_with fail
  refine (leaves_any _ _ L sz _ RL.out (HS.out.below F2.out.bl) hL (fun x hx => by have := keysOk_all _ _ _ HK.out x hx; omega) (by rw [HM.out]; exact hsl) HSB.out).mono ?_
  rintro e w3 ⟨nv, ns, rfl, hN, hkeys, hleaf⟩
  have HN0 : Hid (ns.length ≤ 121 ∧ ns ≠ [] ∧ (∀ i x, 0 < i → ns[i]? = some x → x.n.ks ≠ []) ∧ (∀ x ∈ ns, x.n.ks.length = x.n.vs.length ∧ x.n.ks.length ≤ 120) ∧ (∀ T lo, Pe T 1 ((keysOf ns).zip (valsOf ns)) lo ns 0) ∧ (L = [] → ns = [⟨⟨0, 0, 0, [], []⟩, .slice none 0 0, .slice none 0 0⟩]) ∧ (∀ x ∈ ns, x.n.ks.length = 0 → L = [])) := by
    rcases hleaf with ⟨h1, h2⟩ | ⟨h1, h2⟩
    · have hl := leaf_len h1
      rw [hkeys] at hl
      refine ⟨by omega, h2, fun i x _ hi => (h1 x (List.mem_of_getElem? hi)).2.1, fun x hx => ⟨(h1 x hx).2.2, ?_⟩, fun T lo => Pe.leaves h1 h2 (by rw [hkeys]; exact HK.out), fun e => ?_, fun x hx e => ?_⟩
      · have h3 := keys_sub hx
        rw [hkeys] at h3; omega
      · rw [e] at hl; exact absurd (List.eq_nil_of_length_eq_zero (by simpa using hl)) h2
      · exact absurd (List.eq_nil_of_length_eq_zero e) (h1 x hx).2.1
    · subst h2
      refine ⟨by simp, by simp, fun i x h0 hi => ?_, fun x hx => ?_, fun T lo => Pe.empty, fun _ => rfl, fun _ _ _ => h1⟩
      · rw [List.getElem?_eq_none (by simp; omega)] at hi; cases hi
      · rw [List.mem_singleton] at hx; subst hx; simp
  have HKE := hideIt hkeys
  obtain ⟨na, nc, rfl⟩ := As.form0 (hN.get (i := 0) rfl)
  have F3 := hideIt (M.setup (F2.out.join hN))
  rw [← strs_T0, ← bools_Up1] at F3
  obtain ⟨nn, hnn⟩ : ∃ n, ns.length = n := ⟨_, rfl⟩
  have HNN := hideIt hnn
  rw [hnn] at F3 ⊢
  obtain ⟨gw, hgw⟩ : ∃ g, w.heap.size = g := ⟨_, rfl⟩
  obtain ⟨gt, hgt⟩ : ∃ g, w1.heap.size = g := ⟨_, rfl⟩
  have F4 : Hid (M w w.heap.size w3 (SP gw gt tv uv vv bv (.slice none 0 0) (.slice none 0 0) T0 (Up 1) [] [] ++ (.row 67 5 (.slice na nn nc) nn (ncells ns) :: nrows ns))) := by
    rw [← hgw, ← hgt]; exact F3.out
  rw [hgt, hgw]
  have HGW := hideIt hgw
  have hnn2 : nn ≤ 121 := by rw [← hnn]; exact HN0.out.1
  clear hN hkeys hleaf F2 F3 hnn hgw hgt RL
  go_wp2
  go_loopw [9] (fun i wr => ∃ k : Nat, ∃ tk tvv : Value, k ≤ nn ∧ i = .int .i64 k ∧ Hid (L = [] → tk = .slice none 0 0 ∧ tvv = .slice none 0 0) ∧ Hid (M w w.heap.size wr (SP gw gt tv uv vv bv tk tvv T0 (Up 1) (keysOf (ns.take k)) (valsOf (ns.take k)) ++ (.row 67 5 (.slice na nn nc) nn (ncells ns) :: nrows ns)))) (fun i _ => nn - (intOf i).toNat)
  case atStart => exact ⟨0, _, _, Nat.zero_le _, rfl, fun _ => ⟨rfl, rfl⟩, F4.out⟩
  case round =>
    obtain ⟨k, tk, tvv, hk, rfl, hZ, hM⟩ := hrel
    obtain ⟨ta, tc, rfl⟩ := As.form0 (hM.out.get (i := 6) rfl)
    obtain ⟨va, vc, rfl⟩ := As.form0 (hM.out.get (i := 7) rfl)
    have hKL : (keysOf (ns.take k)).length ≤ 120 := by
      have h1 := keysOf_app (ns.take k) (ns.drop k)
      rw [List.take_append_drop, HKE.out] at h1
      have := congrArg List.length h1
      rw [List.length_append] at this; omega
    have HVE : Hid ((valsOf (ns.take k)).length = (keysOf (ns.take k)).length) := (lens_of _ fun y hy => (HN0.out.2.2.2.1 y (List.mem_of_mem_take hy)).1).symm
    have hVL : (valsOf (ns.take k)).length ≤ 120 := by rw [HVE.out]; exact hKL
    by_cases hlt : k < nn
    · have hkk : (k : Int) < (nn : Int) := by omega
      have hk0 : (0 : Int) ≤ (k : Int) := by omega
      obtain ⟨x, hx⟩ : ∃ x, ns[k]? = some x := ⟨_, List.getElem?_eq_getElem (by rw [HNN.out]; exact hlt)⟩
      have hxm : x ∈ ns := List.mem_of_getElem? hx
      have HTK := hideIt (keysOf_take ns k x hx)
      have HZX : Hid (L = [] → x.n.ks.length = 0) := fun e => by have h1 := HN0.out.2.2.2.2.2.1 e; rw [h1, List.mem_singleton] at hxm; rw [hxm]; rfl
      have hlx : x.n.ks.length ≤ 120 := (HN0.out.2.2.2.1 x hxm).2
      have hvx : x.n.vs.length ≤ 120 := by have := (HN0.out.2.2.2.1 x hxm).1; omega
      have HLX : Hid (x.n.ks.length = x.n.vs.length) := (HN0.out.2.2.2.1 x hxm).1
      have hNS : NS _ w.heap.size (.slice na nn nc) ns := hM.out.ns (by rw [HNN.out]; simp [SP]) (fun r hr => by simp [SP, hr])
      obtain ⟨ng, nc', hnv⟩ := hNS.form' (by omega)
      cases hnv
      obtain ⟨⟨-, -, -, c3, c4⟩, -, rk, rv⟩ := hNS.at' k x hx
      have hkr : As.holds wr w.heap.size (.row 3 1 x.kv x.n.ks.length (ints x.n.ks)) := hNS.rows _ (List.mem_flatMap.2 ⟨x, hxm, by simp [Nv.rows]⟩)
      have hvr : As.holds wr w.heap.size (.row 3 1 x.vv x.n.vs.length (ints x.n.vs)) := hNS.rows _ (List.mem_flatMap.2 ⟨x, hxm, by simp [Nv.rows]⟩)
      have q0 := hM.out.cell (i := 5) rfl 0 (.slice ta (keysOf (ns.take k)).length tc) rfl
      have f0 := hM.out.free (i := 5) rfl 0
      go_upto_region 7 with fail
      go_cut [] from 24 to 55 (fun wy => ∃ tk', Hid (L = [] → tk' = .slice none 0 0) ∧ Hid (M w w.heap.size wy (SP gw gt tv uv vv bv tk' (.slice va (valsOf (ns.take k)).length vc) T0 (Up 1) (keysOf (ns.take (k + 1))) (valsOf (ns.take k)) ++ (.row 67 5 (.slice (some ⟨ng, 0, none⟩) nn nc) nn (ncells ns) :: nrows ns))))
      case first =>
        by_cases hks : x.n.ks.length = 0
        · have hL0 := HN0.out.2.2.2.2.2.2 x hxm hks
          obtain ⟨z1, -⟩ := hZ.out hL0
          have hx0 : x.kv = .slice none 0 0 := by have h1 := HN0.out.2.2.2.2.2.1 hL0; rw [h1, List.mem_singleton] at hxm; rw [hxm]
          rw [hx0] at c3
          have hK1 : keysOf (ns.take (k + 1)) = keysOf (ns.take k) := by rw [HTK.out.1, List.eq_nil_of_length_eq_zero hks, List.append_nil]
          have HS0 := hideIt (hM.out.store (i := 5) (j := 0) rfl (.slice none 0 0) rfl).drew
          have HK1 := hideIt hK1
          have HZ1 := hideIt z1
          rw [z1] at q0
          clear hK1 z1 hks
          go_region
          all_goals
            go_wp2
            go_meet
            case rel =>
              refine ⟨.slice none 0 0, fun _ => rfl, ?_⟩
              rw [HZ1.out] at HS0
              rw [HK1.out]
              exact HS0.out
        · obtain ⟨kb, kc, hkv⟩ := As.form hkr (by omega)
          rw [hkv] at c3 hkr
          go_region_law (refine step_append_lies _ rfl _ _ 22 rfl w.heap.size 3 i0 (.int .i64 0) 1 8 Tryz.underlying22 hi0 hz0 hz1 hz2 rfl (by decide) _ (keysOf (ns.take k)).length (ints (keysOf (ns.take k))) rfl (hM.out.get (i := 6) rfl) ⟨_, 0, none⟩ x.n.ks.length _ (ints x.n.ks) rfl (by rw [len_ints, Nat.mul_one]) (World.ownsRow.cells hkr rfl) (by simp [ints, Value.oneCell']) (by omega) (by unfold maxLen; omega) (by omega) hM.out.sz _ rfl ?_; intro g1 cap1 w5 hown hgrow hat hlt1; rw [← ints_app, ← HTK.out.1] at hown; have hm := hM.out.drew.lies (i := 6) rfl hown hgrow hat; clear q0 f0 hown hgrow hat; have q0 := hm.cell (i := 5) rfl 0 (.slice ta (keysOf (ns.take k)).length tc) rfl; have f0 := hm.free (i := 5) rfl 0; have H1 := hideIt (hm.store (i := 5) (j := 0) rfl (.slice (some ⟨g1, 0, none⟩) ((keysOf (ns.take k)).length + x.n.ks.length) cap1) rfl); clear hm)
          all_goals
            go_wp2
            go_meet
            case rel =>
              have e : (keysOf (ns.take k)).length + x.n.ks.length = (keysOf (ns.take (k + 1))).length := by rw [HTK.out.1, List.length_append]
              rw [e] at H1 ⊢
              exact ⟨_, fun e0 => absurd (HZX.out e0) hks, H1.out⟩
      case rest =>
        obtain ⟨tk', hZ2, hM2⟩ := hcut
        have hNS : NS _ w.heap.size (.slice (some ⟨ng, 0, none⟩) nn nc) ns := hM2.out.ns (by rw [HNN.out]; simp [SP]) (fun r hr => by simp [SP, hr])
        clear q0 f0 c3 c4 hkr hvr
        obtain ⟨⟨-, -, -, -, c4⟩, -, rk, rv⟩ := hNS.at' k x hx
        have hvr : As.holds wc w.heap.size (.row 3 1 x.vv x.n.vs.length (ints x.n.vs)) := hNS.rows _ (List.mem_flatMap.2 ⟨x, hxm, by simp [Nv.rows]⟩)
        obtain ⟨ta', tc', rfl⟩ := As.form0 (hM2.out.get (i := 6) rfl)
        have q0 := hM2.out.cell (i := 5) rfl 1 (.slice va (valsOf (ns.take k)).length vc) rfl
        have f0 := hM2.out.free (i := 5) rfl 1
        go_upto_region 8 with fail
        by_cases hks : x.n.vs.length = 0
        · have hks' : x.n.ks.length = 0 := by rw [HLX.out]; exact hks
          have hL0 := HN0.out.2.2.2.2.2.2 x hxm hks'
          obtain ⟨-, z1⟩ := hZ.out hL0
          have hx0 : x.vv = .slice none 0 0 := by have h1 := HN0.out.2.2.2.2.2.1 hL0; rw [h1, List.mem_singleton] at hxm; rw [hxm]
          rw [hx0] at c4
          have hK1 : valsOf (ns.take (k + 1)) = valsOf (ns.take k) := by rw [HTK.out.2, List.eq_nil_of_length_eq_zero hks, List.append_nil]
          have HS0 := hideIt (hM2.out.store (i := 5) (j := 1) rfl (.slice none 0 0) rfl).drew
          have HK1 := hideIt hK1
          have HZ1 := hideIt z1
          rw [z1] at q0
          clear hK1 z1 hks hks'
          go_region
          all_goals
            go_wp2
            go_roundw
            case rel =>
              refine ⟨k + 1, _, .slice none 0 0, by omega, by go_num, fun e => ⟨hZ2.out e, rfl⟩, ?_⟩
              rw [HZ1.out] at HS0
              rw [HK1.out]
              exact HS0.out
            case measure => simp [intOf]; omega
        · obtain ⟨kb, kc, hkv⟩ := As.form hvr (by omega)
          rw [hkv] at c4 hvr
          go_region_law (refine step_append_lies _ rfl _ _ 22 rfl w.heap.size 3 i0 (.int .i64 0) 1 8 Tryz.underlying22 hi0 hz0 hz1 hz2 rfl (by decide) _ (valsOf (ns.take k)).length (ints (valsOf (ns.take k))) rfl (hM2.out.get (i := 7) rfl) ⟨_, 0, none⟩ x.n.vs.length _ (ints x.n.vs) rfl (by rw [len_ints, Nat.mul_one]) (World.ownsRow.cells hvr rfl) (by simp [ints, Value.oneCell']) (by omega) (by unfold maxLen; omega) (by omega) hM2.out.sz _ rfl ?_; intro g1 cap1 w5 hown hgrow hat hlt1; rw [← ints_app, ← HTK.out.2] at hown; have hm := hM2.out.drew.lies (i := 7) rfl hown hgrow hat; clear q0 f0 hown hgrow hat; have q0 := hm.cell (i := 5) rfl 1 (.slice va (valsOf (ns.take k)).length vc) rfl; have f0 := hm.free (i := 5) rfl 1; have H1 := hideIt (hm.store (i := 5) (j := 1) rfl (.slice (some ⟨g1, 0, none⟩) ((valsOf (ns.take k)).length + x.n.vs.length) cap1) rfl); clear hm)
          all_goals
            go_wp2
            go_roundw
            case rel =>
              have e : (valsOf (ns.take k)).length + x.n.vs.length = (valsOf (ns.take (k + 1))).length := by rw [HTK.out.2, List.length_append]
              rw [e] at H1 ⊢
              exact ⟨k + 1, _, _, by omega, by go_num, fun e0 => absurd (HLX.out.symm.trans (HZX.out e0)) hks, H1.out⟩
            case measure => simp [intOf]; omega
    · obtain rfl : k = nn := by omega
      have hKE : keysOf (ns.take k) = keysOf ns ∧ valsOf (ns.take k) = valsOf ns := by rw [List.take_of_length_le (by rw [HNN.out]; exact Nat.le_refl _)]; exact ⟨rfl, rfl⟩
      rw [hKE.1, hKE.2] at hM
      obtain ⟨K, hKd⟩ : ∃ K, keysOf ns = K := ⟨_, rfl⟩
      obtain ⟨V, hVd⟩ : ∃ V, valsOf ns = V := ⟨_, rfl⟩
      have HKV : Hid (K.length = V.length ∧ keysOk 10000 1 K = true ∧ K.length ≤ 120) := by
        refine ⟨?_, by rw [← hKd, HKE.out]; exact HK.out, by rw [← hKd, HKE.out]; exact hL⟩
        rw [← hKd, ← hVd]; exact lens_of _ fun y hy => (HN0.out.2.2.2.1 y hy).1
      have HPE : Hid (∀ T lo, Pe T 1 (K.zip V) lo ns 0) := by rw [← hKd, ← hVd]; exact HN0.out.2.2.2.2.1
      have HZN : Hid (rs = [] → ns = [⟨⟨0, 0, 0, [], []⟩, .slice none 0 0, .slice none 0 0⟩]) := fun e => HN0.out.2.2.2.2.2.1 (HZ.out e)
      rw [hKd, hVd] at hM
      obtain ⟨nn, hnn⟩ : ∃ n, k = n := ⟨_, rfl⟩
      rw [hnn] at hM hnn2 HNN ⊢
      have HSM : Hid (∀ x ∈ ns, x.n.ks.length ≤ 200 ∧ x.n.vs.length ≤ 200) := fun x hx => by have := HN0.out.2.2.2.1 x hx; omega
      have P0 := hideIt (Pl.start T0 (K.zip V) (fun _ => 0) (fun _ => 0))
      have HIN : Hid (∃ rk lo lvl, Pl T0 1 (K.zip V) rk lo ∧ Pe T0 1 (K.zip V) lo ns lvl ∧ 0 ≤ lvl ∧ lvl ≤ ((1 : Nat) : Int)) := ⟨fun _ => 0, fun _ => 0, 0, P0.out, HPE.out _ _, by omega, by omega⟩
      clear hKE hKd hVd F4 HKE HN0 hnn hlt hKL HVE hVL hL P0 HPE HK HZ
      go_wp2
      go_loopw [8, 10] (fun l p wr => ∃ (p0 nn na' nc' : Nat) (na : Option Addr) (ns : List Nv) (T : List ByteArray), l = .slice na nn nc' ∧ p = .int .i64 p0 ∧ 1 ≤ p0 ∧ p0 ≤ 64 ∧ nn ≤ 121 ∧ Hid (ns.length = nn) ∧ Hid (∀ x ∈ ns, x.n.ks.length ≤ 200 ∧ x.n.vs.length ≤ 200) ∧ Hid (T.length = 64) ∧ Hid (M w w.heap.size wr (SP gw gt tv uv vv bv (.slice ta K.length tc) (.slice va V.length vc) T (Up p0) K V ++ (.row 67 5 (.slice na nn nc') nn (ncells ns) :: nrows ns))) ∧ Hid (∃ rk lo lvl, Pl T p0 (K.zip V) rk lo ∧ Pe T p0 (K.zip V) lo ns lvl ∧ 0 ≤ lvl ∧ lvl ≤ (p0 : Int)) ∧ Hid (rs = [] → ns = [⟨⟨0, 0, 0, [], []⟩, .slice none 0 0, .slice none 0 0⟩])) (fun _ p _ => 65 - (intOf p).toNat)
      case atStart => exact ⟨1, nn, 0, nc, na, ns, T0, rfl, rfl, by omega, by omega, hnn2, HNN.out, HSM.out, by simp [Hid, T0], hM.out, HIN.out, HZN.out⟩
      case round =>
        clear hM HIN HZN HNN hnn2 HSM
        obtain ⟨p0, nn, -, nc, na, ns, T, rfl, rfl, hp1, hp64, hnn2, HNN, HSM, HTL, hM, hP, HZN⟩ := hrel
        obtain ⟨tg, tcp, htv⟩ := As.form (hM.out.get (i := 1) rfl) (by omega)
        obtain ⟨ug, ucp, huv⟩ := As.form (hM.out.get (i := 2) rfl) (by omega)
        subst htv huv
        have hNE : ∀ i x, 0 < i → ns[i]? = some x → x.n.ks ≠ [] := fun i x h0 hi => by obtain ⟨rk, lo, lvl, -, h2, -⟩ := hP.out; exact h2.ne i x h0 hi
        have hN1 : 1 ≤ nn := by obtain ⟨rk, lo, lvl, -, h2, -⟩ := hP.out; rw [← HNN.out]; exact List.length_pos_iff.2 h2.nz
        have HL := hideIt (fun (f : Int) (h0 : 0 ≤ f) (h1 : f ≤ 1000) => linked_any (.slice na nn nc) ns f w w.heap.size 8 _ _ hM.out (by rw [HNN.out]; rfl) (fun r hr => by simp [SP, hr]) (by rw [HNN.out]; omega) hNE h0 h1)
        have HNE := hideIt hNE
        clear hNE
        by_cases hgo : 1 < nn
        · have hgo1 : (1 : Int) < (nn : Int) := by omega
          go_wp2_with fail
          refine (HL.out (p0 : Int) (by omega) (by omega)).mono ?_
          rintro e w4 ⟨⟨u, rfl⟩, hM4⟩
          rw [HNN.out] at hM4
          have G4 : Hid (M w w.heap.size w4 (SP gw gt (.slice (some ⟨tg, 0, none⟩) 64 tcp) (.slice (some ⟨ug, 0, none⟩) 64 ucp) vv bv (.slice ta K.length tc) (.slice va V.length vc) T (Up p0) K V ++ (.row 67 5 (.slice na nn nc) nn (ncells (linkN ns (p0 : Int))) :: nrows ns))) := hM4
          clear hM4 HL hM
          by_cases h64 : p0 + nn ≤ 64
          · have h641 : (p0 : Int) + (nn : Int) ≤ 64 := by omega
            go_wp2
            go_loopw [11] (fun i wx => ∃ (k q : Nat) (Tk : List ByteArray), k ≤ nn ∧ Hid (q = p0 + k) ∧ i = .int .i64 k ∧ Hid (M w w.heap.size wx (SP gw gt (.slice (some ⟨tg, 0, none⟩) 64 tcp) (.slice (some ⟨ug, 0, none⟩) 64 ucp) vv bv (.slice ta K.length tc) (.slice va V.length vc) Tk (Up q) K V ++ (.row 67 5 (.slice na nn nc) nn (ncells (linkN ns (p0 : Int))) :: nrows ns))) ∧ Hid (Tk.length = 64 ∧ (∀ i, i < p0 → Tk[i]? = T[i]?) ∧ ∀ i x, i < k → (linkN ns (p0 : Int))[i]? = some x → ∃ t, Tk[p0 + i]? = some t ∧ Unp t.data.toList x.n)) (fun i _ => nn - (intOf i).toNat)
            case atStart => exact ⟨0, p0, T, Nat.zero_le _, rfl, rfl, G4.out, ⟨HTL.out, fun _ _ => rfl, fun i x hi => by omega⟩⟩
            case round =>
              clear G4
              obtain ⟨k, q, Tk, hk, HQ, rfl, hX, hI⟩ := hrel
              have hNX : NS _ w.heap.size (.slice na nn nc) (linkN ns (p0 : Int)) := hX.out.ns (by rw [linkN_len, HNN.out]; simp [SP]) (fun r hr => by rw [nrows_linkN] at hr; simp [SP, hr])
              by_cases hlt : k < nn
              · have hkk : (k : Int) < (nn : Int) := by omega
                have hk0 : (0 : Int) ≤ (k : Int) := by omega
                obtain ⟨x, hx⟩ : ∃ x, (linkN ns (p0 : Int))[k]? = some x := ⟨_, List.getElem?_eq_getElem (by rw [linkN_len, HNN.out]; exact hlt)⟩
                obtain ⟨ng, nc', hnv⟩ := hNX.form' (by omega)
                cases hnv
                obtain ⟨⟨c0, c1, c2, c3, c4⟩, -, rk, rv⟩ := hNX.at' k x hx
                obtain ⟨ka, kc, hkv⟩ := rk.len
                obtain ⟨ya, yc, hvv⟩ := rv.len
                have hlens : x.n.ks.length ≤ 17592186044416 ∧ x.n.vs.length ≤ 17592186044416 := by
                  obtain ⟨y, hy, rfl⟩ := linkN_mem hx
                  have h1 : y.n.ks.length ≤ 200 ∧ y.n.vs.length ≤ 200 := HSM.out y (List.mem_of_getElem? hy)
                  exact ⟨Nat.le_trans h1.1 (by omega), Nat.le_trans h1.2 (by omega)⟩
                have CP := hideIt (pack_any x.n x.kv x.vv _ (HT.out.below hX.out.bl) rk rv hlens.1 hlens.2)
                rw [hkv, hvv] at CP
                rw [hkv] at c3
                rw [hvv] at c4
                have HXK := hideIt hx
                clear rk rv hkv hvv hlens hx
                go_wp2_with fail
                refine CP.out.mono ?_
                rintro e w6 ⟨b, er, rfl, hPk, -, hb⟩
                have G6 := hideIt (hX.out.below hb)
                clear hb CP c0 c1 c2 c3 c4
                by_cases hr : rightB x.n = true
                · unfold Pk at hPk
                  rw [if_pos hr] at hPk
                  obtain ⟨hP1, rfl⟩ := hPk
                  have HU : Hid (Unp b.data.toList x.n) := ⟨hr, hP1.symm⟩
                  have hq64 : q < 64 := by have := HQ.out; omega
                  have hqn : ((p0 : Int) + (k : Int)).toNat = q := by have := HQ.out; omega
                  have hqa : (0 : Int) ≤ (p0 : Int) + (k : Int) := by omega
                  have hqb : (p0 : Int) + (k : Int) < 64 := by omega
                  have q0 := G6.out.cell (i := 0) rfl 0 (.slice (some ⟨tg, 0, none⟩) 64 tcp) rfl
                  have q1 := G6.out.cell (i := 0) rfl 1 (.slice (some ⟨ug, 0, none⟩) 64 ucp) rfl
                  have hrow1 := G6.out.get (i := 1) rfl
                  have hrow2 := G6.out.get (i := 2) rfl
                  have t1 : w6.cell? ⟨tg, q, none⟩ = some (.string (Tk[q]?.getD ⟨#[]⟩)) := by
                    rw [World.ownsRow.cellAt hrow1 q (by omega)]
                    have : q < Tk.length := by rw [hI.out.1]; exact hq64
                    simp [strs, this]
                  have t2 : w6.cell? ⟨ug, q, none⟩ = some (.bool ((Up q)[q]?.getD false)) := by
                    rw [World.ownsRow.cellAt hrow2 q (by omega)]
                    have : q < (Up q).length := by rw [up_len q (by omega)]; exact hq64
                    simp [bools, this]
                  have tf1 := World.ownsRow.frozenAt hrow1 q
                  have tf2 := World.ownsRow.frozenAt hrow2 q
                  have hne1 := G6.out.ne (i := 0) (j := 1) rfl rfl
                  have hne2 := G6.out.ne (i := 0) (j := 2) rfl rfl
                  have hne3 := G6.out.ne2 (i := 1) (j := 2) rfl rfl (by omega)
                  have hne1' : tg ≠ gw := fun e => hne1 e.symm
                  have hne3' : ug ≠ tg := fun e => hne3 e.symm
                  have S1 := G6.out.storeRow (i := 1) (j := q) rfl (.string b)
                  rw [strs_set] at S1
                  have S2 := S1.storeRow (i := 2) (j := q) rfl (.bool true)
                  rw [up_set q hq64] at S2
                  have HS2 := hideIt S2
                  clear hr hP1 hrow1 hrow2 S1 S2 G6 hX hNX
                  go_wp2
                  go_roundw
                  case rel =>
                    refine ⟨k + 1, q + 1, Tk.set q b, by omega, by unfold Hid; have := HQ.out; omega, by go_num, HS2.out, ⟨by rw [List.length_set]; exact hI.out.1, fun i hi => ?_, fun i y hi hy => ?_⟩⟩
                    · rw [List.getElem?_set, if_neg (by have := HQ.out; omega)]; exact hI.out.2.1 i hi
                    · rcases Nat.lt_or_ge i k with h1 | h1
                      · obtain ⟨t, t1, t2⟩ := hI.out.2.2 i y h1 hy
                        exact ⟨t, by rw [List.getElem?_set, if_neg (by have := HQ.out; omega)]; exact t1, t2⟩
                      · obtain rfl : i = k := by omega
                        rw [HXK.out] at hy; cases hy
                        exact ⟨b, by rw [List.getElem?_set, if_pos HQ.out, if_pos (by rw [hI.out.1]; exact hq64)], HU.out⟩
                  case measure => simp [intOf]; omega
                · unfold Pk at hPk
                  rw [if_neg hr] at hPk
                  obtain ⟨-, rfl⟩ := hPk
                  clear hr hX hNX
                  go_wp2
                  go_ret2
                  refine Or.inl ⟨fun e => ?_, rfl, G6.out.bl⟩
                  have h1 := congrArg List.length (HZN.out e)
                  rw [HNN.out] at h1
                  simp at h1
                  omega
              · obtain rfl : k = nn := by omega
                obtain ⟨rk, lo, lvl, h1, h2, h3, h4⟩ := hP.out
                have HPL := hideIt (h1.place h2 hp1 (fun i _ h => hI.out.2.1 i h) (fun i x hx => hI.out.2.2 i x (by have := (List.getElem?_eq_some_iff.1 hx).1; rw [linkN_len, HNN.out] at this; exact this) hx))
                rw [HNN.out] at HPL
                have hlv0 : ∀ x, (linkN ns (p0 : Int))[0]? = some x → x.n.lv = lvl := fun x hx => by
                  obtain ⟨y, hy, rfl⟩ := linkN_mem hx
                  exact h2.lv y (List.mem_of_getElem? hy)
                have CA := hideIt (above_any (.slice na k nc) (.slice asz m csz) (linkN ns (p0 : Int)) sz (p0 : Int) w.heap.size _ hNX (by rw [linkN_len, HNN.out]; omega) (by rw [linkN_len, HNN.out]; omega) (fun i x h0 hx => by obtain ⟨y, hy, rfl⟩ := linkN_mem hx; exact HNE.out i y h0 hy) (by omega) (by omega) (HS.out.below hX.out.bl) (by rw [HM.out]; exact hsl) HSB.out (fun x hx => by rw [hlv0 x hx]; omega))
                have HLV0 : Hid (((linkN ns (p0 : Int))[0]?.map fun x => x.n.lv).getD 0 = lvl) := by
                  obtain ⟨x, hx⟩ : ∃ x, (linkN ns (p0 : Int))[0]? = some x := ⟨_, List.getElem?_eq_getElem (by rw [linkN_len, HNN.out]; omega)⟩
                  unfold Hid; rw [hx]; exact hlv0 x hx
                have HPE2 := hideIt (fun ms (ha : Abv ns (p0 : Int) lvl ms ns.length) => Pe.above (ms := ms) (by rw [HNN.out]; exact HPL.out) hp1 h2.nz h3 ha)
                have hlvl : 0 ≤ lvl ∧ lvl ≤ (p0 : Int) := ⟨h3, h4⟩
                clear h1 h2 h3 h4 hlv0 hP hNX
                go_wp2_with fail
                refine CA.out.mono ?_
                rintro e w7 ⟨mv, ms, rfl, hMA, hAb⟩
                rw [HLV0.out, linkN_len] at hAb
                have hAb2 := hAb.link
                have hms := abv_len hAb2
                rw [HNN.out] at hms
                obtain ⟨ma, mc, rfl⟩ := As.form0 (hMA.get (i := 0) rfl)
                have G7 := hideIt (M.level (hX.out.join hMA))
                have HPE3 := hideIt (HPE2.out ms hAb2)
                rw [HNN.out] at HPE3
                have HSM2 : Hid (∀ x ∈ ms, x.n.ks.length ≤ 200 ∧ x.n.vs.length ≤ 200) := fun x hx => by have h1 := abv_small hAb2 x hx; rw [HNN.out] at h1; omega
                have HQ2 : Hid (q = p0 + k) := HQ.out
                clear CA hMA hAb hAb2 HPE2 hX
                go_wp2
                go_roundw
                case rel =>
                  refine ⟨p0 + k, ms.length, 0, mc, ma, ms, Tk, rfl, by go_num, by omega, by omega, by omega, rfl, HSM2.out, hI.out.1, by rw [← HQ2.out]; exact G7.out, ⟨_, _, lvl + 1, HPL.out, HPE3.out, by omega, by omega⟩, fun e => ?_⟩
                  have h1 := congrArg List.length (HZN.out e)
                  rw [HNN.out] at h1
                  simp at h1
                  omega
                case measure => simp [intOf]; omega
          · have h641 : (64 : Int) < (p0 : Int) + (nn : Int) := by omega
            go_wp2
            go_ret2
            refine Or.inl ⟨fun e => ?_, rfl, G4.out.bl⟩
            have h1 := congrArg List.length (HZN.out e)
            rw [HNN.out] at h1
            simp at h1
            omega
        · have hgo1 : (nn : Int) ≤ 1 := by omega
          obtain rfl : nn = 1 := by omega
          obtain ⟨x0, hx0⟩ := List.length_eq_one_iff.1 HNN.out
          subst hx0
          go_wp2_with fail
          refine (HL.out 0 (by omega) (by omega)).mono ?_
          rintro e w4 ⟨⟨u, rfl⟩, hM4⟩
          have hln : linkN [x0] 0 = [lnk [x0] 0 0 x0] := rfl
          rw [hln] at hM4
          have G4 : Hid (M w w.heap.size w4 (SP gw gt (.slice (some ⟨tg, 0, none⟩) 64 tcp) (.slice (some ⟨ug, 0, none⟩) 64 ucp) vv bv (.slice ta K.length tc) (.slice va V.length vc) T (Up p0) K V ++ (.row 67 5 (.slice na 1 nc) 1 (ncells [lnk [x0] 0 0 x0]) :: nrows [x0]))) := hM4
          obtain ⟨x, hxd⟩ : ∃ x, lnk [x0] 0 0 x0 = x := ⟨_, rfl⟩
          have hrx : x.rows = x0.rows := by rw [← hxd]; rfl
          rw [hxd] at G4
          have hNX : NS w4 w.heap.size (.slice na 1 nc) [x] := G4.out.ns (by simp [SP]) (fun r hr => by
            have h1 : r ∈ nrows [x0] := by simpa [nrows, hrx] using hr
            simp [SP, h1])
          obtain ⟨ng, nc', hnv⟩ := hNX.form' (by omega)
          cases hnv
          obtain ⟨⟨c0, c1, c2, c3, c4⟩, -, rk, rv⟩ := hNX.at' 0 x rfl
          simp only [Nat.zero_mul, Nat.zero_add] at c0 c1 c2 c3 c4
          obtain ⟨ka, kc, hkv⟩ := rk.len
          obtain ⟨ya, yc, hvv⟩ := rv.len
          have hlens : x.n.ks.length ≤ 17592186044416 ∧ x.n.vs.length ≤ 17592186044416 := by
            have h1 : x0.n.ks.length ≤ 200 ∧ x0.n.vs.length ≤ 200 := HSM.out x0 (by simp)
            rw [← hxd]
            exact ⟨Nat.le_trans h1.1 (by omega), Nat.le_trans h1.2 (by omega)⟩
          have CP := hideIt (pack_any x.n x.kv x.vv _ (HT.out.below G4.out.bl) rk rv hlens.1 hlens.2)
          rw [hkv, hvv] at CP
          rw [hkv] at c3
          rw [hvv] at c4
          have HXD := hideIt hxd
          clear rk rv hkv hvv hlens hxd hrx hNX hM4 hln HL hM
          go_wp2_with fail
          refine CP.out.mono ?_
          rintro e w6 ⟨b, er, rfl, hPk, -, hb⟩
          have G6 := hideIt (G4.out.below hb)
          clear hb CP c0 c1 c2 c3 c4 G4
          by_cases hr : rightB x.n = true
          · unfold Pk at hPk
            rw [if_pos hr] at hPk
            obtain ⟨hP1, rfl⟩ := hPk
            have HU : Hid (Unp b.data.toList x.n) := ⟨hr, hP1.symm⟩
            have q0 := G6.out.cell (i := 0) rfl 0 (.slice (some ⟨tg, 0, none⟩) 64 tcp) rfl
            have hrow1 := G6.out.get (i := 1) rfl
            have t1 : w6.cell? ⟨tg, 0, none⟩ = some (.string (T[0]?.getD ⟨#[]⟩)) := by
              rw [World.ownsRow.cellAt hrow1 0 (by omega)]
              have : 0 < T.length := by rw [HTL.out]; omega
              simp [strs, this]
            have tf1 := World.ownsRow.frozenAt hrow1 0
            have S1 := G6.out.storeRow (i := 1) (j := 0) rfl (.string b)
            rw [strs_set] at S1
            have HS1 := hideIt (show M w w.heap.size _ (SP gw gt (.slice (some ⟨tg, 0, none⟩) 64 tcp) (.slice (some ⟨ug, 0, none⟩) 64 ucp) vv bv (.slice ta K.length tc) (.slice va V.length vc) (T.set 0 b) (Up p0) K V ++ _) from S1)
            clear hr hP1 hrow1 S1 G6
            go_wp2
            go_ret2
            obtain ⟨rk, lo, lvl, h1, h2, h3, h4⟩ := hP.out
            refine Or.inr ⟨gw, gt, _, _, _, _, _, _, T.set 0 b, p0, K, V, rfl, HS1.out.sub (List.sublist_append_left _ _), by rw [List.length_set]; exact HTL.out, hp64, HKV.out.2.1, HKV.out.1, HKV.out.2.2, _, _, Tree.make h1 h2 hp1 (fun i hi _ => by rw [List.getElem?_set, if_neg (by omega)]) (t := b) (by rw [List.getElem?_set, if_pos rfl, if_pos (by rw [HTL.out]; omega)]) (by rw [HXD.out]; exact HU.out)⟩
          · unfold Pk at hPk
            rw [if_neg hr] at hPk
            obtain ⟨-, rfl⟩ := hPk
            have HRR := hideIt hr
            clear hr
            go_wp2
            go_ret2
            refine Or.inl ⟨fun e => HRR.out ?_, rfl, G6.out.bl⟩
            have h1 := HZN.out e
            simp only [List.cons.injEq, and_true] at h1
            rw [← HXD.out, h1]
            decide
end Go.Proofs.YtajobgmnmbnhiaaGreatDoor.Sap

/- WHAT IS PROVED HERE: saplingkeep's pieces answers true of a Scan that has ended as it should. Conditions: named at the theorem. -/
namespace Go.Proofs.YtajobgmnmbnhiaaGreatDoor.Sap
open Go.RowKit

set_option maxRecDepth 100000 in
set_option maxHeartbeats 6400000 in
theorem pieces_yes (gd gt cg m cc j : Nat) (gwv : Value) (key val pt b now : Int) (fd : Bool) (kv vv tm tk tvv : Value) (ks vs K V bel pts : List Int) (w : World)
    (d1 : w.cell? ⟨gd, 1, none⟩ = some (.int .i64 key)) (d2 : w.cell? ⟨gd, 2, none⟩ = some (.int .i64 val)) (d4 : w.cell? ⟨gd, 4, none⟩ = some tm) (d8 : w.cell? ⟨gd, 8, none⟩ = some (.int .i64 0)) (d9 : w.cell? ⟨gd, 9, none⟩ = some (.bool fd)) (d10 : w.cell? ⟨gd, 10, none⟩ = some (.int .i64 ks.length)) (d11 : w.cell? ⟨gd, 11, none⟩ = some (.int .i64 pt)) (d12 : w.cell? ⟨gd, 12, none⟩ = some kv) (d13 : w.cell? ⟨gd, 13, none⟩ = some vv) (d14 : w.cell? ⟨gd, 14, none⟩ = some (.slice (some ⟨cg, 0, none⟩) (m + 1) cc))
    (t0 : w.cell? ⟨gt, 0, none⟩ = some tk) (t1 : w.cell? ⟨gt, 1, none⟩ = some tvv) (rk : Rd w kv ks) (rv : Rd w vv vs) (rt : Rd w tm (tsq now j)) (rK : Rd w tk K) (rV : Rd w tvv V)
    (hc : ∀ i, i < m + 1 → w.cell? ⟨cg, i * 2, none⟩ = some (.int .i64 (bel[i]?.getD 0)) ∧ w.cell? ⟨cg, i * 2 + 1, none⟩ = some (.int .i64 (pts[i]?.getD 0)))
    (hbl : bel.length = m + 1) (hpl : pts.length = m + 1) (hm : m ≤ 64) (_hj : j ≤ 64) (hK : keysOk 10000 1 K = true) (hKV : K.length = V.length) (hK120 : K.length ≤ 120) (hks : ks.length = vs.length) (hz : ks.zip vs = (K.zip V).filter (rng key b)) (hb : bel.getLast? = some b) (hpt : pts.getLast? = some pt)
    (hbel : keysOk (val + 2) (key + 1) bel = true) (hpts : keysOk (j : Int) 0 pts = true) (hn0 : 0 ≤ now) (_hn1 : now ≤ 1000000) (h12 : ks.length ≤ 12) (hfd : fd = decide (0 < ks.length)) (hend : (ks.length = 12 ∧ b = ks.getLast?.getD 0 + 1) ∨ (ks.length < 12 ∧ b = val + 1)) (hv0 : 0 ≤ val) (hv1 : val ≤ 9999) (hk0 : 0 ≤ key) :
    Calls Tryz.prog 13 #[gwv, .pointer (some ⟨gd, 0, none⟩), .pointer (some ⟨gt, 0, none⟩)] w fun e w' => e = .returned (.bool true) ∧ Below w.heap.size w w' := by
  have HRK := hideIt rk
  have HRV := hideIt rv
  have HRT := hideIt rt
  have HRKK := hideIt rK
  have HRVV := hideIt rV
  obtain ⟨ak, ck, rfl⟩ := rk.len
  obtain ⟨av, cv, rfl⟩ := rv.len
  have HPA : Hid (∀ i, i < m + 1 → ∃ p be k, PieceR K V ks vs key val now bel pts j i p be k) := fun i hi => piece_at K V ks vs key val now b bel pts j i hK hKV hks hz (by omega) hb hbel hpts hn0 (by omega)
  have HRI : Hid (∀ i, i + 1 < ks.length → ks[i]?.getD 0 < ks[i + 1]?.getD 0) := fun i hi => ks_rise hK hks hz i hi
  obtain ⟨hse1, hse2⟩ := seen_end (key := key) hKV hks hz hb
  rw [hbl] at hse1 hse2
  have HS0 := hideIt (seen_0 K bel key)
  have HSE := hideIt hse1
  have HBB : Hid (key + 1 ≤ b ∧ b ≤ val + 1) := by
    have := keysOk_all _ _ _ hbel b (List.mem_of_getLast? hb)
    unfold Hid; omega
  have HSS := hideIt hse2
  have hlp : pts[m]?.getD 0 = pt := by
    rw [List.getLast?_eq_getElem?, hpl, Nat.add_sub_cancel] at hpt
    rw [hpt]; rfl
  have hcm := (hc m (by omega)).2
  rw [hlp] at hcm
  have HC : Hid (∀ W i, Below w.heap.size w W → i < m + 1 → W.cell? ⟨cg, i * 2, none⟩ = some (.int .i64 (bel[i]?.getD 0)) ∧ W.cell? ⟨cg, i * 2 + 1, none⟩ = some (.int .i64 (pts[i]?.getD 0))) := fun W i hb hi => ⟨cell_below hb _ _ (hc i hi).1, cell_below hb _ _ (hc i hi).2⟩
  have HD : Hid (∀ W, Below w.heap.size w W → W.cell? ⟨gd, 1, none⟩ = some (.int .i64 key) ∧ W.cell? ⟨gd, 2, none⟩ = some (.int .i64 val) ∧ W.cell? ⟨gd, 4, none⟩ = some tm ∧ W.cell? ⟨gt, 0, none⟩ = some tk ∧ W.cell? ⟨gt, 1, none⟩ = some tvv) := fun W hb => ⟨cell_below hb _ _ d1, cell_below hb _ _ d2, cell_below hb _ _ d4, cell_below hb _ _ t0, cell_below hb _ _ t1⟩
  have hcg : cg < w.heap.size := by
    rcases Nat.lt_or_ge cg w.heap.size with h | h
    · exact h
    · simp [World.cell?, Array.getElem?_eq_none h] at hcm
  obtain ⟨nl, hnl⟩ : ∃ n, ks.length = n := ⟨_, rfl⟩
  rw [← hks] at d13 HRV
  rw [hnl] at d10 d12 d13 HRK HRV h12 hfd hend HRI HSS hks
  have HNL := hideIt hnl
  have HVL := hideIt hks
  have HEND := hideIt hend
  have HKV := hideIt hKV
  clear rk rv rt rK rV hc hbl hpl hK hKV hz hb hpt hbel hpts hlp hse1 hse2 hnl hks hend d4 t0 t1
  have A0 := hideIt ((M.start w).alloc #[.int .i64 0, .bool fd, .int .i64 nl, .int .i64 pt, .slice ak nl ck, .slice av nl cv, .slice (some ⟨cg, 0, none⟩) (m + 1) cc] 46)
  have HFD := hideIt hfd
  have hcm2 : ∀ p, (w.alloc p).cell? ⟨cg, m * 2 + 1, none⟩ = some (.int .i64 pt) := fun p => cell_below ((Below.refl _ _).alloc (Nat.le_refl _) p) _ _ hcm
  have hm0 : (0 : Int) ≤ (m : Int) := by omega
  have hdn : decide ((12 : Int) < (nl : Int)) = false := by rw [decide_eq_false_iff_not]; omega
  have hcz : (((m : Int) + 1) == 0) = false := by simp; omega
  clear hfd hcm
  go_enter Tryz.func13, Tryz.ntmps13
  go_upto_region 4 with fail
  go_cut [73] (fun u wy => u = .bool false ∧ Hid (M w w.heap.size wy [.blk w.heap.size #[.int .i64 0, .bool fd, .int .i64 nl, .int .i64 pt, .slice ak nl ck, .slice av nl cv, .slice (some ⟨cg, 0, none⟩) (m + 1) cc] 46]))
  case first =>
    have a0 := A0.out.cell (i := 0) rfl 0 (.int .i64 0) rfl
    have a1 := A0.out.cell (i := 0) rfl 1 (.bool fd) rfl
    have a2 := A0.out.cell (i := 0) rfl 2 (.int .i64 nl) rfl
    have a3 := A0.out.cell (i := 0) rfl 3 (.int .i64 pt) rfl
    have a4 := A0.out.cell (i := 0) rfl 4 (.slice ak nl ck) rfl
    have a5 := A0.out.cell (i := 0) rfl 5 (.slice av nl cv) rfl
    have a6 := A0.out.cell (i := 0) rfl 6 (.slice (some ⟨cg, 0, none⟩) (m + 1) cc) rfl
    by_cases h0 : 0 < nl
    · obtain rfl : fd = true := by rw [HFD.out]; simp [h0]
      have h0i : (0 : Int) < (nl : Int) := by omega
      clear d1 d2 d8 d9 d10 d11 d12 d13 d14
      go_wp2
      go_quiet (fail)
      go_wp2
      go_meet
      case rel => exact ⟨rfl, A0.out.drewN _⟩
    · obtain rfl : fd = false := by rw [HFD.out]; simp [h0]
      have h0i : decide ((0 : Int) < (nl : Int)) = false := by rw [decide_eq_false_iff_not]; omega
      clear d1 d2 d8 d9 d10 d11 d12 d13 d14
      go_wp2
      go_quiet (fail)
      go_wp2
      go_meet
      case rel => exact ⟨rfl, A0.out.drewN _⟩
  case rest =>
    obtain ⟨rfl, hM0⟩ := hcut
    clear A0 hcm2 hcz hdn d1 d2 d8 d9 d10 d11 d12 d13 d14 HFD
    obtain ⟨e1, -, -, -, -⟩ := HD.out _ hM0.out.bl
    have hnl : (nl : Int) ≤ 12 := by omega
    go_wp2
    go_loopw [10, 11, 12, 13] (fun f l sn i wr => ∃ k : Nat, k ≤ m + 1 ∧ i = .int .i64 k ∧ f = .int .i64 (fromV bel key k) ∧ l = .int .i64 (lastV now pts k) ∧ sn = .int .i64 (seenV K bel key k) ∧ Hid (M w w.heap.size wr [.blk w.heap.size #[.int .i64 0, .bool fd, .int .i64 nl, .int .i64 pt, .slice ak nl ck, .slice av nl cv, .slice (some ⟨cg, 0, none⟩) (m + 1) cc] 46])) (fun _ _ _ i _ => m + 1 - (intOf i).toNat)
    case atStart => exact ⟨0, by omega, rfl, rfl, rfl, by rw [HS0.out]; rfl, hM0.out⟩
    case round =>
      clear hM0 e1
      obtain ⟨k, hk, rfl, rfl, rfl, rfl, hM⟩ := hrel
      by_cases hlt : k < m + 1
      · obtain ⟨p, be, cn, hP⟩ := HPA.out k hlt
        have HP := hideIt hP
        have y2 := (HC.out _ k hM.out.bl hlt).2
        rw [hP.pt] at y2
        simp only [Option.getD_some] at y2
        have a6 := hM.out.cell (i := 0) rfl 6 (.slice (some ⟨cg, 0, none⟩) (m + 1) cc) rfl
        obtain ⟨fr, hfr⟩ : ∃ x, fromV bel key k = x := ⟨_, rfl⟩
        obtain ⟨la, hla⟩ : ∃ x, lastV now pts k = x := ⟨_, rfl⟩
        obtain ⟨se, hse⟩ : ∃ x, seenV K bel key k = x := ⟨_, rfl⟩
        obtain ⟨nx, hnx⟩ : ∃ x, seenV K bel key (k + 1) = x := ⟨_, rfl⟩
        obtain ⟨tp, htp⟩ : ∃ x, now + (p : Int) = x := ⟨_, rfl⟩
        have hpj := hP.pj
        have hlast := hP.last
        rw [hla, htp] at hlast
        have hlo := hP.lo
        rw [hfr] at hlo
        have hhi := hP.hi
        have HFR := hideIt hfr
        have HSEE := hideIt hse
        have HNX := hideIt hnx
        have HTP := hideIt htp
        have hle := hP.le
        rw [hnx, HNL.out] at hle
        have hsn := hP.nx
        rw [hse, hnx] at hsn
        have HSN := hideIt hsn
        have hkk : (0 : Int) ≤ (k : Int) := by omega
        have hkl : (k : Int) < (m : Int) + 1 := by omega
        have hkn : k < m + 1 := hlt
        rw [hfr, hla, hse]
        clear hP hfr hla hse hnx htp hsn
        go_wp2_with fail
        obtain ⟨-, -, q4, -, -⟩ := HD.out _ hM.out.bl
        refine (point_yes gd tm (tsq now j) p _ q4 (HRT.out.below hM.out.bl) (by rw [tsq_len]; exact hpj)).mono ?_
        rintro e w1 ⟨rfl, hb⟩
        rw [tsq_at now j p hpj, HTP.out]
        have hM1 := hideIt (hM.out.below hb)
        clear hM hb y2 a6 q4
        have y1 := (HC.out _ k hM1.out.bl hlt).1
        rw [HP.out.be] at y1
        simp only [Option.getD_some] at y1
        obtain ⟨-, q2, -, q5, q6⟩ := HD.out _ hM1.out.bl
        have a6 := hM1.out.cell (i := 0) rfl 6 (.slice (some ⟨cg, 0, none⟩) (m + 1) cc) rfl
        have hd1 : decide (tp ≤ la) = false := by rw [decide_eq_false_iff_not]; omega
        have hd2 : decide (be ≤ fr) = false := by rw [decide_eq_false_iff_not]; omega
        have hd3 : decide (val + 1 < be) = false := by rw [decide_eq_false_iff_not]; omega
        go_wp2_with fail
        refine (within_any gt tk K fr be _ q5 (HRKK.out.below hM1.out.bl) (by omega)).mono ?_
        rintro e w2 ⟨rfl, rfl⟩
        have hcn := HP.out.cnt
        rw [HFR.out] at hcn
        rw [hcn]
        clear hcn y1 q2 a6 hd1 hd2 hd3 q5 q6
        go_wp2
        go_loopw [12, 18] (fun sn r wx => ∃ q c : Nat, sn = .int .i64 q ∧ r = .int .i64 c ∧ q ≤ 12 ∧ c ≤ 12 ∧ se ≤ q ∧ Hid (q + c = nx) ∧ Hid (M w w.heap.size wx [.blk w.heap.size #[.int .i64 0, .bool fd, .int .i64 nl, .int .i64 pt, .slice ak nl ck, .slice av nl cv, .slice (some ⟨cg, 0, none⟩) (m + 1) cc] 46])) (fun _ r _ => (intOf r).toNat)
        case atStart => exact ⟨se, cn, rfl, rfl, by have := HSN.out; omega, by have := HSN.out; omega, Nat.le_refl _, HSN.out, hM1.out⟩
        case round =>
          clear hM1
          obtain ⟨q, c, rfl, rfl, hq1, hc1, hq2, hq3, hM2⟩ := hrel
          by_cases hc0 : 0 < c
          · obtain ⟨c', rfl⟩ : ∃ c', c = c' + 1 := ⟨c - 1, by omega⟩
            have hqn : q < nl := by have := hq3.out; omega
            have hqn2 : (q : Int) < (nl : Int) := by omega
            have hqn3 : decide ((nl : Int) ≤ (q : Int)) = false := by rw [decide_eq_false_iff_not]; omega
            have hq0 : (0 : Int) ≤ (q : Int) := by omega
            obtain ⟨b1, o1, e1, -, x1⟩ := HRK.out.elem q hqn
            obtain ⟨b2, o2, e2, -, x2⟩ := HRV.out.elem q hqn
            have HQ := HP.out.keys (q - se) (by have := hq3.out; have := HSN.out; omega)
            rw [HSEE.out, HFR.out, show se + (q - se) = q by omega] at HQ
            have y1 := x1 _ hM2.out.bl
            have y2 := x2 _ hM2.out.bl
            obtain ⟨x, hx⟩ : ∃ y, ks[q]?.getD 0 = y := ⟨_, rfl⟩
            obtain ⟨y, hy⟩ : ∃ y, vs[q]?.getD 0 = y := ⟨_, rfl⟩
            rw [hx] at y1 HQ
            rw [hy] at y2 HQ
            obtain ⟨hQ1, hQ2, hQ3⟩ := HQ
            have HQ3 := hideIt hQ3
            have hd1 : decide (x < fr) = false := by rw [decide_eq_false_iff_not]; omega
            have hd2 : decide (be ≤ x) = false := by rw [decide_eq_false_iff_not]; omega
            have a4 := hM2.out.cell (i := 0) rfl 4 (.slice ak nl ck) rfl
            have a5 := hM2.out.cell (i := 0) rfl 5 (.slice av nl cv) rfl
            obtain ⟨-, -, -, q5, q6⟩ := HD.out _ hM2.out.bl
            have CV := hideIt (fun W (hb : Below w.heap.size w W) => value_any gt tk tvv K V x W (HD.out _ hb).2.2.2.1 (HD.out _ hb).2.2.2.2 (HRKK.out.below hb) (HRVV.out.below hb) (by omega) HKV.out)
            have HX2 := hideIt x2
            have HY := hideIt hy
            subst e1
            subst e2
            clear x2 hy hQ3
            rcases Nat.eq_zero_or_pos q with hz | hz
            · subst hz
              have hz1 : decide ((nl : Int) ≤ 0) = false := by rw [decide_eq_false_iff_not]; omega
              have hz2 : decide (nl = 0) = false := by rw [decide_eq_false_iff_not]; omega
              have hz3 : (0 : Int) < (nl : Int) := by omega
              clear hqn3 hqn2 hq0
              clear x1 hx
              simp only [Nat.add_zero] at y1 y2
              go_wp2
              go_quiet (fail)
              go_wp2_with fail
              refine (CV.out _ (hM2.out.drewN _).bl).mono ?_
              rintro e w3 ⟨fd2, v2, rfl, hV, hb⟩
              obtain ⟨rfl, rfl⟩ := HQ3.out fd2 v2 hV
              have hM3 := hideIt ((hM2.out.drewN _).below hb)
              clear hM2 CV hb hV y1 y2 a4 a5 q5 q6 HQ3
              have y2 := HX2.out _ hM3.out.bl
              rw [HY.out] at y2
              simp only [Nat.add_zero] at y2
              have a5 := hM3.out.cell (i := 0) rfl 5 (.slice (some ⟨b2, o2, none⟩) nl cv) rfl
              go_wp2
              go_roundw
              case rel => exact ⟨1, c', by go_num, by go_num, by omega, by omega, by omega, by have := hq3.out; unfold Hid; omega, hM3.out⟩
              case measure => simp [intOf]
            · obtain ⟨q', rfl⟩ : ∃ q', q = q' + 1 := ⟨q - 1, by omega⟩
              obtain ⟨b3, o3, e3, -, x3⟩ := HRK.out.elem q' (by omega)
              cases e3
              have y3 := x3 _ hM2.out.bl
              obtain ⟨x0, hx0⟩ : ∃ y, ks[q']?.getD 0 = y := ⟨_, rfl⟩
              rw [hx0] at y3
              have hri := HRI.out q' hqn
              rw [hx, hx0] at hri
              have hd3 : decide (x ≤ x0) = false := by rw [decide_eq_false_iff_not]; omega
              have hz1 : (0 : Int) < (q' : Int) + 1 := by omega
              have hz2 : (0 : Int) ≤ (q' : Int) := by omega
              have hz3 : (q' : Int) < (nl : Int) := by omega
              have hz4 : (q' : Int) + 1 < (nl : Int) := by omega
              have hz5 : decide ((nl : Int) ≤ (q' : Int) + 1) = false := by rw [decide_eq_false_iff_not]; omega
              clear x1 x3 hx hx0 hz hqn3
              go_wp2
              go_quiet (fail)
              go_wp2_with fail
              refine (CV.out _ (hM2.out.drewN _).bl).mono ?_
              rintro e w3 ⟨fd2, v2, rfl, hV, hb⟩
              obtain ⟨rfl, rfl⟩ := HQ3.out fd2 v2 hV
              have hM3 := hideIt ((hM2.out.drewN _).below hb)
              clear hM2 CV hb hV y1 y2 a4 a5 q5 q6 HQ3
              have y2 := HX2.out _ hM3.out.bl
              rw [HY.out] at y2
              have a5 := hM3.out.cell (i := 0) rfl 5 (.slice (some ⟨b2, o2, none⟩) nl cv) rfl
              go_wp2
              go_roundw
              case rel => exact ⟨q' + 1 + 1, c', by go_num, by go_num, by omega, by omega, by omega, by have := hq3.out; unfold Hid; omega, hM3.out⟩
              case measure => simp [intOf]
          · obtain rfl : c = 0 := by omega
            go_wp2
            go_roundw
            case rel => exact ⟨k + 1, by omega, by go_num, by show _ = Value.int .i64 (bel[k]?.getD 0); rw [HP.out.be]; rfl, by show _ = Value.int .i64 (now + pts[k]?.getD 0); rw [HP.out.pt, ← HTP.out]; rfl, by rw [HNX.out, ← hq3.out]; rfl, hM2.out⟩
            case measure => simp [intOf]; omega
      · obtain rfl : k = m + 1 := by omega
        rw [HSE.out, HSS.out]
        obtain ⟨hbb0, hbb1⟩ := HBB.out
        obtain ⟨-, q2, -, -, -⟩ := HD.out _ hM.out.bl
        have a4 := hM.out.cell (i := 0) rfl 4 (.slice ak nl ck) rfl
        rcases HEND.out with ⟨h12e, hbe⟩ | ⟨hlt12, hbe⟩
        · subst h12e
          obtain ⟨b1, o1, e1, -, x1⟩ := HRK.out.elem 11 (by omega)
          subst e1
          have y1 := x1 _ hM.out.bl
          have hg : ks.getLast?.getD 0 = ks[11]?.getD 0 := by rw [List.getLast?_eq_getElem?, HNL.out]
          obtain ⟨z, hz⟩ : ∃ y, ks[11]?.getD 0 = y := ⟨_, rfl⟩
          rw [hg, hz] at hbe
          rw [hz] at y1
          subst hbe
          clear x1 hg hz hk hlt
          go_wp2
          go_ret
          exact ⟨rfl, hM.out.bl⟩
        · have hne : ((nl : Int) == 12) = false := by simp; omega
          subst hbe
          clear hk hlt
          go_wp2
          go_ret
          exact ⟨rfl, hM.out.bl⟩
end Go.Proofs.YtajobgmnmbnhiaaGreatDoor.Sap
