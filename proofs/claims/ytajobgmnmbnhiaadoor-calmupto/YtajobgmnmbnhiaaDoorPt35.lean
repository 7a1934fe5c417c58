/- WHAT IS PROVED HERE: saplingkeep's fresh as a world, and play: a script is played over any program that keeps an invariant of the world (Mc). Conditions: the script has at most a million turns. -/
import Derived.Test.YtajobgmnmbnhiaaDoorPt33
namespace Go.Proofs.YtajobgmnmbnhiaaDoor.Sap
open Go.RowKit
set_option maxRecDepth 100000 in
set_option maxHeartbeats 6400000 in
theorem play_gen (sv : Value) (ts : List Tn) (Inv : Wd → Prop) (rk : Nat → Wd → Nat) (w : World) (hT : TRd w sv ts) (hok : ∀ t ∈ ts, t.ok) (hlen : ts.length ≤ 1048576) (m : Mc Inv rk w.heap.size w w.heap.size) (h0 : ∀ tg tc ug uc vg vc bg bc, Inv (Wd.first w.heap.size tg tc ug uc vg vc bg bc)) :
    Calls Tryd.prog 34 #[sv] w fun e w' => e = .returned (.pointer (some ⟨w.heap.size, 0, none⟩)) ∧ ∃ x', Inv x' ∧ x'.now ≤ 40 * (ts.length : Int) ∧ x'.ds.length ≤ ts.length ∧ M w w.heap.size w' (x'.as ++ []) := by
  have HT := hideIt hT
  obtain ⟨ao, cap, rfl, -⟩ := hT
  have HOK := hideIt hok
  have HMC := hideIt m
  have H0 := hideIt h0
  have HL := hideIt hlen
  obtain ⟨n, hn⟩ : ∃ n, ts.length = n := ⟨_, rfl⟩
  have HNN := hideIt hn
  rw [hn] at HL HT ⊢
  clear hok m h0 hlen hn
  obtain ⟨gw, hgw⟩ : ∃ g, w.heap.size = g := ⟨_, rfl⟩
  have HGW := hideIt hgw
  rw [hgw] at HMC H0 ⊢
  clear hgw
  go_enter Tryd.func34, Tryd.ntmps34
  go_wp2_with fail
  refine (fresh_wd w).mono ?_
  rintro e w1 ⟨rfl, tg, tc, ug, uc, vg, vc, bg, bc, hM⟩
  rw [HGW.out] at hM ⊢
  have A0 := hideIt hM
  clear hM
  go_wp2
  go_loopw [4] (fun y wr => ∃ (j : Nat) (x : Wd), y = .int .i64 j ∧ j ≤ n ∧ Hid (x.now ≤ 40 * (j : Int)) ∧ Hid (x.ds.length ≤ j) ∧ Hid (Inv x) ∧ Hid (M w gw wr (x.as ++ []))) (fun i _ => n - (intOf i).toNat)
  case atStart => exact ⟨0, _, rfl, by omega, by unfold Hid; simp [Wd.first], by unfold Hid; simp [Wd.first], H0.out tg tc ug uc vg vc bg bc, A0.out⟩
  case round =>
    clear A0
    obtain ⟨j, x, rfl, hj, hnw, hnd, hI, hM⟩ := hrel
    have hg : Hid (x.gw = gw) := HMC.out.pg x hI.out
    have g14 := hM.out.cell (i := 0) rfl 14 (.bool false) rfl
    rw [hg.out] at g14
    by_cases hlt : j < n
    · have hj1 : (j : Int) < (n : Int) := by omega
      have hj0 : (0 : Int) ≤ (j : Int) := by omega
      obtain ⟨ao2, cap2, e2, hT2⟩ := HT.out
      obtain ⟨b, off, e3, hT3⟩ := hT2 (by rw [HNN.out]; omega)
      obtain ⟨t, ht⟩ : ∃ t, ts[j]? = some t := ⟨_, List.getElem?_eq_getElem (by rw [HNN.out]; exact hlt)⟩
      cases e2
      subst e3
      have hb2 : Below w.heap.size w wr := by have := hM.out.bl; rw [← HGW.out] at this; exact this
      obtain ⟨c0, c1, c2, c3, c4⟩ := hT3 j t ht
      have c0 := cell_below hb2 _ _ c0
      have c1 := cell_below hb2 _ _ c1
      have c2 := cell_below hb2 _ _ c2
      have c3 := cell_below hb2 _ _ c3
      have c4 := cell_below hb2 _ _ c4
      have hok := HOK.out t (List.mem_of_getElem? ht)
      have CM := hideIt (HMC.out.turn x t.cl t.k t.key t.v t.mv wr [] hok.cl hok.k hok.key hok.v hok.mv hI.out (by have := hnw.out; have := HL.out; omega) (by have := hnd.out; have := HL.out; omega) hM.out)
      clear hM hI hb2 hT3 hT2 ht hok
      go_wp2_with fail
      refine CM.out.mono ?_
      rintro e w2 ⟨⟨u, rfl⟩, x', hI', hn', hd', hM'⟩
      have HI2 := hideIt hI'
      have HM2 := hideIt hM'
      have HN2 : Hid (x'.now ≤ 40 * ((j + 1 : Nat) : Int)) := by unfold Hid; have := hnw.out; omega
      have HD2 : Hid (x'.ds.length ≤ j + 1) := by unfold Hid; have := hnd.out; omega
      clear CM g14 c0 c1 c2 c3 c4 hI' hM' hn' hd' hg
      have hl6 := HL.out
      go_wp2
      go_roundw
      case rel => exact ⟨j + 1, x', by go_num, by omega, HN2.out, HD2.out, HI2.out, HM2.out⟩
      case measure => simp [intOf]; omega
    · obtain rfl : j = n := by omega
      go_wp2
      go_ret
      exact ⟨rfl, x, hI.out, hnw.out, hnd.out, hM.out⟩
end Go.Proofs.YtajobgmnmbnhiaaDoor.Sap
