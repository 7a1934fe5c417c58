/- WHAT IS PROVED HERE: saplingkeep's fresh as a world, and play: a script is played over any program that keeps an invariant of the world (Mc). Conditions: the script has at most a million turns. -/
import Derived.Test.YtjpgldeeopmbgaaDoorN6
namespace Go.Proofs.YtjpgldeeopmbgaaDoor.Sap
open Go.RowKit

/-- The world at the beginning. -/
def Wd.first (gw tg tc ug uc vg vc bg bc : Nat) : Wd := ⟨gw, tg, tc, ug, uc, vg, vc, bg, bc, .slice none 0 0, firstB :: List.replicate 63 ⟨#[]⟩, true :: List.replicate 63 false, List.replicate 64 0, List.replicate 64 (-1), 0, 0, false, false, false, .slice none 0 0, .slice none 0 0, []⟩

theorem fresh_wd (w : World) : Calls Tryd.prog 39 #[] w fun e w' => e = .returned (.pointer (some ⟨w.heap.size, 0, none⟩)) ∧ ∃ tg tc ug uc vg vc bg bc, M w w.heap.size w' ((Wd.first w.heap.size tg tc ug uc vg vc bg bc).as ++ []) := by
  refine (fresh_any w).mono ?_
  rintro e w' ⟨tv, uv, vv, bv, rfl, h⟩
  obtain ⟨tg, tc, rfl⟩ := As.form (h.get (i := 1) rfl) (by omega)
  obtain ⟨ug, uc, rfl⟩ := As.form (h.get (i := 2) rfl) (by omega)
  obtain ⟨vg, vc, rfl⟩ := As.form (h.get (i := 3) rfl) (by omega)
  obtain ⟨bg, bc, rfl⟩ := As.form (h.get (i := 4) rfl) (by omega)
  refine ⟨rfl, tg, tc, ug, uc, vg, vc, bg, bc, ?_⟩
  have h2 := M.rowNil (e := 61) (z := 1) h
  have e1 : (Wd.first w.heap.size tg tc ug uc vg vc bg bc).as ++ [] = [.blk w.heap.size (WC (.slice (some ⟨tg, 0, none⟩) 64 tc) (.slice (some ⟨ug, 0, none⟩) 64 uc) (.slice (some ⟨vg, 0, none⟩) 64 vc) (.slice none 0 0) (.slice (some ⟨bg, 0, none⟩) 64 bc) 0 0 false false false false false (.slice none 0 0) (.slice none 0 0) false) 58, .row 3 1 (.slice (some ⟨bg, 0, none⟩) 64 bc) 64 (List.replicate 64 (.int .i64 (-1))), .row 61 1 (.slice none 0 0) 0 [], .row 9 1 (.slice (some ⟨tg, 0, none⟩) 64 tc) 64 (.string firstB :: List.replicate 63 (.string ⟨#[]⟩)), .row 4 1 (.slice (some ⟨ug, 0, none⟩) 64 uc) 64 (.bool true :: List.replicate 63 (.bool false)), .row 3 1 (.slice (some ⟨vg, 0, none⟩) 64 vc) 64 (List.replicate 64 (.int .i64 0))] := by
    simp [Wd.as, Wd.hd, Wd.first, ints, strs, bools]
  rw [e1]
  refine h2.perm ?_
  refine List.Perm.cons _ ?_
  refine (List.perm_append_comm (l₁ := [_, _, _, _]) (l₂ := [_])).symm.trans ?_
  exact List.Perm.refl _

/-- A turn of a script. -/
structure Tn where
  cl : Int
  k : Int
  key : Int
  v : Int
  mv : Int
structure Tn.ok (t : Tn) : Prop where
  cl : I64 t.cl
  k : I64 t.k
  key : I64 t.key
  v : I64 t.v
  mv : I64 t.mv
/-- A script, as it lies in memory. -/
def TRd (w : World) (v : Value) (ts : List Tn) : Prop :=
  ∃ ao cap, v = .slice ao ts.length cap ∧ (0 < ts.length → ∃ b off, ao = some ⟨b, off, none⟩ ∧ ∀ j t, ts[j]? = some t → w.cell? ⟨b, off + j * 5, none⟩ = some (.int .i64 t.cl) ∧ w.cell? ⟨b, off + j * 5 + 1, none⟩ = some (.int .i64 t.k) ∧ w.cell? ⟨b, off + j * 5 + 2, none⟩ = some (.int .i64 t.key) ∧ w.cell? ⟨b, off + j * 5 + 3, none⟩ = some (.int .i64 t.v) ∧ w.cell? ⟨b, off + j * 5 + 4, none⟩ = some (.int .i64 t.mv))
theorem TRd.below {w w' : World} {v : Value} {ts : List Tn} (h : TRd w v ts) (hb : Below w.heap.size w w') : TRd w' v ts := by
  obtain ⟨ao, cap, rfl, h⟩ := h
  refine ⟨ao, cap, rfl, fun hp => ?_⟩
  obtain ⟨b, off, rfl, k⟩ := h hp
  refine ⟨b, off, rfl, fun j t hj => ?_⟩
  obtain ⟨h0, h1, h2, h3, h4⟩ := k j t hj
  exact ⟨cell_below hb _ _ h0, cell_below hb _ _ h1, cell_below hb _ _ h2, cell_below hb _ _ h3, cell_below hb _ _ h4⟩

set_option maxRecDepth 100000 in
set_option maxHeartbeats 6400000 in
theorem play_gen (sv : Value) (ts : List Tn) (Inv : Wd → Prop) (rk : Nat → Wd → Nat) (w : World) (hT : TRd w sv ts) (hok : ∀ t ∈ ts, t.ok) (hlen : ts.length ≤ 1048576) (m : Mc Inv rk w.heap.size w w.heap.size) (h0 : ∀ tg tc ug uc vg vc bg bc, Inv (Wd.first w.heap.size tg tc ug uc vg vc bg bc)) :
    Calls Tryd.prog 36 #[sv] w fun e w' => e = .returned (.pointer (some ⟨w.heap.size, 0, none⟩)) ∧ ∃ x', Inv x' ∧ x'.now ≤ 40 * (ts.length : Int) ∧ x'.ds.length ≤ ts.length ∧ M w w.heap.size w' (x'.as ++ []) := by
  have HT := hideIt hT
  obtain ⟨ao, cap, rfl, -⟩ := hT
  have HOK := hideIt hok
  have HMC := hideIt m
  have H0 := hideIt h0
  have HL := hideIt hlen
  obtain ⟨n, hn⟩ : ∃ n, ts.length = n := ⟨_, rfl⟩
  have HNN := hideIt hn
  rw [hn] at HL HT ⊢
  clear hok m h0 hlen hn
  obtain ⟨gw, hgw⟩ : ∃ g, w.heap.size = g := ⟨_, rfl⟩
  have HGW := hideIt hgw
  rw [hgw] at HMC H0 ⊢
  clear hgw
  go_enter Tryd.func36, Tryd.ntmps36
  go_wp2_with fail
  refine (fresh_wd w).mono ?_
  rintro e w1 ⟨rfl, tg, tc, ug, uc, vg, vc, bg, bc, hM⟩
  rw [HGW.out] at hM ⊢
  have A0 := hideIt hM
  clear hM
  go_wp2
  go_loopw [4] (fun y wr => ∃ (j : Nat) (x : Wd), y = .int .i64 j ∧ j ≤ n ∧ Hid (x.now ≤ 40 * (j : Int)) ∧ Hid (x.ds.length ≤ j) ∧ Hid (Inv x) ∧ Hid (M w gw wr (x.as ++ []))) (fun i _ => n - (intOf i).toNat)
  case atStart => exact ⟨0, _, rfl, by omega, by unfold Hid; simp [Wd.first], by unfold Hid; simp [Wd.first], H0.out tg tc ug uc vg vc bg bc, A0.out⟩
  case round =>
    clear A0
    obtain ⟨j, x, rfl, hj, hnw, hnd, hI, hM⟩ := hrel
    have hg : Hid (x.gw = gw) := HMC.out.pg x hI.out
    have g14 := hM.out.cell (i := 0) rfl 14 (.bool false) rfl
    rw [hg.out] at g14
    by_cases hlt : j < n
    · have hj1 : (j : Int) < (n : Int) := by omega
      have hj0 : (0 : Int) ≤ (j : Int) := by omega
      obtain ⟨ao2, cap2, e2, hT2⟩ := HT.out
      obtain ⟨b, off, e3, hT3⟩ := hT2 (by rw [HNN.out]; omega)
      obtain ⟨t, ht⟩ : ∃ t, ts[j]? = some t := ⟨_, List.getElem?_eq_getElem (by rw [HNN.out]; exact hlt)⟩
      cases e2
      subst e3
      have hb2 : Below w.heap.size w wr := by have := hM.out.bl; rw [← HGW.out] at this; exact this
      obtain ⟨c0, c1, c2, c3, c4⟩ := hT3 j t ht
      have c0 := cell_below hb2 _ _ c0
      have c1 := cell_below hb2 _ _ c1
      have c2 := cell_below hb2 _ _ c2
      have c3 := cell_below hb2 _ _ c3
      have c4 := cell_below hb2 _ _ c4
      have hok := HOK.out t (List.mem_of_getElem? ht)
      have CM := hideIt (HMC.out.turn x t.cl t.k t.key t.v t.mv wr [] hok.cl hok.k hok.key hok.v hok.mv hI.out (by have := hnw.out; have := HL.out; omega) (by have := hnd.out; have := HL.out; omega) hM.out)
      clear hM hI hb2 hT3 hT2 ht hok
      go_wp2_with fail
      refine CM.out.mono ?_
      rintro e w2 ⟨⟨u, rfl⟩, x', hI', hn', hd', hM'⟩
      have HI2 := hideIt hI'
      have HM2 := hideIt hM'
      have HN2 : Hid (x'.now ≤ 40 * ((j + 1 : Nat) : Int)) := by unfold Hid; have := hnw.out; omega
      have HD2 : Hid (x'.ds.length ≤ j + 1) := by unfold Hid; have := hnd.out; omega
      clear CM g14 c0 c1 c2 c3 c4 hI' hM' hn' hd' hg
      have hl6 := HL.out
      go_wp2
      go_roundw
      case rel => exact ⟨j + 1, x', by go_num, by omega, HN2.out, HD2.out, HI2.out, HM2.out⟩
      case measure => simp [intOf]; omega
    · obtain rfl : j = n := by omega
      go_wp2
      go_ret
      exact ⟨rfl, x, hI.out, hnw.out, hnd.out, hM.out⟩
end Go.Proofs.YtjpgldeeopmbgaaDoor.Sap
