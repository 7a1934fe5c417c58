/- WHAT IS PROVED HERE: saplingkeep's turn over any program that keeps an invariant of the world (Mc). Conditions: the numbers are small. -/
import Derived.Test.YtajobgmnmbnhiaaDoorXK4K6
import Derived.Test.YtajobgmnmbnhiaaDoorXP2N5
import Derived.BigRegion
import Derived.BigQuiet
namespace Go.Proofs.YtajobgmnmbnhiaaDoor.Sap
open Go.RowKit

theorem M.cellIn {w0 w : World} {B b : Nat} {l : List As} {c : Array Value} {t : TypeId} (h : M w0 B w l) (hm : As.blk b c t ∈ l) (j : Nat) (v : Value) (hv : c[j]? = some v) : w.cell? ⟨b, j, none⟩ = some v := by
  obtain ⟨i, hi⟩ := List.getElem?_of_mem hm
  exact h.cell hi j v hv
set_option maxRecDepth 100000 in
set_option maxHeartbeats 6400000 in
theorem Mc.turn {Inv : Wd → Prop} {rk : Nat → Wd → Nat} {gw : Nat} {w0 : World} {B : Nat} (m : Mc Inv rk gw w0 B) (x0 : Wd) (cl k key v mv : Int) (w : World) (fr : List As) (hcl : I64 cl) (hk : I64 k) (hkey : I64 key) (hv : I64 v) (hmv : I64 mv) (hI : Inv x0) (hn : x0.now ≤ 80000000) (hd : x0.ds.length ≤ 80000000) (h : M w0 B w (x0.as ++ fr)) :
    Calls Tryd.prog 29 #[.pointer (some ⟨gw, 0, none⟩), .agg #[.int .i64 cl, .int .i64 k, .int .i64 key, .int .i64 v, .int .i64 mv]] w fun e w' => (∃ u, e = .returned u) ∧ ∃ x', Inv x' ∧ x'.now ≤ x0.now + 40 ∧ x'.ds.length ≤ x0.ds.length + 1 ∧ M w0 B w' (x'.as ++ fr) := by
  have A0 := hideIt (h.alloc #[.int .i64 cl, .int .i64 k, .int .i64 key, .int .i64 v, .int .i64 mv] 61)
  obtain ⟨hc0, hc1⟩ := pickV_bd cl 64 (by omega)
  obtain ⟨hm0, hm1⟩ := pickV_bd mv 40 (by omega)
  have P1 := hideIt (fun W => pick_ok cl 64 W ⟨hcl, by omega, by omega⟩)
  have P2 := hideIt (fun W => pick_ok mv 40 W ⟨hmv, by omega, by omega⟩)
  have P3 := hideIt (fun W => right_make k key v W hk hkey hv)
  have P4 := hideIt (right_right k key v)
  obtain ⟨c, hcc⟩ : ∃ c : Nat, pickV cl 64 = (c : Int) := ⟨(pickV cl 64).toNat, by omega⟩
  obtain ⟨n, hnn⟩ : ∃ n : Nat, pickV mv 40 = (n : Int) := ⟨(pickV mv 40).toNat, by omega⟩
  rw [hcc] at P1 hc0 hc1
  rw [hnn] at P2 hm0 hm1
  have HMC := hideIt m
  have HI := hideIt hI
  have HN := hideIt hn
  have HD := hideIt hd
  obtain ⟨gt, hgt⟩ : ∃ g, w.heap.size = g := ⟨_, rfl⟩
  have hg := m.pg x0 hI
  have hbs := m.bs x0 c hI (by omega)
  subst hg
  clear h hcl hk hkey hv hmv hI hn hd m hcc hnn
  go_enter Tryd.func29, Tryd.ntmps29
  rw [hgt] at A0
  obtain ⟨FB, hFB⟩ : ∃ F, F = (As.blk gt #[.int .i64 cl, .int .i64 k, .int .i64 key, .int .i64 v, .int .i64 mv] 61 :: fr) := ⟨_, rfl⟩
  have HFB := hideIt hFB
  have HIN : Hid (∀ x : Wd, As.blk gt #[.int .i64 cl, .int .i64 k, .int .i64 key, .int .i64 v, .int .i64 mv] 61 ∈ x.as ++ FB) := fun x => by rw [HFB.out]; simp
  have A1 := hideIt (A0.out.perm (List.perm_middle (l₁ := x0.as)))
  rw [← hFB] at A1
  clear hFB A0
  go_wp2_with fail
  refine (P1.out _).mono ?_
  rintro e w1 ⟨rfl, rfl⟩
  generalize hW1 : w.alloc _ = w1 at A1 ⊢
  clear hW1 hgt
  have g4 := A1.out.cell (i := 0) rfl 4 (.slice (some ⟨x0.bg, 0, none⟩) 64 x0.bc) rfl
  rcases hbs with hb | ⟨⟨i, hb⟩, -, -⟩
  · have b0 := A1.out.rowCell (i := 1) rfl c (.int .i64 (-1)) (ints_get hb)
    have p1 := A1.out.cellIn (HIN.out x0) 1 (.int .i64 k) rfl
    have p2 := A1.out.cellIn (HIN.out x0) 2 (.int .i64 key) rfl
    have p3 := A1.out.cellIn (HIN.out x0) 3 (.int .i64 v) rfl
    have HB := hideIt hb
    clear hb
    go_wp2_with fail
    refine (P3.out _).mono ?_
    rintro e w2 ⟨rfl, hb⟩
    have A2 := hideIt (A1.out.below hb)
    clear hb A1 g4 b0 p1 p2 p3
    go_wp2_with fail
    refine (HMC.out.bg x0 c _ _ _ w2 FB (by omega) HI.out (by have := HD.out; omega) P4.out HB.out A2.out).mono ?_
    rintro e w3 ⟨⟨u, rfl⟩, x1, hI1, hn1, hd1, -, hM1⟩
    have HI1 := hideIt hI1
    have HN1 : Hid (x1.now ≤ x0.now) := by unfold Hid; omega
    have HD1 : Hid (x1.ds.length ≤ x0.ds.length + 1) := by unfold Hid; omega
    have A3 := hideIt hM1
    clear hI1 hn1 hd1 hM1 A2 HB
    have p4 := A3.out.cellIn (HIN.out x1) 4 (.int .i64 mv) rfl
    go_wp2_with fail
    refine (P2.out _).mono ?_
    rintro e w9 ⟨rfl, rfl⟩
    clear p4
    go_wp2
    go_loopw [6] (fun y wr => ∃ (j : Nat) (x : Wd), y = .int .i64 j ∧ j ≤ n + 1 ∧ Hid (x.now ≤ x0.now + (j : Int)) ∧ Hid (x.ds.length ≤ x0.ds.length + 1) ∧ Hid (Inv x) ∧ Hid (M w0 B wr (x.as ++ FB))) (fun i _ => (n + 1) - (intOf i).toNat)
    case atStart => exact ⟨0, x1, rfl, by omega, by unfold Hid; have := HN1.out; omega, HD1.out, HI1.out, A3.out⟩
    case round =>
      clear A3 HI1 HN1 HD1
      obtain ⟨j, x, rfl, hj, hnw, hnd, hI, hM⟩ := hrel
      have hg : Hid (x.gw = x0.gw) := HMC.out.pg x hI.out
      have g14 := hM.out.cell (i := 0) rfl 14 (.bool false) rfl
      have g4 := hM.out.cell (i := 0) rfl 4 (.slice (some ⟨x.bg, 0, none⟩) 64 x.bc) rfl
      rw [hg.out] at g14 g4
      by_cases hlt : j < n + 1
      · have hj1 : (j : Int) < 1 + (n : Int) := by omega
        rcases HMC.out.bs x c hI.out (by omega) with hb | ⟨⟨i, hb⟩, -, -⟩
        · have b0 := hM.out.rowCell (i := 1) rfl c (.int .i64 (-1)) (ints_get hb)
          clear hb
          go_wp2
          exact bodyPost_end (results_none Tryd.results29 _ _ _) rfl ⟨⟨_, rfl⟩, x, hI.out, by have := hnw.out; omega, hnd.out, by have h9 := hM.out; rw [HFB.out] at h9; exact (h9.perm (List.perm_middle (l₁ := x.as)).symm).sub (List.sublist_cons_self _ _)⟩
        · have b0 := hM.out.rowCell (i := 1) rfl c (.int .i64 i) (ints_get hb)
          have hi0 : (0 : Int) ≤ (i : Int) := by omega
          have CM := hideIt (HMC.out.mv x c i wr FB (by omega) hI.out (by have := hnw.out; have := HN.out; omega) hb hM.out)
          clear hM hb hI
          go_wp2_with fail
          refine CM.out.mono ?_
          rintro e w4 ⟨⟨u, rfl⟩, x', hI', hN', -, hM'⟩
          have HI2 := hideIt hI'
          have HM2 := hideIt hM'
          have HN2 : Hid (x'.now ≤ x0.now + ((j + 1 : Nat) : Int)) := by unfold Hid; have := hnw.out; have := hN'.now; omega
          have HD2 : Hid (x'.ds.length ≤ x0.ds.length + 1) := by unfold Hid; rw [hN'.nd]; exact hnd.out
          clear CM g14 g4 b0 hI' hM' hN' hg
          go_wp2
          go_roundw
          case rel => exact ⟨j + 1, x', by go_num, by omega, HN2.out, HD2.out, HI2.out, HM2.out⟩
          case measure => simp [intOf]; omega
      · have hj1 : ¬ ((j : Int) < 1 + (n : Int)) := by omega
        have hjn : (1 : Int) + (n : Int) ≤ (j : Int) := by omega
        go_wp2
        exact bodyPost_end (results_none Tryd.results29 _ _ _) rfl ⟨⟨_, rfl⟩, x, hI.out, by have := hnw.out; omega, hnd.out, by have h9 := hM.out; rw [HFB.out] at h9; exact (h9.perm (List.perm_middle (l₁ := x.as)).symm).sub (List.sublist_cons_self _ _)⟩
  · have b0 := A1.out.rowCell (i := 1) rfl c (.int .i64 i) (ints_get hb)
    have hi0 : (0 : Int) ≤ (i : Int) := by omega
    obtain ⟨x1, hx1⟩ : ∃ x1, x1 = x0 := ⟨_, rfl⟩
    have HI1 : Hid (Inv x1) := by rw [hx1]; exact HI.out
    have HN1 : Hid (x1.now ≤ x0.now) := by unfold Hid; rw [hx1]; omega
    have HD1 : Hid (x1.ds.length ≤ x0.ds.length + 1) := by unfold Hid; rw [hx1]; omega
    have A3 : Hid (M w0 B w1 (x1.as ++ FB)) := by rw [hx1]; exact A1.out
    clear hb A1 hx1
    have p4 := A3.out.cellIn (HIN.out x1) 4 (.int .i64 mv) rfl
    go_wp2_with fail
    refine (P2.out _).mono ?_
    rintro e w9 ⟨rfl, rfl⟩
    clear p4
    go_wp2
    go_loopw [6] (fun y wr => ∃ (j : Nat) (x : Wd), y = .int .i64 j ∧ j ≤ n + 1 ∧ Hid (x.now ≤ x0.now + (j : Int)) ∧ Hid (x.ds.length ≤ x0.ds.length + 1) ∧ Hid (Inv x) ∧ Hid (M w0 B wr (x.as ++ FB))) (fun i _ => (n + 1) - (intOf i).toNat)
    case atStart => exact ⟨0, x1, rfl, by omega, by unfold Hid; have := HN1.out; omega, HD1.out, HI1.out, A3.out⟩
    case round =>
      clear A3 HI1 HN1 HD1
      obtain ⟨j, x, rfl, hj, hnw, hnd, hI, hM⟩ := hrel
      have hg : Hid (x.gw = x0.gw) := HMC.out.pg x hI.out
      have g14 := hM.out.cell (i := 0) rfl 14 (.bool false) rfl
      have g4 := hM.out.cell (i := 0) rfl 4 (.slice (some ⟨x.bg, 0, none⟩) 64 x.bc) rfl
      rw [hg.out] at g14 g4
      by_cases hlt : j < n + 1
      · have hj1 : (j : Int) < 1 + (n : Int) := by omega
        rcases HMC.out.bs x c hI.out (by omega) with hb | ⟨⟨i, hb⟩, -, -⟩
        · have b0 := hM.out.rowCell (i := 1) rfl c (.int .i64 (-1)) (ints_get hb)
          clear hb
          go_wp2
          exact bodyPost_end (results_none Tryd.results29 _ _ _) rfl ⟨⟨_, rfl⟩, x, hI.out, by have := hnw.out; omega, hnd.out, by have h9 := hM.out; rw [HFB.out] at h9; exact (h9.perm (List.perm_middle (l₁ := x.as)).symm).sub (List.sublist_cons_self _ _)⟩
        · have b0 := hM.out.rowCell (i := 1) rfl c (.int .i64 i) (ints_get hb)
          have hi0 : (0 : Int) ≤ (i : Int) := by omega
          have CM := hideIt (HMC.out.mv x c i wr FB (by omega) hI.out (by have := hnw.out; have := HN.out; omega) hb hM.out)
          clear hM hb hI
          go_wp2_with fail
          refine CM.out.mono ?_
          rintro e w4 ⟨⟨u, rfl⟩, x', hI', hN', -, hM'⟩
          have HI2 := hideIt hI'
          have HM2 := hideIt hM'
          have HN2 : Hid (x'.now ≤ x0.now + ((j + 1 : Nat) : Int)) := by unfold Hid; have := hnw.out; have := hN'.now; omega
          have HD2 : Hid (x'.ds.length ≤ x0.ds.length + 1) := by unfold Hid; rw [hN'.nd]; exact hnd.out
          clear CM g14 g4 b0 hI' hM' hN' hg
          go_wp2
          go_roundw
          case rel => exact ⟨j + 1, x', by go_num, by omega, HN2.out, HD2.out, HI2.out, HM2.out⟩
          case measure => simp [intOf]; omega
      · have hj1 : ¬ ((j : Int) < 1 + (n : Int)) := by omega
        have hjn : (1 : Int) + (n : Int) ≤ (j : Int) := by omega
        go_wp2
        exact bodyPost_end (results_none Tryd.results29 _ _ _) rfl ⟨⟨_, rfl⟩, x, hI.out, by have := hnw.out; omega, hnd.out, by have h9 := hM.out; rw [HFB.out] at h9; exact (h9.perm (List.perm_middle (l₁ := x.as)).symm).sub (List.sublist_cons_self _ _)⟩
end Go.Proofs.YtajobgmnmbnhiaaDoor.Sap

/- WHAT IS PROVED HERE: saplingkeep's fresh as a world, and play: a script is played over any program that keeps an invariant of the world (Mc). Conditions: the script has at most a million turns. -/
namespace Go.Proofs.YtajobgmnmbnhiaaDoor.Sap
open Go.RowKit

/-- The world at the beginning. -/
def Wd.first (gw tg tc ug uc vg vc bg bc : Nat) : Wd := ⟨gw, tg, tc, ug, uc, vg, vc, bg, bc, .slice none 0 0, firstB :: List.replicate 63 ⟨#[]⟩, true :: List.replicate 63 false, List.replicate 64 0, List.replicate 64 (-1), 0, 0, false, false, false, .slice none 0 0, .slice none 0 0, []⟩

theorem fresh_wd (w : World) : Calls Tryd.prog 28 #[] w fun e w' => e = .returned (.pointer (some ⟨w.heap.size, 0, none⟩)) ∧ ∃ tg tc ug uc vg vc bg bc, M w w.heap.size w' ((Wd.first w.heap.size tg tc ug uc vg vc bg bc).as ++ []) := by
  refine (fresh_any w).mono ?_
  rintro e w' ⟨tv, uv, vv, bv, rfl, h⟩
  obtain ⟨tg, tc, rfl⟩ := As.form (h.get (i := 1) rfl) (by omega)
  obtain ⟨ug, uc, rfl⟩ := As.form (h.get (i := 2) rfl) (by omega)
  obtain ⟨vg, vc, rfl⟩ := As.form (h.get (i := 3) rfl) (by omega)
  obtain ⟨bg, bc, rfl⟩ := As.form (h.get (i := 4) rfl) (by omega)
  refine ⟨rfl, tg, tc, ug, uc, vg, vc, bg, bc, ?_⟩
  have h2 := M.rowNil (e := 81) (z := 1) h
  have e1 : (Wd.first w.heap.size tg tc ug uc vg vc bg bc).as ++ [] = [.blk w.heap.size (WC (.slice (some ⟨tg, 0, none⟩) 64 tc) (.slice (some ⟨ug, 0, none⟩) 64 uc) (.slice (some ⟨vg, 0, none⟩) 64 vc) (.slice none 0 0) (.slice (some ⟨bg, 0, none⟩) 64 bc) 0 0 false false false false false (.slice none 0 0) (.slice none 0 0) false) 58, .row 3 1 (.slice (some ⟨bg, 0, none⟩) 64 bc) 64 (List.replicate 64 (.int .i64 (-1))), .row 81 1 (.slice none 0 0) 0 [], .row 9 1 (.slice (some ⟨tg, 0, none⟩) 64 tc) 64 (.string firstB :: List.replicate 63 (.string ⟨#[]⟩)), .row 4 1 (.slice (some ⟨ug, 0, none⟩) 64 uc) 64 (.bool true :: List.replicate 63 (.bool false)), .row 3 1 (.slice (some ⟨vg, 0, none⟩) 64 vc) 64 (List.replicate 64 (.int .i64 0))] := by
    simp [Wd.as, Wd.hd, Wd.first, ints, strs, bools]
  rw [e1]
  refine h2.perm ?_
  refine List.Perm.cons _ ?_
  refine (List.perm_append_comm (l₁ := [_, _, _, _]) (l₂ := [_])).symm.trans ?_
  exact List.Perm.refl _

/-- A turn of a script. -/
structure Tn where
  cl : Int
  k : Int
  key : Int
  v : Int
  mv : Int
structure Tn.ok (t : Tn) : Prop where
  cl : I64 t.cl
  k : I64 t.k
  key : I64 t.key
  v : I64 t.v
  mv : I64 t.mv
/-- A script, as it lies in memory. -/
def TRd (w : World) (v : Value) (ts : List Tn) : Prop :=
  ∃ ao cap, v = .slice ao ts.length cap ∧ (0 < ts.length → ∃ b off, ao = some ⟨b, off, none⟩ ∧ ∀ j t, ts[j]? = some t → w.cell? ⟨b, off + j * 5, none⟩ = some (.int .i64 t.cl) ∧ w.cell? ⟨b, off + j * 5 + 1, none⟩ = some (.int .i64 t.k) ∧ w.cell? ⟨b, off + j * 5 + 2, none⟩ = some (.int .i64 t.key) ∧ w.cell? ⟨b, off + j * 5 + 3, none⟩ = some (.int .i64 t.v) ∧ w.cell? ⟨b, off + j * 5 + 4, none⟩ = some (.int .i64 t.mv))
theorem TRd.below {w w' : World} {v : Value} {ts : List Tn} (h : TRd w v ts) (hb : Below w.heap.size w w') : TRd w' v ts := by
  obtain ⟨ao, cap, rfl, h⟩ := h
  refine ⟨ao, cap, rfl, fun hp => ?_⟩
  obtain ⟨b, off, rfl, k⟩ := h hp
  refine ⟨b, off, rfl, fun j t hj => ?_⟩
  obtain ⟨h0, h1, h2, h3, h4⟩ := k j t hj
  exact ⟨cell_below hb _ _ h0, cell_below hb _ _ h1, cell_below hb _ _ h2, cell_below hb _ _ h3, cell_below hb _ _ h4⟩

set_option maxRecDepth 100000 in
set_option maxHeartbeats 6400000 in
theorem play_gen (sv : Value) (ts : List Tn) (Inv : Wd → Prop) (rk : Nat → Wd → Nat) (w : World) (hT : TRd w sv ts) (hok : ∀ t ∈ ts, t.ok) (hlen : ts.length ≤ 1048576) (m : Mc Inv rk w.heap.size w w.heap.size) (h0 : ∀ tg tc ug uc vg vc bg bc, Inv (Wd.first w.heap.size tg tc ug uc vg vc bg bc)) :
    Calls Tryd.prog 34 #[sv] w fun e w' => e = .returned (.pointer (some ⟨w.heap.size, 0, none⟩)) ∧ ∃ x', Inv x' ∧ x'.now ≤ 40 * (ts.length : Int) ∧ x'.ds.length ≤ ts.length ∧ M w w.heap.size w' (x'.as ++ []) := by
  have HT := hideIt hT
  obtain ⟨ao, cap, rfl, -⟩ := hT
  have HOK := hideIt hok
  have HMC := hideIt m
  have H0 := hideIt h0
  have HL := hideIt hlen
  obtain ⟨n, hn⟩ : ∃ n, ts.length = n := ⟨_, rfl⟩
  have HNN := hideIt hn
  rw [hn] at HL HT ⊢
  clear hok m h0 hlen hn
  obtain ⟨gw, hgw⟩ : ∃ g, w.heap.size = g := ⟨_, rfl⟩
  have HGW := hideIt hgw
  rw [hgw] at HMC H0 ⊢
  clear hgw
  go_enter Tryd.func34, Tryd.ntmps34
  go_wp2_with fail
  refine (fresh_wd w).mono ?_
  rintro e w1 ⟨rfl, tg, tc, ug, uc, vg, vc, bg, bc, hM⟩
  rw [HGW.out] at hM ⊢
  have A0 := hideIt hM
  clear hM
  go_wp2
  go_loopw [4] (fun y wr => ∃ (j : Nat) (x : Wd), y = .int .i64 j ∧ j ≤ n ∧ Hid (x.now ≤ 40 * (j : Int)) ∧ Hid (x.ds.length ≤ j) ∧ Hid (Inv x) ∧ Hid (M w gw wr (x.as ++ []))) (fun i _ => n - (intOf i).toNat)
  case atStart => exact ⟨0, _, rfl, by omega, by unfold Hid; simp [Wd.first], by unfold Hid; simp [Wd.first], H0.out tg tc ug uc vg vc bg bc, A0.out⟩
  case round =>
    clear A0
    obtain ⟨j, x, rfl, hj, hnw, hnd, hI, hM⟩ := hrel
    have hg : Hid (x.gw = gw) := HMC.out.pg x hI.out
    have g14 := hM.out.cell (i := 0) rfl 14 (.bool false) rfl
    rw [hg.out] at g14
    by_cases hlt : j < n
    · have hj1 : (j : Int) < (n : Int) := by omega
      have hj0 : (0 : Int) ≤ (j : Int) := by omega
      obtain ⟨ao2, cap2, e2, hT2⟩ := HT.out
      obtain ⟨b, off, e3, hT3⟩ := hT2 (by rw [HNN.out]; omega)
      obtain ⟨t, ht⟩ : ∃ t, ts[j]? = some t := ⟨_, List.getElem?_eq_getElem (by rw [HNN.out]; exact hlt)⟩
      cases e2
      subst e3
      have hb2 : Below w.heap.size w wr := by have := hM.out.bl; rw [← HGW.out] at this; exact this
      obtain ⟨c0, c1, c2, c3, c4⟩ := hT3 j t ht
      have c0 := cell_below hb2 _ _ c0
      have c1 := cell_below hb2 _ _ c1
      have c2 := cell_below hb2 _ _ c2
      have c3 := cell_below hb2 _ _ c3
      have c4 := cell_below hb2 _ _ c4
      have hok := HOK.out t (List.mem_of_getElem? ht)
      have CM := hideIt (HMC.out.turn x t.cl t.k t.key t.v t.mv wr [] hok.cl hok.k hok.key hok.v hok.mv hI.out (by have := hnw.out; have := HL.out; omega) (by have := hnd.out; have := HL.out; omega) hM.out)
      clear hM hI hb2 hT3 hT2 ht hok
      go_wp2_with fail
      refine CM.out.mono ?_
      rintro e w2 ⟨⟨u, rfl⟩, x', hI', hn', hd', hM'⟩
      have HI2 := hideIt hI'
      have HM2 := hideIt hM'
      have HN2 : Hid (x'.now ≤ 40 * ((j + 1 : Nat) : Int)) := by unfold Hid; have := hnw.out; omega
      have HD2 : Hid (x'.ds.length ≤ j + 1) := by unfold Hid; have := hnd.out; omega
      clear CM g14 c0 c1 c2 c3 c4 hI' hM' hn' hd' hg
      have hl6 := HL.out
      go_wp2
      go_roundw
      case rel => exact ⟨j + 1, x', by go_num, by omega, HN2.out, HD2.out, HI2.out, HM2.out⟩
      case measure => simp [intOf]; omega
    · obtain rfl : j = n := by omega
      go_wp2
      go_ret
      exact ⟨rfl, x, hI.out, hnw.out, hnd.out, hM.out⟩
end Go.Proofs.YtajobgmnmbnhiaaDoor.Sap

/- WHAT IS PROVED HERE: saplingkeep's proved: an operation of each kind at the beginning is answered as the document has it. Conditions: what begin and alone do at each of the six is given. -/
namespace Go.Proofs.YtajobgmnmbnhiaaDoor.Sap
open Go.RowKit

def pvK : Nat → Int | 0 => 1 | 1 => 2 | 2 => 1 | 3 => 4 | 4 => 3 | _ => 1
def pvY : Nat → Int | 3 => 1 | _ => 5
def pvV : Nat → Int | 1 => 50 | 3 => 9 | _ => 0
def pvW : Nat → Int | 2 => 50 | 3 => 1 | 4 => 50 | _ => 0

/-- What the six operations of proved do, one behind the other: Pv i is how the world is ahead of the i-th, Pb i how it is when the i-th was begun. -/
structure Pvd (Pv Pb : Nat → Wd → Prop) (gw : Nat) (w0 : World) (B : Nat) : Prop where
  pg : ∀ i x, Pv i x → x.gw = gw
  pb : ∀ i x, Pb i x → x.gw = gw
  bg : ∀ i x W (fr : List As), i < 6 → Pv i x → M w0 B W (x.as ++ fr) → Calls Tryd.prog 55 #[.pointer (some ⟨gw, 0, none⟩), .int .i64 0, .agg #[.int .i64 (pvK i), .int .i64 (pvY i), .int .i64 (pvV i)]] W fun e w' => (∃ u, e = .returned u) ∧ ∃ x', Pb i x' ∧ M w0 B w' (x'.as ++ fr)
  al : ∀ i x W (fr : List As), i < 6 → Pb i x → M w0 B W (x.as ++ fr) → Calls Tryd.prog 37 #[.pointer (some ⟨gw, 0, none⟩), .int .i64 0] W fun e w' => (∃ u, e = .returned u) ∧ ∃ x' n d, Pv (i + 1) x' ∧ x'.ds.length = n + 1 ∧ n ≤ 100 ∧ x'.ds[n]? = some d ∧ d.er = 0 ∧ d.va = pvW i ∧ d.fd = decide (0 < pvW i) ∧ M w0 B w' (x'.as ++ fr)

set_option maxRecDepth 100000 in
set_option maxHeartbeats 6400000 in
theorem proved_gen (Pv Pb : Nat → Wd → Prop) (w : World) (m : Pvd Pv Pb w.heap.size w w.heap.size) (h0 : ∀ tg tc ug uc vg vc bg bc, Pv 0 (Wd.first w.heap.size tg tc ug uc vg vc bg bc)) :
    Calls Tryd.prog 27 #[] w fun e w' => e = .returned (.bool true) ∧ Below w.heap.size w w' := by
  have HMC := hideIt m
  have H0 := hideIt h0
  clear m h0
  obtain ⟨gw, hgw⟩ : ∃ g, w.heap.size = g := ⟨_, rfl⟩
  have HGW := hideIt hgw
  rw [hgw] at HMC H0 ⊢
  clear hgw
  go_enter Tryd.func27, Tryd.ntmps27
  go_wp2_with fail
  refine (fresh_wd w).mono ?_
  rintro e w1 ⟨rfl, tg, tc, ug, uc, vg, vc, bg, bc, hM⟩
  rw [HGW.out] at hM ⊢
  have A0 := hideIt hM
  clear hM
  have A1 := hideIt (A0.out.alloc #[.int .i64 1, .int .i64 5, .int .i64 0, .int .i64 2, .int .i64 5, .int .i64 50, .int .i64 1, .int .i64 5, .int .i64 0, .int .i64 4, .int .i64 1, .int .i64 9, .int .i64 3, .int .i64 5, .int .i64 0, .int .i64 1, .int .i64 5, .int .i64 0] 37)
  have A2 := hideIt (A1.out.alloc #[.int .i64 0, .int .i64 0, .int .i64 50, .int .i64 1, .int .i64 50, .int .i64 0] 3)
  clear A0 A1
  go_wp2
  rw [alloc_size] at A2
  obtain ⟨ga, hga⟩ : ∃ g, w1.heap.size = g := ⟨_, rfl⟩
  rw [hga] at A2 ⊢
  obtain ⟨FB, hFB⟩ : ∃ F, F = [As.blk (ga + 1) #[.int .i64 0, .int .i64 0, .int .i64 50, .int .i64 1, .int .i64 50, .int .i64 0] 3, As.blk ga #[.int .i64 1, .int .i64 5, .int .i64 0, .int .i64 2, .int .i64 5, .int .i64 50, .int .i64 1, .int .i64 5, .int .i64 0, .int .i64 4, .int .i64 1, .int .i64 9, .int .i64 3, .int .i64 5, .int .i64 0, .int .i64 1, .int .i64 5, .int .i64 0] 37] := ⟨_, rfl⟩
  have HOC : Hid (∀ (x : Wd) W, M w gw W (x.as ++ FB) → ∀ i, i < 6 → (W.cell? ⟨ga, i * 3, none⟩ = some (.int .i64 (pvK i)) ∧ W.cell? ⟨ga, i * 3 + 1, none⟩ = some (.int .i64 (pvY i)) ∧ W.cell? ⟨ga, i * 3 + 2, none⟩ = some (.int .i64 (pvV i)) ∧ W.cell? ⟨ga + 1, i, none⟩ = some (.int .i64 (pvW i)))) := by
    intro x W hM i hi
    have h1 : As.blk ga #[.int .i64 1, .int .i64 5, .int .i64 0, .int .i64 2, .int .i64 5, .int .i64 50, .int .i64 1, .int .i64 5, .int .i64 0, .int .i64 4, .int .i64 1, .int .i64 9, .int .i64 3, .int .i64 5, .int .i64 0, .int .i64 1, .int .i64 5, .int .i64 0] 37 ∈ x.as ++ FB := by rw [hFB]; simp
    have h2 : As.blk (ga + 1) #[.int .i64 0, .int .i64 0, .int .i64 50, .int .i64 1, .int .i64 50, .int .i64 0] 3 ∈ x.as ++ FB := by rw [hFB]; simp
    have hi6 : i = 0 ∨ i = 1 ∨ i = 2 ∨ i = 3 ∨ i = 4 ∨ i = 5 := by omega
    rcases hi6 with rfl | rfl | rfl | rfl | rfl | rfl <;> exact ⟨hM.cellIn h1 _ _ rfl, hM.cellIn h1 _ _ rfl, hM.cellIn h1 _ _ rfl, hM.cellIn h2 _ _ rfl⟩
  have A3 := hideIt (M.perm (l' := (Wd.first gw tg tc ug uc vg vc bg bc).as ++ FB) A2.out (by rw [hFB, List.append_nil]; exact List.perm_append_comm))
  clear A2 hFB hga
  go_loopw [4] (fun y wr => ∃ (i : Nat) (x : Wd), y = .int .i64 i ∧ i ≤ 6 ∧ Hid (Pv i x) ∧ Hid (M w gw wr (x.as ++ FB))) (fun i _ => 6 - (intOf i).toNat)
  case atStart => exact ⟨0, _, rfl, by omega, H0.out tg tc ug uc vg vc bg bc, A3.out⟩
  case round =>
    clear A3
    obtain ⟨i, x, rfl, hi, hP, hM⟩ := hrel
    have hg : Hid (x.gw = gw) := HMC.out.pg i x hP.out
    by_cases hlt : i < 6
    · have g14 := hM.out.cell (i := 0) rfl 14 (.bool false) rfl
      rw [hg.out] at g14
      obtain ⟨o0, o1, o2, -⟩ := HOC.out x wr hM.out i hlt
      have hi1 : (i : Int) < 6 := by omega
      have hi0 : (0 : Int) ≤ (i : Int) := by omega
      have CB := hideIt (HMC.out.bg i x wr FB hlt hP.out hM.out)
      clear hM hP hg
      go_wp2_with fail
      refine CB.out.mono ?_
      rintro e w2 ⟨⟨u, rfl⟩, x2, hP2, hM2⟩
      have HM2 := hideIt hM2
      have hg2 : Hid (x2.gw = gw) := HMC.out.pb i x2 hP2
      have g14 := hM2.cell (i := 0) rfl 14 (.bool false) rfl
      rw [hg2.out] at g14
      have CA := hideIt (HMC.out.al i x2 w2 FB hlt hP2 hM2)
      clear hM2 hP2 CB o0 o1 o2 hg2
      go_wp2_with fail
      refine CA.out.mono ?_
      rintro e w3 ⟨⟨u, rfl⟩, x3, n, d, hP3, hn, hn1, hd, her, hva, hfd, hM3⟩
      have HM3 := hideIt hM3
      have HP3 := hideIt hP3
      have hg3 : Hid (x3.gw = gw) := HMC.out.pg _ x3 hP3
      clear CA HM2
      have g14 := hM3.cell (i := 0) rfl 14 (.bool false) rfl
      obtain ⟨dg, dc, hdv⟩ := As.form (hM3.get (i := 2) rfl) (by omega)
      have g3 := hM3.cell (i := 0) rfl 3 x3.dv rfl
      rw [hdv, hn] at g3
      have hrow := hM3.get (i := 2) rfl
      have hdp : (x3.ds.map Dd.ptr)[n]? = some (.pointer (some ⟨d.gd, 0, none⟩)) := by rw [List.getElem?_map, hd]; rfl
      rw [hdv] at hrow
      have c0 := World.ownsRow.cellAt hrow.own n (by rw [hn]; omega)
      rw [hdp] at c0
      rw [hg3.out] at g14 g3
      have D := M.deed (pre := []) hM3 hd
      have d8 := D.cell (i := 0) rfl 8 (.int .i64 d.er) rfl
      have d9 := D.cell (i := 0) rfl 9 (.bool d.fd) rfl
      have d10 := D.cell (i := 0) rfl 10 (.int .i64 d.va) rfl
      have d11 := D.cell (i := 0) rfl 11 (.int .i64 d.pt) rfl
      have d12 := D.cell (i := 0) rfl 12 d.kv rfl
      have d13 := D.cell (i := 0) rfl 13 d.vv rfl
      have d14 := D.cell (i := 0) rfl 14 d.cv rfl
      obtain ⟨ak, ck, hkv⟩ := As.form0 (D.get (i := 9) rfl)
      obtain ⟨av, cv, hvv⟩ := As.form0 (D.get (i := 10) rfl)
      obtain ⟨ac, cc, hcv⟩ := As.form0 (D.get (i := 11) rfl)
      obtain ⟨-, -, -, o3⟩ := HOC.out x3 w3 hM3 i hlt
      rw [hkv] at d12
      rw [hvv] at d13
      rw [hcv] at d14
      rw [her] at d8
      rw [hva] at d10
      rw [hfd] at d9
      have hsz : d.gd < w3.heap.size := lt_of_cell d8
      obtain ⟨gd, hgd⟩ : ∃ y, d.gd = y := ⟨_, rfl⟩
      obtain ⟨pt, hpt⟩ : ∃ y, d.pt = y := ⟨_, rfl⟩
      obtain ⟨pw, hpw⟩ : ∃ y, pvW i = y := ⟨_, rfl⟩
      rw [hgd] at c0 d8 d9 d10 d11 d12 d13 d14 hsz
      rw [hpt] at d11
      rw [hpw] at d9 d10 o3
      generalize d.ks.length = nk at d12
      generalize d.vs.length = nv at d13
      generalize d.cs.length = nc at d14
      have hn0 : (0 : Int) ≤ (n : Int) := by omega
      have hgw3 : gw < w3.heap.size := lt_of_cell g3
      have hdg3 : dg < w3.heap.size := lt_of_cell c0
      have hga3 : ga + 1 < w3.heap.size := lt_of_cell o3
      have A5 := hideIt (hM3.alloc #[.int .i64 0, .bool (decide (0 < pw)), .int .i64 pw, .int .i64 pt, .slice ak nk ck, .slice av nv cv, .slice ac nc cc] 76)
      have hpw := hideIt hpw
      clear hva hfd her hM3 hP3 hd D hrow hdp hgd hpt hkv hvv hcv hdv HM3
      go_wp2
      go_region
      have A6 := hideIt A5.out.drew
      obtain ⟨gq, hgq⟩ : ∃ g, w3.heap.size = g := ⟨_, rfl⟩
      rw [hgq] at A6 ⊢
      generalize World.drew _ = w4 at A6 ⊢
      clear A5 hgq hsz hgw3 hdg3 hga3 d8 d9 d10 d11 d12 d13 d14 c0 g3 g14 o3
      have a0 := A6.out.cell (i := 0) rfl 0 (.int .i64 0) rfl
      have a1 := A6.out.cell (i := 0) rfl 1 (.bool (decide (0 < pw))) rfl
      have a2 := A6.out.cell (i := 0) rfl 2 (.int .i64 pw) rfl
      have A7 := hideIt (A6.out.sub (List.sublist_cons_self _ _))
      have g14 := A7.out.cell (i := 0) rfl 14 (.bool false) rfl
      rw [hg3.out] at g14
      obtain ⟨-, -, -, o3⟩ := HOC.out x3 w4 A7.out i hlt
      rw [hpw.out] at o3
      clear A6
      go_wp2
      go_quiet (fail)
      go_wp2
      go_roundw
      case rel => exact ⟨i + 1, x3, by go_num, by omega, HP3.out, A7.out.drewN _⟩
      case measure => simp [intOf]; omega
    · obtain rfl : i = 6 := by omega
      have HB := hideIt hM.out.bl
      clear hM
      go_wp2
      go_ret
      exact ⟨rfl, HB.out⟩
end Go.Proofs.YtajobgmnmbnhiaaDoor.Sap
