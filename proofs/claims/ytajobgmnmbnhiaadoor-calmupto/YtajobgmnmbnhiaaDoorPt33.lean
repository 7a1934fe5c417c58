/- WHAT IS PROVED HERE: saplingkeep's alone and settle over any program that keeps an invariant of the world: what a machine is (Mc), one client behind the other moves alone till all operations have ended. Conditions: those of a machine: each access and each beginning keeps the invariant, and a client that moves comes nearer to its end. -/
import Derived.Test.YtajobgmnmbnhiaaDoorPt32
namespace Go.Proofs.YtajobgmnmbnhiaaDoor.Sap
open Go.RowKit
theorem Mc.alone {Inv : Wd → Prop} {rk : Nat → Wd → Nat} {gw : Nat} {w0 : World} {B : Nat} (m : Mc Inv rk gw w0 B) (c : Nat) (x0 : Wd) (w : World) (fr : List As) (hc : c < 64) (hI : Inv x0) (hn : x0.now ≤ 89000000) (h : M w0 B w (x0.as ++ fr)) :
    Calls Tryd.prog 37 #[.pointer (some ⟨gw, 0, none⟩), .int .i64 c] w fun e w' => (∃ u, e = .returned u) ∧ ∃ x', Inv x' ∧ x'.bs[c]? = some (-1) ∧ x'.now ≤ x0.now + 1000 ∧ x'.ds.length = x0.ds.length ∧ (∀ j, j ≠ c → x'.bs[j]? = x0.bs[j]?) ∧ M w0 B w' (x'.as ++ fr) := by
  let rk2 : Wd → Nat := fun x => if x.bs[c]? = some (-1) then 0 else rk c x
  let I2 : Wd → Prop := fun x => Inv x ∧ x.now + (rk2 x : Int) ≤ x0.now + (rk2 x0 : Int) ∧ x.ds.length = x0.ds.length ∧ (∀ j, j ≠ c → x.bs[j]? = x0.bs[j]?)
  have hr0 : rk2 x0 ≤ 1000 := by
    show (if x0.bs[c]? = some (-1) then 0 else rk c x0) ≤ 1000
    rcases m.bs x0 c hI hc with h1 | ⟨-, -, h3⟩
    · rw [if_pos h1]; omega
    · split <;> omega
  refine (alone_gen c gw I2 rk2 fr w0 w B x0 hc (fun x hx => m.pg x hx.1) (fun x hx => ?_) (fun x i W hx hb hM => ?_) ⟨hI, Int.le_refl _, rfl, fun _ _ => rfl⟩ hr0 h).mono ?_
  · rcases m.bs x c hx.1 hc with h1 | ⟨⟨i, h2⟩, h3, -⟩
    · exact Or.inl h1
    · refine Or.inr ⟨⟨i, h2⟩, ?_⟩
      show 0 < (if x.bs[c]? = some (-1) then 0 else rk c x)
      rw [h2, if_neg (by intro e; have := Option.some.inj e; omega)]
      exact h3
  · have hb2 : rk2 x = rk c x := by
      show (if x.bs[c]? = some (-1) then 0 else rk c x) = rk c x
      rw [hb, if_neg (by intro e; have := Option.some.inj e; omega)]
    have hnow := m.now x0 hI
    have hpos : 0 < rk c x := by
      rcases m.bs x c hx.1 hc with h1 | ⟨-, h3, -⟩
      · rw [hb] at h1; have := Option.some.inj h1; omega
      · exact h3
    refine (m.mv x c i W fr hc hx.1 (by have := hx.2.1; omega) hb hM).mono ?_
    rintro e w' ⟨he, x', hI', hN, hR, hM'⟩
    have hlt : rk2 x' < rk2 x := by
      rw [hb2]
      show (if x'.bs[c]? = some (-1) then 0 else rk c x') < rk c x
      rcases hR with h1 | h1
      · rw [if_pos h1]; exact hpos
      · split <;> omega
    refine ⟨he, x', ⟨hI', ?_, hN.nd.trans hx.2.2.1, fun j hj => (hN.bs j hj).trans (hx.2.2.2 j hj)⟩, hlt, hM'⟩
    have := hx.2.1
    have := hN.now
    omega
  · rintro e w' ⟨he, x', hI', hb', hM'⟩
    refine ⟨he, x', hI'.1, hb', ?_, hI'.2.2.1, hI'.2.2.2, hM'⟩
    have := hI'.2.1
    omega
set_option maxRecDepth 100000 in
set_option maxHeartbeats 6400000 in
theorem Mc.turn {Inv : Wd → Prop} {rk : Nat → Wd → Nat} {gw : Nat} {w0 : World} {B : Nat} (m : Mc Inv rk gw w0 B) (x0 : Wd) (cl k key v mv : Int) (w : World) (fr : List As) (hcl : I64 cl) (hk : I64 k) (hkey : I64 key) (hv : I64 v) (hmv : I64 mv) (hI : Inv x0) (hn : x0.now ≤ 80000000) (hd : x0.ds.length ≤ 80000000) (h : M w0 B w (x0.as ++ fr)) :
    Calls Tryd.prog 29 #[.pointer (some ⟨gw, 0, none⟩), .agg #[.int .i64 cl, .int .i64 k, .int .i64 key, .int .i64 v, .int .i64 mv]] w fun e w' => (∃ u, e = .returned u) ∧ ∃ x', Inv x' ∧ x'.now ≤ x0.now + 40 ∧ x'.ds.length ≤ x0.ds.length + 1 ∧ M w0 B w' (x'.as ++ fr) := by
  have A0 := hideIt (h.alloc #[.int .i64 cl, .int .i64 k, .int .i64 key, .int .i64 v, .int .i64 mv] 61)
  obtain ⟨hc0, hc1⟩ := pickV_bd cl 64 (by omega)
  obtain ⟨hm0, hm1⟩ := pickV_bd mv 40 (by omega)
  have P1 := hideIt (fun W => pick_ok cl 64 W ⟨hcl, by omega, by omega⟩)
  have P2 := hideIt (fun W => pick_ok mv 40 W ⟨hmv, by omega, by omega⟩)
  have P3 := hideIt (fun W => right_make k key v W hk hkey hv)
  have P4 := hideIt (right_right k key v)
  obtain ⟨c, hcc⟩ : ∃ c : Nat, pickV cl 64 = (c : Int) := ⟨(pickV cl 64).toNat, by omega⟩
  obtain ⟨n, hnn⟩ : ∃ n : Nat, pickV mv 40 = (n : Int) := ⟨(pickV mv 40).toNat, by omega⟩
  rw [hcc] at P1 hc0 hc1
  rw [hnn] at P2 hm0 hm1
  have HMC := hideIt m
  have HI := hideIt hI
  have HN := hideIt hn
  have HD := hideIt hd
  obtain ⟨gt, hgt⟩ : ∃ g, w.heap.size = g := ⟨_, rfl⟩
  have hg := m.pg x0 hI
  have hbs := m.bs x0 c hI (by omega)
  subst hg
  clear h hcl hk hkey hv hmv hI hn hd m hcc hnn
  go_enter Tryd.func29, Tryd.ntmps29
  rw [hgt] at A0
  obtain ⟨FB, hFB⟩ : ∃ F, F = (As.blk gt #[.int .i64 cl, .int .i64 k, .int .i64 key, .int .i64 v, .int .i64 mv] 61 :: fr) := ⟨_, rfl⟩
  have HFB := hideIt hFB
  have HIN : Hid (∀ x : Wd, As.blk gt #[.int .i64 cl, .int .i64 k, .int .i64 key, .int .i64 v, .int .i64 mv] 61 ∈ x.as ++ FB) := fun x => by rw [HFB.out]; simp
  have A1 := hideIt (A0.out.perm (List.perm_middle (l₁ := x0.as)))
  rw [← hFB] at A1
  clear hFB A0
  go_wp2_with fail
  refine (P1.out _).mono ?_
  rintro e w1 ⟨rfl, rfl⟩
  generalize hW1 : w.alloc _ = w1 at A1 ⊢
  clear hW1 hgt
  have g4 := A1.out.cell (i := 0) rfl 4 (.slice (some ⟨x0.bg, 0, none⟩) 64 x0.bc) rfl
  rcases hbs with hb | ⟨⟨i, hb⟩, -, -⟩
  · have b0 := A1.out.rowCell (i := 1) rfl c (.int .i64 (-1)) (ints_get hb)
    have p1 := A1.out.cellIn (HIN.out x0) 1 (.int .i64 k) rfl
    have p2 := A1.out.cellIn (HIN.out x0) 2 (.int .i64 key) rfl
    have p3 := A1.out.cellIn (HIN.out x0) 3 (.int .i64 v) rfl
    have HB := hideIt hb
    clear hb
    go_wp2_with fail
    refine (P3.out _).mono ?_
    rintro e w2 ⟨rfl, hb⟩
    have A2 := hideIt (A1.out.below hb)
    clear hb A1 g4 b0 p1 p2 p3
    go_wp2_with fail
    refine (HMC.out.bg x0 c _ _ _ w2 FB (by omega) HI.out (by have := HD.out; omega) P4.out HB.out A2.out).mono ?_
    rintro e w3 ⟨⟨u, rfl⟩, x1, hI1, hn1, hd1, -, hM1⟩
    have HI1 := hideIt hI1
    have HN1 : Hid (x1.now ≤ x0.now) := by unfold Hid; omega
    have HD1 : Hid (x1.ds.length ≤ x0.ds.length + 1) := by unfold Hid; omega
    have A3 := hideIt hM1
    clear hI1 hn1 hd1 hM1 A2 HB
    have p4 := A3.out.cellIn (HIN.out x1) 4 (.int .i64 mv) rfl
    go_wp2_with fail
    refine (P2.out _).mono ?_
    rintro e w9 ⟨rfl, rfl⟩
    clear p4
    go_wp2
    go_loopw [6] (fun y wr => ∃ (j : Nat) (x : Wd), y = .int .i64 j ∧ j ≤ n + 1 ∧ Hid (x.now ≤ x0.now + (j : Int)) ∧ Hid (x.ds.length ≤ x0.ds.length + 1) ∧ Hid (Inv x) ∧ Hid (M w0 B wr (x.as ++ FB))) (fun i _ => (n + 1) - (intOf i).toNat)
    case atStart => exact ⟨0, x1, rfl, by omega, by unfold Hid; have := HN1.out; omega, HD1.out, HI1.out, A3.out⟩
    case round =>
      clear A3 HI1 HN1 HD1
      obtain ⟨j, x, rfl, hj, hnw, hnd, hI, hM⟩ := hrel
      have hg : Hid (x.gw = x0.gw) := HMC.out.pg x hI.out
      have g14 := hM.out.cell (i := 0) rfl 14 (.bool false) rfl
      have g4 := hM.out.cell (i := 0) rfl 4 (.slice (some ⟨x.bg, 0, none⟩) 64 x.bc) rfl
      rw [hg.out] at g14 g4
      by_cases hlt : j < n + 1
      · have hj1 : (j : Int) < 1 + (n : Int) := by omega
        rcases HMC.out.bs x c hI.out (by omega) with hb | ⟨⟨i, hb⟩, -, -⟩
        · have b0 := hM.out.rowCell (i := 1) rfl c (.int .i64 (-1)) (ints_get hb)
          clear hb
          go_wp2
          exact bodyPost_end (results_none Tryd.results29 _ _ _) rfl ⟨⟨_, rfl⟩, x, hI.out, by have := hnw.out; omega, hnd.out, by have h9 := hM.out; rw [HFB.out] at h9; exact (h9.perm (List.perm_middle (l₁ := x.as)).symm).sub (List.sublist_cons_self _ _)⟩
        · have b0 := hM.out.rowCell (i := 1) rfl c (.int .i64 i) (ints_get hb)
          have hi0 : (0 : Int) ≤ (i : Int) := by omega
          have CM := hideIt (HMC.out.mv x c i wr FB (by omega) hI.out (by have := hnw.out; have := HN.out; omega) hb hM.out)
          clear hM hb hI
          go_wp2_with fail
          refine CM.out.mono ?_
          rintro e w4 ⟨⟨u, rfl⟩, x', hI', hN', -, hM'⟩
          have HI2 := hideIt hI'
          have HM2 := hideIt hM'
          have HN2 : Hid (x'.now ≤ x0.now + ((j + 1 : Nat) : Int)) := by unfold Hid; have := hnw.out; have := hN'.now; omega
          have HD2 : Hid (x'.ds.length ≤ x0.ds.length + 1) := by unfold Hid; rw [hN'.nd]; exact hnd.out
          clear CM g14 g4 b0 hI' hM' hN' hg
          go_wp2
          go_roundw
          case rel => exact ⟨j + 1, x', by go_num, by omega, HN2.out, HD2.out, HI2.out, HM2.out⟩
          case measure => simp [intOf]; omega
      · have hj1 : ¬ ((j : Int) < 1 + (n : Int)) := by omega
        have hjn : (1 : Int) + (n : Int) ≤ (j : Int) := by omega
        go_wp2
        exact bodyPost_end (results_none Tryd.results29 _ _ _) rfl ⟨⟨_, rfl⟩, x, hI.out, by have := hnw.out; omega, hnd.out, by have h9 := hM.out; rw [HFB.out] at h9; exact (h9.perm (List.perm_middle (l₁ := x.as)).symm).sub (List.sublist_cons_self _ _)⟩
  · have b0 := A1.out.rowCell (i := 1) rfl c (.int .i64 i) (ints_get hb)
    have hi0 : (0 : Int) ≤ (i : Int) := by omega
    obtain ⟨x1, hx1⟩ : ∃ x1, x1 = x0 := ⟨_, rfl⟩
    have HI1 : Hid (Inv x1) := by rw [hx1]; exact HI.out
    have HN1 : Hid (x1.now ≤ x0.now) := by unfold Hid; rw [hx1]; omega
    have HD1 : Hid (x1.ds.length ≤ x0.ds.length + 1) := by unfold Hid; rw [hx1]; omega
    have A3 : Hid (M w0 B w1 (x1.as ++ FB)) := by rw [hx1]; exact A1.out
    clear hb A1 hx1
    have p4 := A3.out.cellIn (HIN.out x1) 4 (.int .i64 mv) rfl
    go_wp2_with fail
    refine (P2.out _).mono ?_
    rintro e w9 ⟨rfl, rfl⟩
    clear p4
    go_wp2
    go_loopw [6] (fun y wr => ∃ (j : Nat) (x : Wd), y = .int .i64 j ∧ j ≤ n + 1 ∧ Hid (x.now ≤ x0.now + (j : Int)) ∧ Hid (x.ds.length ≤ x0.ds.length + 1) ∧ Hid (Inv x) ∧ Hid (M w0 B wr (x.as ++ FB))) (fun i _ => (n + 1) - (intOf i).toNat)
    case atStart => exact ⟨0, x1, rfl, by omega, by unfold Hid; have := HN1.out; omega, HD1.out, HI1.out, A3.out⟩
    case round =>
      clear A3 HI1 HN1 HD1
      obtain ⟨j, x, rfl, hj, hnw, hnd, hI, hM⟩ := hrel
      have hg : Hid (x.gw = x0.gw) := HMC.out.pg x hI.out
      have g14 := hM.out.cell (i := 0) rfl 14 (.bool false) rfl
      have g4 := hM.out.cell (i := 0) rfl 4 (.slice (some ⟨x.bg, 0, none⟩) 64 x.bc) rfl
      rw [hg.out] at g14 g4
      by_cases hlt : j < n + 1
      · have hj1 : (j : Int) < 1 + (n : Int) := by omega
        rcases HMC.out.bs x c hI.out (by omega) with hb | ⟨⟨i, hb⟩, -, -⟩
        · have b0 := hM.out.rowCell (i := 1) rfl c (.int .i64 (-1)) (ints_get hb)
          clear hb
          go_wp2
          exact bodyPost_end (results_none Tryd.results29 _ _ _) rfl ⟨⟨_, rfl⟩, x, hI.out, by have := hnw.out; omega, hnd.out, by have h9 := hM.out; rw [HFB.out] at h9; exact (h9.perm (List.perm_middle (l₁ := x.as)).symm).sub (List.sublist_cons_self _ _)⟩
        · have b0 := hM.out.rowCell (i := 1) rfl c (.int .i64 i) (ints_get hb)
          have hi0 : (0 : Int) ≤ (i : Int) := by omega
          have CM := hideIt (HMC.out.mv x c i wr FB (by omega) hI.out (by have := hnw.out; have := HN.out; omega) hb hM.out)
          clear hM hb hI
          go_wp2_with fail
          refine CM.out.mono ?_
          rintro e w4 ⟨⟨u, rfl⟩, x', hI', hN', -, hM'⟩
          have HI2 := hideIt hI'
          have HM2 := hideIt hM'
          have HN2 : Hid (x'.now ≤ x0.now + ((j + 1 : Nat) : Int)) := by unfold Hid; have := hnw.out; have := hN'.now; omega
          have HD2 : Hid (x'.ds.length ≤ x0.ds.length + 1) := by unfold Hid; rw [hN'.nd]; exact hnd.out
          clear CM g14 g4 b0 hI' hM' hN' hg
          go_wp2
          go_roundw
          case rel => exact ⟨j + 1, x', by go_num, by omega, HN2.out, HD2.out, HI2.out, HM2.out⟩
          case measure => simp [intOf]; omega
      · have hj1 : ¬ ((j : Int) < 1 + (n : Int)) := by omega
        have hjn : (1 : Int) + (n : Int) ≤ (j : Int) := by omega
        go_wp2
        exact bodyPost_end (results_none Tryd.results29 _ _ _) rfl ⟨⟨_, rfl⟩, x, hI.out, by have := hnw.out; omega, hnd.out, by have h9 := hM.out; rw [HFB.out] at h9; exact (h9.perm (List.perm_middle (l₁ := x.as)).symm).sub (List.sublist_cons_self _ _)⟩
end Go.Proofs.YtajobgmnmbnhiaaDoor.Sap
