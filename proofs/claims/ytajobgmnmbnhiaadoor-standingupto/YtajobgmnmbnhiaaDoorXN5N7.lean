/- WHAT IS PROVED HERE: saplingkeep's alone and settle over any program that keeps an invariant of the world: what a machine is (Mc), one client behind the other moves alone till all operations have ended. Conditions: those of a machine: each access and each beginning keeps the invariant, and a client that moves comes nearer to its end. -/
import Derived.Test.YtajobgmnmbnhiaaDoorXS1T9
import Derived.Test.YtajobgmnmbnhiaaDoorXN2N4
namespace Go.Proofs.YtajobgmnmbnhiaaDoor.Sap
open Go.RowKit

/-- What an access of client c leaves as it was. -/
structure Nx (c : Nat) (x x' : Wd) : Prop where
  now : x'.now = x.now + 1
  nd : x'.ds.length = x.ds.length
  bs : ∀ j, j ≠ c → x'.bs[j]? = x.bs[j]?
/-- A program over which scripts are played: an invariant that each access and each beginning keeps, and how far a client is from its end. -/
structure Mc (Inv : Wd → Prop) (rk : Nat → Wd → Nat) (gw : Nat) (w0 : World) (B : Nat) : Prop where
  pg : ∀ x, Inv x → x.gw = gw
  bs : ∀ x c, Inv x → c < 64 → x.bs[c]? = some (-1) ∨ (∃ i : Nat, x.bs[c]? = some (i : Int)) ∧ 0 < rk c x ∧ rk c x ≤ 1000
  now : ∀ x, Inv x → 0 ≤ x.now
  mv : ∀ x (c i : Nat) W (fr : List As), c < 64 → Inv x → x.now ≤ 90000000 → x.bs[c]? = some (i : Int) → M w0 B W (x.as ++ fr) → Calls Tryd.prog 56 #[.pointer (some ⟨gw, 0, none⟩), .int .i64 c] W fun e w' => (∃ u, e = .returned u) ∧ ∃ x', Inv x' ∧ Nx c x x' ∧ (x'.bs[c]? = some (-1) ∨ rk c x' < rk c x) ∧ M w0 B w' (x'.as ++ fr)
  bg : ∀ x (c : Nat) (k key v : Int) W (fr : List As), c < 64 → Inv x → x.ds.length ≤ 90000000 → opR k key v = true → x.bs[c]? = some (-1) → M w0 B W (x.as ++ fr) → Calls Tryd.prog 55 #[.pointer (some ⟨gw, 0, none⟩), .int .i64 c, .agg #[.int .i64 k, .int .i64 key, .int .i64 v]] W fun e w' => (∃ u, e = .returned u) ∧ ∃ x', Inv x' ∧ x'.now = x.now ∧ x'.ds.length = x.ds.length + 1 ∧ (∀ j, j ≠ c → x'.bs[j]? = x.bs[j]?) ∧ M w0 B w' (x'.as ++ fr)

theorem Mc.alone {Inv : Wd → Prop} {rk : Nat → Wd → Nat} {gw : Nat} {w0 : World} {B : Nat} (m : Mc Inv rk gw w0 B) (c : Nat) (x0 : Wd) (w : World) (fr : List As) (hc : c < 64) (hI : Inv x0) (hn : x0.now ≤ 89000000) (h : M w0 B w (x0.as ++ fr)) :
    Calls Tryd.prog 37 #[.pointer (some ⟨gw, 0, none⟩), .int .i64 c] w fun e w' => (∃ u, e = .returned u) ∧ ∃ x', Inv x' ∧ x'.bs[c]? = some (-1) ∧ x'.now ≤ x0.now + 1000 ∧ x'.ds.length = x0.ds.length ∧ (∀ j, j ≠ c → x'.bs[j]? = x0.bs[j]?) ∧ M w0 B w' (x'.as ++ fr) := by
  let rk2 : Wd → Nat := fun x => if x.bs[c]? = some (-1) then 0 else rk c x
  let I2 : Wd → Prop := fun x => Inv x ∧ x.now + (rk2 x : Int) ≤ x0.now + (rk2 x0 : Int) ∧ x.ds.length = x0.ds.length ∧ (∀ j, j ≠ c → x.bs[j]? = x0.bs[j]?)
  have hr0 : rk2 x0 ≤ 1000 := by
    show (if x0.bs[c]? = some (-1) then 0 else rk c x0) ≤ 1000
    rcases m.bs x0 c hI hc with h1 | ⟨-, -, h3⟩
    · rw [if_pos h1]; omega
    · split <;> omega
  refine (alone_gen c gw I2 rk2 fr w0 w B x0 hc (fun x hx => m.pg x hx.1) (fun x hx => ?_) (fun x i W hx hb hM => ?_) ⟨hI, Int.le_refl _, rfl, fun _ _ => rfl⟩ hr0 h).mono ?_
  · rcases m.bs x c hx.1 hc with h1 | ⟨⟨i, h2⟩, h3, -⟩
    · exact Or.inl h1
    · refine Or.inr ⟨⟨i, h2⟩, ?_⟩
      show 0 < (if x.bs[c]? = some (-1) then 0 else rk c x)
      rw [h2, if_neg (by intro e; have := Option.some.inj e; omega)]
      exact h3
  · have hb2 : rk2 x = rk c x := by
      show (if x.bs[c]? = some (-1) then 0 else rk c x) = rk c x
      rw [hb, if_neg (by intro e; have := Option.some.inj e; omega)]
    have hnow := m.now x0 hI
    have hpos : 0 < rk c x := by
      rcases m.bs x c hx.1 hc with h1 | ⟨-, h3, -⟩
      · rw [hb] at h1; have := Option.some.inj h1; omega
      · exact h3
    refine (m.mv x c i W fr hc hx.1 (by have := hx.2.1; omega) hb hM).mono ?_
    rintro e w' ⟨he, x', hI', hN, hR, hM'⟩
    have hlt : rk2 x' < rk2 x := by
      rw [hb2]
      show (if x'.bs[c]? = some (-1) then 0 else rk c x') < rk c x
      rcases hR with h1 | h1
      · rw [if_pos h1]; exact hpos
      · split <;> omega
    refine ⟨he, x', ⟨hI', ?_, hN.nd.trans hx.2.2.1, fun j hj => (hN.bs j hj).trans (hx.2.2.2 j hj)⟩, hlt, hM'⟩
    have := hx.2.1
    have := hN.now
    omega
  · rintro e w' ⟨he, x', hI', hb', hM'⟩
    refine ⟨he, x', hI'.1, hb', ?_, hI'.2.2.1, hI'.2.2.2, hM'⟩
    have := hI'.2.1
    omega

set_option maxRecDepth 100000 in
set_option maxHeartbeats 6400000 in
theorem Mc.settle {Inv : Wd → Prop} {rk : Nat → Wd → Nat} {gw : Nat} {w0 : World} {B : Nat} (m : Mc Inv rk gw w0 B) (x0 : Wd) (w : World) (fr : List As) (hI : Inv x0) (hn : x0.now ≤ 80000000) (h : M w0 B w (x0.as ++ fr)) :
    Calls Tryd.prog 30 #[.pointer (some ⟨gw, 0, none⟩)] w fun e w' => (∃ u, e = .returned u) ∧ ∃ x', Inv x' ∧ (∀ c, c < 64 → x'.bs[c]? = some (-1)) ∧ x'.now ≤ x0.now + 64000 ∧ x'.ds.length = x0.ds.length ∧ M w0 B w' (x'.as ++ fr) := by
  have HM := hideIt h
  have HI := hideIt hI
  have HMC := hideIt m
  clear h hI m
  go_enter Tryd.func30, Tryd.ntmps30
  go_wp2
  go_loopw [2] (fun y wr => ∃ (c : Nat) (x : Wd), y = .int .i64 c ∧ c ≤ 64 ∧ Hid (∀ j, j < c → x.bs[j]? = some (-1)) ∧ Hid (x.now ≤ x0.now + 1000 * (c : Int)) ∧ Hid (x.ds.length = x0.ds.length) ∧ Hid (Inv x) ∧ Hid (M w0 B wr (x.as ++ fr))) (fun i _ => 64 - (intOf i).toNat)
  case atStart => exact ⟨0, x0, rfl, by omega, fun j hj => by omega, by unfold Hid; omega, rfl, HI.out, HM.out⟩
  case round =>
    clear HM HI
    obtain ⟨c, x, rfl, hc, hr, hnw, hnd, hI, hM⟩ := hrel
    have hg := HMC.out.pg x hI.out
    subst hg
    have g14 := hM.out.cell (i := 0) rfl 14 (.bool false) rfl
    by_cases hlt : c < 64
    · have hc1 : (c : Int) < 64 := by omega
      have CM := hideIt (HMC.out.alone c x wr fr hlt hI.out (by have := hnw.out; omega) hM.out)
      clear hM hI
      go_wp2_with fail
      refine CM.out.mono ?_
      rintro e w1 ⟨⟨u, rfl⟩, x', hI', hb', hn', hd', hk', hM'⟩
      have HI2 := hideIt hI'
      have HM2 := hideIt hM'
      have HB : Hid (∀ j, j < c + 1 → x'.bs[j]? = some (-1)) := fun j hj => by
        rcases Nat.lt_or_ge j c with h | h
        · rw [hk' j (by omega)]; exact hr.out j h
        · obtain rfl : j = c := by omega
          exact hb'
      have HN : Hid (x'.now ≤ x0.now + 1000 * ((c + 1 : Nat) : Int)) := by unfold Hid; have := hnw.out; omega
      have HD : Hid (x'.ds.length = x0.ds.length) := hd'.trans hnd.out
      clear CM g14 hI' hM' hb' hk' hn' hd'
      go_wp2
      go_roundw
      case rel => exact ⟨c + 1, x', by go_num, by omega, HB.out, HN.out, HD.out, HI2.out, HM2.out⟩
      case measure => simp [intOf]; omega
    · obtain rfl : c = 64 := by omega
      rw [show ((64 : Nat) : Int) = 64 from rfl]
      have HM := hideIt hM.out
      clear hM
      go_wp2
      exact bodyPost_end (results_none Tryd.results30 _ _ _) rfl ⟨⟨_, rfl⟩, x, hI.out, hr.out, by have := hnw.out; omega, hnd.out, HM.out⟩
end Go.Proofs.YtajobgmnmbnhiaaDoor.Sap

/- WHAT IS PROVED HERE: saplingkeep's turn over any program that keeps an invariant of the world (Mc). Conditions: the numbers are small. -/
namespace Go.Proofs.YtajobgmnmbnhiaaDoor.Sap
open Go.RowKit

theorem M.cellIn {w0 w : World} {B b : Nat} {l : List As} {c : Array Value} {t : TypeId} (h : M w0 B w l) (hm : As.blk b c t ∈ l) (j : Nat) (v : Value) (hv : c[j]? = some v) : w.cell? ⟨b, j, none⟩ = some v := by
  obtain ⟨i, hi⟩ := List.getElem?_of_mem hm
  exact h.cell hi j v hv
set_option maxRecDepth 100000 in
set_option maxHeartbeats 6400000 in
theorem Mc.turn {Inv : Wd → Prop} {rk : Nat → Wd → Nat} {gw : Nat} {w0 : World} {B : Nat} (m : Mc Inv rk gw w0 B) (x0 : Wd) (cl k key v mv : Int) (w : World) (fr : List As) (hcl : I64 cl) (hk : I64 k) (hkey : I64 key) (hv : I64 v) (hmv : I64 mv) (hI : Inv x0) (hn : x0.now ≤ 80000000) (hd : x0.ds.length ≤ 80000000) (h : M w0 B w (x0.as ++ fr)) :
    Calls Tryd.prog 29 #[.pointer (some ⟨gw, 0, none⟩), .agg #[.int .i64 cl, .int .i64 k, .int .i64 key, .int .i64 v, .int .i64 mv]] w fun e w' => (∃ u, e = .returned u) ∧ ∃ x', Inv x' ∧ x'.now ≤ x0.now + 40 ∧ x'.ds.length ≤ x0.ds.length + 1 ∧ M w0 B w' (x'.as ++ fr) := by
  have A0 := hideIt (h.alloc #[.int .i64 cl, .int .i64 k, .int .i64 key, .int .i64 v, .int .i64 mv] 61)
  obtain ⟨hc0, hc1⟩ := pickV_bd cl 64 (by omega)
  obtain ⟨hm0, hm1⟩ := pickV_bd mv 40 (by omega)
  have P1 := hideIt (fun W => pick_ok cl 64 W ⟨hcl, by omega, by omega⟩)
  have P2 := hideIt (fun W => pick_ok mv 40 W ⟨hmv, by omega, by omega⟩)
  have P3 := hideIt (fun W => right_make k key v W hk hkey hv)
  have P4 := hideIt (right_right k key v)
  obtain ⟨c, hcc⟩ : ∃ c : Nat, pickV cl 64 = (c : Int) := ⟨(pickV cl 64).toNat, by omega⟩
  obtain ⟨n, hnn⟩ : ∃ n : Nat, pickV mv 40 = (n : Int) := ⟨(pickV mv 40).toNat, by omega⟩
  rw [hcc] at P1 hc0 hc1
  rw [hnn] at P2 hm0 hm1
  have HMC := hideIt m
  have HI := hideIt hI
  have HN := hideIt hn
  have HD := hideIt hd
  obtain ⟨gt, hgt⟩ : ∃ g, w.heap.size = g := ⟨_, rfl⟩
  have hg := m.pg x0 hI
  have hbs := m.bs x0 c hI (by omega)
  subst hg
  clear h hcl hk hkey hv hmv hI hn hd m hcc hnn
  go_enter Tryd.func29, Tryd.ntmps29
  rw [hgt] at A0
  obtain ⟨FB, hFB⟩ : ∃ F, F = (As.blk gt #[.int .i64 cl, .int .i64 k, .int .i64 key, .int .i64 v, .int .i64 mv] 61 :: fr) := ⟨_, rfl⟩
  have HFB := hideIt hFB
  have HIN : Hid (∀ x : Wd, As.blk gt #[.int .i64 cl, .int .i64 k, .int .i64 key, .int .i64 v, .int .i64 mv] 61 ∈ x.as ++ FB) := fun x => by rw [HFB.out]; simp
  have A1 := hideIt (A0.out.perm (List.perm_middle (l₁ := x0.as)))
  rw [← hFB] at A1
  clear hFB A0
  go_wp2_with fail
  refine (P1.out _).mono ?_
  rintro e w1 ⟨rfl, rfl⟩
  generalize hW1 : w.alloc _ = w1 at A1 ⊢
  clear hW1 hgt
  have g4 := A1.out.cell (i := 0) rfl 4 (.slice (some ⟨x0.bg, 0, none⟩) 64 x0.bc) rfl
  rcases hbs with hb | ⟨⟨i, hb⟩, -, -⟩
  · have b0 := A1.out.rowCell (i := 1) rfl c (.int .i64 (-1)) (ints_get hb)
    have p1 := A1.out.cellIn (HIN.out x0) 1 (.int .i64 k) rfl
    have p2 := A1.out.cellIn (HIN.out x0) 2 (.int .i64 key) rfl
    have p3 := A1.out.cellIn (HIN.out x0) 3 (.int .i64 v) rfl
    have HB := hideIt hb
    clear hb
    go_wp2_with fail
    refine (P3.out _).mono ?_
    rintro e w2 ⟨rfl, hb⟩
    have A2 := hideIt (A1.out.below hb)
    clear hb A1 g4 b0 p1 p2 p3
    go_wp2_with fail
    refine (HMC.out.bg x0 c _ _ _ w2 FB (by omega) HI.out (by have := HD.out; omega) P4.out HB.out A2.out).mono ?_
    rintro e w3 ⟨⟨u, rfl⟩, x1, hI1, hn1, hd1, -, hM1⟩
    have HI1 := hideIt hI1
    have HN1 : Hid (x1.now ≤ x0.now) := by unfold Hid; omega
    have HD1 : Hid (x1.ds.length ≤ x0.ds.length + 1) := by unfold Hid; omega
    have A3 := hideIt hM1
    clear hI1 hn1 hd1 hM1 A2 HB
    have p4 := A3.out.cellIn (HIN.out x1) 4 (.int .i64 mv) rfl
    go_wp2_with fail
    refine (P2.out _).mono ?_
    rintro e w9 ⟨rfl, rfl⟩
    clear p4
    go_wp2
    go_loopw [6] (fun y wr => ∃ (j : Nat) (x : Wd), y = .int .i64 j ∧ j ≤ n + 1 ∧ Hid (x.now ≤ x0.now + (j : Int)) ∧ Hid (x.ds.length ≤ x0.ds.length + 1) ∧ Hid (Inv x) ∧ Hid (M w0 B wr (x.as ++ FB))) (fun i _ => (n + 1) - (intOf i).toNat)
    case atStart => exact ⟨0, x1, rfl, by omega, by unfold Hid; have := HN1.out; omega, HD1.out, HI1.out, A3.out⟩
    case round =>
      clear A3 HI1 HN1 HD1
      obtain ⟨j, x, rfl, hj, hnw, hnd, hI, hM⟩ := hrel
      have hg : Hid (x.gw = x0.gw) := HMC.out.pg x hI.out
      have g14 := hM.out.cell (i := 0) rfl 14 (.bool false) rfl
      have g4 := hM.out.cell (i := 0) rfl 4 (.slice (some ⟨x.bg, 0, none⟩) 64 x.bc) rfl
      rw [hg.out] at g14 g4
      by_cases hlt : j < n + 1
      · have hj1 : (j : Int) < 1 + (n : Int) := by omega
        rcases HMC.out.bs x c hI.out (by omega) with hb | ⟨⟨i, hb⟩, -, -⟩
        · have b0 := hM.out.rowCell (i := 1) rfl c (.int .i64 (-1)) (ints_get hb)
          clear hb
          go_wp2
          exact bodyPost_end (results_none Tryd.results29 _ _ _) rfl ⟨⟨_, rfl⟩, x, hI.out, by have := hnw.out; omega, hnd.out, by have h9 := hM.out; rw [HFB.out] at h9; exact (h9.perm (List.perm_middle (l₁ := x.as)).symm).sub (List.sublist_cons_self _ _)⟩
        · have b0 := hM.out.rowCell (i := 1) rfl c (.int .i64 i) (ints_get hb)
          have hi0 : (0 : Int) ≤ (i : Int) := by omega
          have CM := hideIt (HMC.out.mv x c i wr FB (by omega) hI.out (by have := hnw.out; have := HN.out; omega) hb hM.out)
          clear hM hb hI
          go_wp2_with fail
          refine CM.out.mono ?_
          rintro e w4 ⟨⟨u, rfl⟩, x', hI', hN', -, hM'⟩
          have HI2 := hideIt hI'
          have HM2 := hideIt hM'
          have HN2 : Hid (x'.now ≤ x0.now + ((j + 1 : Nat) : Int)) := by unfold Hid; have := hnw.out; have := hN'.now; omega
          have HD2 : Hid (x'.ds.length ≤ x0.ds.length + 1) := by unfold Hid; rw [hN'.nd]; exact hnd.out
          clear CM g14 g4 b0 hI' hM' hN' hg
          go_wp2
          go_roundw
          case rel => exact ⟨j + 1, x', by go_num, by omega, HN2.out, HD2.out, HI2.out, HM2.out⟩
          case measure => simp [intOf]; omega
      · have hj1 : ¬ ((j : Int) < 1 + (n : Int)) := by omega
        have hjn : (1 : Int) + (n : Int) ≤ (j : Int) := by omega
        go_wp2
        exact bodyPost_end (results_none Tryd.results29 _ _ _) rfl ⟨⟨_, rfl⟩, x, hI.out, by have := hnw.out; omega, hnd.out, by have h9 := hM.out; rw [HFB.out] at h9; exact (h9.perm (List.perm_middle (l₁ := x.as)).symm).sub (List.sublist_cons_self _ _)⟩
  · have b0 := A1.out.rowCell (i := 1) rfl c (.int .i64 i) (ints_get hb)
    have hi0 : (0 : Int) ≤ (i : Int) := by omega
    obtain ⟨x1, hx1⟩ : ∃ x1, x1 = x0 := ⟨_, rfl⟩
    have HI1 : Hid (Inv x1) := by rw [hx1]; exact HI.out
    have HN1 : Hid (x1.now ≤ x0.now) := by unfold Hid; rw [hx1]; omega
    have HD1 : Hid (x1.ds.length ≤ x0.ds.length + 1) := by unfold Hid; rw [hx1]; omega
    have A3 : Hid (M w0 B w1 (x1.as ++ FB)) := by rw [hx1]; exact A1.out
    clear hb A1 hx1
    have p4 := A3.out.cellIn (HIN.out x1) 4 (.int .i64 mv) rfl
    go_wp2_with fail
    refine (P2.out _).mono ?_
    rintro e w9 ⟨rfl, rfl⟩
    clear p4
    go_wp2
    go_loopw [6] (fun y wr => ∃ (j : Nat) (x : Wd), y = .int .i64 j ∧ j ≤ n + 1 ∧ Hid (x.now ≤ x0.now + (j : Int)) ∧ Hid (x.ds.length ≤ x0.ds.length + 1) ∧ Hid (Inv x) ∧ Hid (M w0 B wr (x.as ++ FB))) (fun i _ => (n + 1) - (intOf i).toNat)
    case atStart => exact ⟨0, x1, rfl, by omega, by unfold Hid; have := HN1.out; omega, HD1.out, HI1.out, A3.out⟩
    case round =>
      clear A3 HI1 HN1 HD1
      obtain ⟨j, x, rfl, hj, hnw, hnd, hI, hM⟩ := hrel
      have hg : Hid (x.gw = x0.gw) := HMC.out.pg x hI.out
      have g14 := hM.out.cell (i := 0) rfl 14 (.bool false) rfl
      have g4 := hM.out.cell (i := 0) rfl 4 (.slice (some ⟨x.bg, 0, none⟩) 64 x.bc) rfl
      rw [hg.out] at g14 g4
      by_cases hlt : j < n + 1
      · have hj1 : (j : Int) < 1 + (n : Int) := by omega
        rcases HMC.out.bs x c hI.out (by omega) with hb | ⟨⟨i, hb⟩, -, -⟩
        · have b0 := hM.out.rowCell (i := 1) rfl c (.int .i64 (-1)) (ints_get hb)
          clear hb
          go_wp2
          exact bodyPost_end (results_none Tryd.results29 _ _ _) rfl ⟨⟨_, rfl⟩, x, hI.out, by have := hnw.out; omega, hnd.out, by have h9 := hM.out; rw [HFB.out] at h9; exact (h9.perm (List.perm_middle (l₁ := x.as)).symm).sub (List.sublist_cons_self _ _)⟩
        · have b0 := hM.out.rowCell (i := 1) rfl c (.int .i64 i) (ints_get hb)
          have hi0 : (0 : Int) ≤ (i : Int) := by omega
          have CM := hideIt (HMC.out.mv x c i wr FB (by omega) hI.out (by have := hnw.out; have := HN.out; omega) hb hM.out)
          clear hM hb hI
          go_wp2_with fail
          refine CM.out.mono ?_
          rintro e w4 ⟨⟨u, rfl⟩, x', hI', hN', -, hM'⟩
          have HI2 := hideIt hI'
          have HM2 := hideIt hM'
          have HN2 : Hid (x'.now ≤ x0.now + ((j + 1 : Nat) : Int)) := by unfold Hid; have := hnw.out; have := hN'.now; omega
          have HD2 : Hid (x'.ds.length ≤ x0.ds.length + 1) := by unfold Hid; rw [hN'.nd]; exact hnd.out
          clear CM g14 g4 b0 hI' hM' hN' hg
          go_wp2
          go_roundw
          case rel => exact ⟨j + 1, x', by go_num, by omega, HN2.out, HD2.out, HI2.out, HM2.out⟩
          case measure => simp [intOf]; omega
      · have hj1 : ¬ ((j : Int) < 1 + (n : Int)) := by omega
        have hjn : (1 : Int) + (n : Int) ≤ (j : Int) := by omega
        go_wp2
        exact bodyPost_end (results_none Tryd.results29 _ _ _) rfl ⟨⟨_, rfl⟩, x, hI.out, by have := hnw.out; omega, hnd.out, by have h9 := hM.out; rw [HFB.out] at h9; exact (h9.perm (List.perm_middle (l₁ := x.as)).symm).sub (List.sublist_cons_self _ _)⟩
end Go.Proofs.YtajobgmnmbnhiaaDoor.Sap

/- WHAT IS PROVED HERE: saplingkeep's fresh as a world, and play: a script is played over any program that keeps an invariant of the world (Mc). Conditions: the script has at most a million turns. -/
namespace Go.Proofs.YtajobgmnmbnhiaaDoor.Sap
open Go.RowKit

/-- The world at the beginning. -/
def Wd.first (gw tg tc ug uc vg vc bg bc : Nat) : Wd := ⟨gw, tg, tc, ug, uc, vg, vc, bg, bc, .slice none 0 0, firstB :: List.replicate 63 ⟨#[]⟩, true :: List.replicate 63 false, List.replicate 64 0, List.replicate 64 (-1), 0, 0, false, false, false, .slice none 0 0, .slice none 0 0, []⟩

theorem fresh_wd (w : World) : Calls Tryd.prog 28 #[] w fun e w' => e = .returned (.pointer (some ⟨w.heap.size, 0, none⟩)) ∧ ∃ tg tc ug uc vg vc bg bc, M w w.heap.size w' ((Wd.first w.heap.size tg tc ug uc vg vc bg bc).as ++ []) := by
  refine (fresh_any w).mono ?_
  rintro e w' ⟨tv, uv, vv, bv, rfl, h⟩
  obtain ⟨tg, tc, rfl⟩ := As.form (h.get (i := 1) rfl) (by omega)
  obtain ⟨ug, uc, rfl⟩ := As.form (h.get (i := 2) rfl) (by omega)
  obtain ⟨vg, vc, rfl⟩ := As.form (h.get (i := 3) rfl) (by omega)
  obtain ⟨bg, bc, rfl⟩ := As.form (h.get (i := 4) rfl) (by omega)
  refine ⟨rfl, tg, tc, ug, uc, vg, vc, bg, bc, ?_⟩
  have h2 := M.rowNil (e := 81) (z := 1) h
  have e1 : (Wd.first w.heap.size tg tc ug uc vg vc bg bc).as ++ [] = [.blk w.heap.size (WC (.slice (some ⟨tg, 0, none⟩) 64 tc) (.slice (some ⟨ug, 0, none⟩) 64 uc) (.slice (some ⟨vg, 0, none⟩) 64 vc) (.slice none 0 0) (.slice (some ⟨bg, 0, none⟩) 64 bc) 0 0 false false false false false (.slice none 0 0) (.slice none 0 0) false) 58, .row 3 1 (.slice (some ⟨bg, 0, none⟩) 64 bc) 64 (List.replicate 64 (.int .i64 (-1))), .row 81 1 (.slice none 0 0) 0 [], .row 9 1 (.slice (some ⟨tg, 0, none⟩) 64 tc) 64 (.string firstB :: List.replicate 63 (.string ⟨#[]⟩)), .row 4 1 (.slice (some ⟨ug, 0, none⟩) 64 uc) 64 (.bool true :: List.replicate 63 (.bool false)), .row 3 1 (.slice (some ⟨vg, 0, none⟩) 64 vc) 64 (List.replicate 64 (.int .i64 0))] := by
    simp [Wd.as, Wd.hd, Wd.first, ints, strs, bools]
  rw [e1]
  refine h2.perm ?_
  refine List.Perm.cons _ ?_
  refine (List.perm_append_comm (l₁ := [_, _, _, _]) (l₂ := [_])).symm.trans ?_
  exact List.Perm.refl _

/-- A turn of a script. -/
structure Tn where
  cl : Int
  k : Int
  key : Int
  v : Int
  mv : Int
structure Tn.ok (t : Tn) : Prop where
  cl : I64 t.cl
  k : I64 t.k
  key : I64 t.key
  v : I64 t.v
  mv : I64 t.mv
/-- A script, as it lies in memory. -/
def TRd (w : World) (v : Value) (ts : List Tn) : Prop :=
  ∃ ao cap, v = .slice ao ts.length cap ∧ (0 < ts.length → ∃ b off, ao = some ⟨b, off, none⟩ ∧ ∀ j t, ts[j]? = some t → w.cell? ⟨b, off + j * 5, none⟩ = some (.int .i64 t.cl) ∧ w.cell? ⟨b, off + j * 5 + 1, none⟩ = some (.int .i64 t.k) ∧ w.cell? ⟨b, off + j * 5 + 2, none⟩ = some (.int .i64 t.key) ∧ w.cell? ⟨b, off + j * 5 + 3, none⟩ = some (.int .i64 t.v) ∧ w.cell? ⟨b, off + j * 5 + 4, none⟩ = some (.int .i64 t.mv))
theorem TRd.below {w w' : World} {v : Value} {ts : List Tn} (h : TRd w v ts) (hb : Below w.heap.size w w') : TRd w' v ts := by
  obtain ⟨ao, cap, rfl, h⟩ := h
  refine ⟨ao, cap, rfl, fun hp => ?_⟩
  obtain ⟨b, off, rfl, k⟩ := h hp
  refine ⟨b, off, rfl, fun j t hj => ?_⟩
  obtain ⟨h0, h1, h2, h3, h4⟩ := k j t hj
  exact ⟨cell_below hb _ _ h0, cell_below hb _ _ h1, cell_below hb _ _ h2, cell_below hb _ _ h3, cell_below hb _ _ h4⟩

set_option maxRecDepth 100000 in
set_option maxHeartbeats 6400000 in
theorem play_gen (sv : Value) (ts : List Tn) (Inv : Wd → Prop) (rk : Nat → Wd → Nat) (w : World) (hT : TRd w sv ts) (hok : ∀ t ∈ ts, t.ok) (hlen : ts.length ≤ 1048576) (m : Mc Inv rk w.heap.size w w.heap.size) (h0 : ∀ tg tc ug uc vg vc bg bc, Inv (Wd.first w.heap.size tg tc ug uc vg vc bg bc)) :
    Calls Tryd.prog 34 #[sv] w fun e w' => e = .returned (.pointer (some ⟨w.heap.size, 0, none⟩)) ∧ ∃ x', Inv x' ∧ x'.now ≤ 40 * (ts.length : Int) ∧ x'.ds.length ≤ ts.length ∧ M w w.heap.size w' (x'.as ++ []) := by
  have HT := hideIt hT
  obtain ⟨ao, cap, rfl, -⟩ := hT
  have HOK := hideIt hok
  have HMC := hideIt m
  have H0 := hideIt h0
  have HL := hideIt hlen
  obtain ⟨n, hn⟩ : ∃ n, ts.length = n := ⟨_, rfl⟩
  have HNN := hideIt hn
  rw [hn] at HL HT ⊢
  clear hok m h0 hlen hn
  obtain ⟨gw, hgw⟩ : ∃ g, w.heap.size = g := ⟨_, rfl⟩
  have HGW := hideIt hgw
  rw [hgw] at HMC H0 ⊢
  clear hgw
  go_enter Tryd.func34, Tryd.ntmps34
  go_wp2_with fail
  refine (fresh_wd w).mono ?_
  rintro e w1 ⟨rfl, tg, tc, ug, uc, vg, vc, bg, bc, hM⟩
  rw [HGW.out] at hM ⊢
  have A0 := hideIt hM
  clear hM
  go_wp2
  go_loopw [4] (fun y wr => ∃ (j : Nat) (x : Wd), y = .int .i64 j ∧ j ≤ n ∧ Hid (x.now ≤ 40 * (j : Int)) ∧ Hid (x.ds.length ≤ j) ∧ Hid (Inv x) ∧ Hid (M w gw wr (x.as ++ []))) (fun i _ => n - (intOf i).toNat)
  case atStart => exact ⟨0, _, rfl, by omega, by unfold Hid; simp [Wd.first], by unfold Hid; simp [Wd.first], H0.out tg tc ug uc vg vc bg bc, A0.out⟩
  case round =>
    clear A0
    obtain ⟨j, x, rfl, hj, hnw, hnd, hI, hM⟩ := hrel
    have hg : Hid (x.gw = gw) := HMC.out.pg x hI.out
    have g14 := hM.out.cell (i := 0) rfl 14 (.bool false) rfl
    rw [hg.out] at g14
    by_cases hlt : j < n
    · have hj1 : (j : Int) < (n : Int) := by omega
      have hj0 : (0 : Int) ≤ (j : Int) := by omega
      obtain ⟨ao2, cap2, e2, hT2⟩ := HT.out
      obtain ⟨b, off, e3, hT3⟩ := hT2 (by rw [HNN.out]; omega)
      obtain ⟨t, ht⟩ : ∃ t, ts[j]? = some t := ⟨_, List.getElem?_eq_getElem (by rw [HNN.out]; exact hlt)⟩
      cases e2
      subst e3
      have hb2 : Below w.heap.size w wr := by have := hM.out.bl; rw [← HGW.out] at this; exact this
      obtain ⟨c0, c1, c2, c3, c4⟩ := hT3 j t ht
      have c0 := cell_below hb2 _ _ c0
      have c1 := cell_below hb2 _ _ c1
      have c2 := cell_below hb2 _ _ c2
      have c3 := cell_below hb2 _ _ c3
      have c4 := cell_below hb2 _ _ c4
      have hok := HOK.out t (List.mem_of_getElem? ht)
      have CM := hideIt (HMC.out.turn x t.cl t.k t.key t.v t.mv wr [] hok.cl hok.k hok.key hok.v hok.mv hI.out (by have := hnw.out; have := HL.out; omega) (by have := hnd.out; have := HL.out; omega) hM.out)
      clear hM hI hb2 hT3 hT2 ht hok
      go_wp2_with fail
      refine CM.out.mono ?_
      rintro e w2 ⟨⟨u, rfl⟩, x', hI', hn', hd', hM'⟩
      have HI2 := hideIt hI'
      have HM2 := hideIt hM'
      have HN2 : Hid (x'.now ≤ 40 * ((j + 1 : Nat) : Int)) := by unfold Hid; have := hnw.out; omega
      have HD2 : Hid (x'.ds.length ≤ j + 1) := by unfold Hid; have := hnd.out; omega
      clear CM g14 c0 c1 c2 c3 c4 hI' hM' hn' hd' hg
      have hl6 := HL.out
      go_wp2
      go_roundw
      case rel => exact ⟨j + 1, x', by go_num, by omega, HN2.out, HD2.out, HI2.out, HM2.out⟩
      case measure => simp [intOf]; omega
    · obtain rfl : j = n := by omega
      go_wp2
      go_ret
      exact ⟨rfl, x, hI.out, hnw.out, hnd.out, hM.out⟩
end Go.Proofs.YtajobgmnmbnhiaaDoor.Sap
