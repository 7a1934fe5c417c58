/- WHAT IS PROVED HERE: saplingkeep's alone and settle over any program that keeps an invariant of the world: what a machine is (Mc), one client behind the other moves alone till all operations have ended. Conditions: those of a machine: each access and each beginning keeps the invariant, and a client that moves comes nearer to its end. -/
import Derived.Test.YtajobgmnmbnhiaaDoorPt33
namespace Go.Proofs.YtajobgmnmbnhiaaDoor.Sap
open Go.RowKit
set_option maxRecDepth 100000 in
set_option maxHeartbeats 6400000 in
theorem Mc.settle {Inv : Wd → Prop} {rk : Nat → Wd → Nat} {gw : Nat} {w0 : World} {B : Nat} (m : Mc Inv rk gw w0 B) (x0 : Wd) (w : World) (fr : List As) (hI : Inv x0) (hn : x0.now ≤ 80000000) (h : M w0 B w (x0.as ++ fr)) :
    Calls Tryd.prog 30 #[.pointer (some ⟨gw, 0, none⟩)] w fun e w' => (∃ u, e = .returned u) ∧ ∃ x', Inv x' ∧ (∀ c, c < 64 → x'.bs[c]? = some (-1)) ∧ x'.now ≤ x0.now + 64000 ∧ x'.ds.length = x0.ds.length ∧ M w0 B w' (x'.as ++ fr) := by
  have HM := hideIt h
  have HI := hideIt hI
  have HMC := hideIt m
  clear h hI m
  go_enter Tryd.func30, Tryd.ntmps30
  go_wp2
  go_loopw [2] (fun y wr => ∃ (c : Nat) (x : Wd), y = .int .i64 c ∧ c ≤ 64 ∧ Hid (∀ j, j < c → x.bs[j]? = some (-1)) ∧ Hid (x.now ≤ x0.now + 1000 * (c : Int)) ∧ Hid (x.ds.length = x0.ds.length) ∧ Hid (Inv x) ∧ Hid (M w0 B wr (x.as ++ fr))) (fun i _ => 64 - (intOf i).toNat)
  case atStart => exact ⟨0, x0, rfl, by omega, fun j hj => by omega, by unfold Hid; omega, rfl, HI.out, HM.out⟩
  case round =>
    clear HM HI
    obtain ⟨c, x, rfl, hc, hr, hnw, hnd, hI, hM⟩ := hrel
    have hg := HMC.out.pg x hI.out
    subst hg
    have g14 := hM.out.cell (i := 0) rfl 14 (.bool false) rfl
    by_cases hlt : c < 64
    · have hc1 : (c : Int) < 64 := by omega
      have CM := hideIt (HMC.out.alone c x wr fr hlt hI.out (by have := hnw.out; omega) hM.out)
      clear hM hI
      go_wp2_with fail
      refine CM.out.mono ?_
      rintro e w1 ⟨⟨u, rfl⟩, x', hI', hb', hn', hd', hk', hM'⟩
      have HI2 := hideIt hI'
      have HM2 := hideIt hM'
      have HB : Hid (∀ j, j < c + 1 → x'.bs[j]? = some (-1)) := fun j hj => by
        rcases Nat.lt_or_ge j c with h | h
        · rw [hk' j (by omega)]; exact hr.out j h
        · obtain rfl : j = c := by omega
          exact hb'
      have HN : Hid (x'.now ≤ x0.now + 1000 * ((c + 1 : Nat) : Int)) := by unfold Hid; have := hnw.out; omega
      have HD : Hid (x'.ds.length = x0.ds.length) := hd'.trans hnd.out
      clear CM g14 hI' hM' hb' hk' hn' hd'
      go_wp2
      go_roundw
      case rel => exact ⟨c + 1, x', by go_num, by omega, HB.out, HN.out, HD.out, HI2.out, HM2.out⟩
      case measure => simp [intOf]; omega
    · obtain rfl : c = 64 := by omega
      rw [show ((64 : Nat) : Int) = 64 from rfl]
      have HM := hideIt hM.out
      clear hM
      go_wp2
      exact bodyPost_end (results_none Tryd.results30 _ _ _) rfl ⟨⟨_, rfl⟩, x, hI.out, hr.out, by have := hnw.out; omega, hnd.out, HM.out⟩
end Go.Proofs.YtajobgmnmbnhiaaDoor.Sap
