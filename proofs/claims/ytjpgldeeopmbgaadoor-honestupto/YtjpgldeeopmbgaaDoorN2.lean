/- WHAT IS PROVED HERE: saplingkeep's alone: a client moves alone till its operation ends. Conditions: each of its accesses keeps a given invariant of the world and comes nearer to the end (hstep). -/
import Derived.Test.YtjpgldeeopmbgaaDoorN1
namespace Go.Proofs.YtjpgldeeopmbgaaDoor.Sap
open Go.RowKit

set_option maxRecDepth 100000 in
set_option maxHeartbeats 6400000 in
theorem alone_gen (c gw : Nat) (I : Wd → Prop) (rk : Wd → Nat) (fr : List As) (w0 w : World) (B : Nat) (x0 : Wd) (hc : c < 64) (hgw : ∀ x, I x → x.gw = gw) (hbs : ∀ x, I x → x.bs[c]? = some (-1) ∨ (∃ i : Nat, x.bs[c]? = some (i : Int)) ∧ 0 < rk x)
    (hstep : ∀ x (i : Nat) W, I x → x.bs[c]? = some (i : Int) → M w0 B W (x.as ++ fr) → Calls Tryd.prog 63 #[.pointer (some ⟨gw, 0, none⟩), .int .i64 c] W fun e w' => (∃ u, e = .returned u) ∧ ∃ x', I x' ∧ rk x' < rk x ∧ M w0 B w' (x'.as ++ fr))
    (hI : I x0) (h0 : rk x0 ≤ 1000) (h : M w0 B w (x0.as ++ fr)) :
    Calls Tryd.prog 32 #[.pointer (some ⟨gw, 0, none⟩), .int .i64 c] w fun e w' => (∃ u, e = .returned u) ∧ ∃ x', I x' ∧ x'.bs[c]? = some (-1) ∧ M w0 B w' (x'.as ++ fr) := by
  have hc0 : (0 : Int) ≤ (c : Int) := by omega
  have hc1 : (c : Int) < 64 := by omega
  have HM := hideIt h
  have HI := hideIt hI
  have HGW := hideIt hgw
  have HBS := hideIt hbs
  have HS := hideIt hstep
  clear h hI hgw hbs hstep
  go_enter Tryd.func32, Tryd.ntmps32
  go_wp2
  go_loopw [4] (fun y wr => ∃ (j n : Nat) (x : Wd), y = .int .i64 j ∧ j + n ≤ 1000 ∧ Hid (rk x = n) ∧ Hid (I x) ∧ Hid (M w0 B wr (x.as ++ fr))) (fun i _ => 1000 - (intOf i).toNat)
  case atStart => exact ⟨0, rk x0, x0, rfl, by omega, rfl, HI.out, HM.out⟩
  case round =>
    clear HM HI
    obtain ⟨j, n, x, rfl, hj, hr, hI, hM⟩ := hrel
    have hg := HGW.out x hI.out
    subst hg
    have g14 := hM.out.cell (i := 0) rfl 14 (.bool false) rfl
    have g4 := hM.out.cell (i := 0) rfl 4 (.slice (some ⟨x.bg, 0, none⟩) 64 x.bc) rfl
    rcases HBS.out x hI.out with hb | ⟨⟨i, hb⟩, hpos⟩
    · have b0 := hM.out.rowCell (i := 1) rfl c (.int .i64 (-1)) (ints_get hb)
      have e14 := hM.out.free (i := 0) rfl 14
      have S1 := hideIt (hM.out.store (i := 0) (j := 14) rfl (.bool false) rfl)
      have HB := hideIt hb
      clear hM hb
      by_cases hj1 : (j : Int) < 1000
      · go_wp2
        exact bodyPost_end (results_none Tryd.results32 _ _ _) rfl ⟨⟨_, rfl⟩, x, hI.out, HB.out, S1.out⟩
      · go_wp2
        exact bodyPost_end (results_none Tryd.results32 _ _ _) rfl ⟨⟨_, rfl⟩, x, hI.out, HB.out, S1.out⟩
    · have b0 := hM.out.rowCell (i := 1) rfl c (.int .i64 i) (ints_get hb)
      rw [hr.out] at hpos
      have hj1 : (j : Int) < 1000 := by omega
      have hi0 : (0 : Int) ≤ (i : Int) := by omega
      have CM := hideIt (HS.out x i wr hI.out hb hM.out)
      clear hM hb hI
      go_wp2_with fail
      refine CM.out.mono ?_
      rintro e w1 ⟨⟨u, rfl⟩, x', hI', hr', hM'⟩
      have HI2 := hideIt hI'
      have HM2 := hideIt hM'
      rw [hr.out] at hr'
      clear CM g14 g4 b0 hI' hM'
      go_wp2
      go_roundw
      case rel => exact ⟨j + 1, rk x', x', by go_num, by omega, rfl, HI2.out, HM2.out⟩
      case measure => simp [intOf]; omega
end Go.Proofs.YtjpgldeeopmbgaaDoor.Sap
