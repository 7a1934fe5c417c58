/- WHAT IS PROVED HERE: saplingkeep's Honest and Linear answer true over any program that keeps an invariant of the world (Good) which lets the answers be a plain map's. Conditions: those of Good; the script has at most a million turns. -/
import Derived.Test.YtajobgmnmbnhiaaDoorPt36
import Derived.Test.YtajobgmnmbnhiaaDoorPt34
import Derived.Test.YtajobgmnmbnhiaaDoorPt35
namespace Go.Proofs.YtajobgmnmbnhiaaDoor.Sap
open Go.RowKit
set_option maxRecDepth 100000 in
set_option maxHeartbeats 6400000 in
theorem honest_gen (sv : Value) (ts : List Tn) (Inv : Nat → Wd → Prop) (rk : Nat → Wd → Nat) (w : World) (htab : Tab w) (hT : TRd w sv ts) (hok : ∀ t ∈ ts, t.ok) (hlen : ts.length ≤ 1048576) (G : Good Inv rk) :
    Calls Tryd.prog 8 #[sv] w fun e w' => e = .returned (.bool true) ∧ Below w.heap.size w w' := by
  have HT := hideIt hT
  have HOK := hideIt hok
  have HL := hideIt hlen
  have HG := hideIt G
  obtain ⟨ao, cap, rfl, -⟩ := hT
  obtain ⟨Pv, Pb, hpv, hp0⟩ := G.pv w htab
  have CP := hideIt (proved_gen Pv Pb w hpv hp0)
  clear hok hlen G hpv hp0
  go_enter Tryd.func8, Tryd.ntmps8
  go_wp2_with fail
  refine CP.out.mono ?_
  rintro e w1 ⟨rfl, hb1⟩
  have HB1 := hideIt hb1
  have HMC := hideIt (HG.out.mc w1 (htab.below hb1))
  have CQ := hideIt (play_gen _ ts (Inv w1.heap.size) rk w1 (HT.out.below hb1) HOK.out HL.out HMC.out (HG.out.ini w1.heap.size))
  clear hb1 CP HT
  go_wp2_with fail
  refine CQ.out.mono ?_
  rintro e w2 ⟨rfl, x, hI, hn, -, hM⟩
  have CS := hideIt (HMC.out.settle x w2 [] hI (by have := HL.out; omega) hM)
  clear CQ hI hn hM
  go_wp2_with fail
  refine CS.out.mono ?_
  rintro e w3 ⟨⟨u, rfl⟩, x3, hI3, -, -, -, hM3⟩
  have hg : Hid (x3.gw = w1.heap.size) := HMC.out.pg x3 hI3
  have g8 := hM3.cell (i := 0) rfl 8 (.bool false) rfl
  have g14 := hM3.cell (i := 0) rfl 14 (.bool false) rfl
  rw [hg.out] at g8 g14
  have HB3 := hideIt (step HB1.out hM3.bl)
  clear CS hI3 hM3
  go_wp2
  go_ret
  exact ⟨rfl, HB3.out⟩
end Go.Proofs.YtajobgmnmbnhiaaDoor.Sap
