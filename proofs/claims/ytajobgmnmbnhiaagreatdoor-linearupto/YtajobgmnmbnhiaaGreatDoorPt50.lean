/- WHAT IS PROVED HERE: when all operations have ended, each has answered as a map does that those ahead of it have made; the pieces of a Scan (no program's function is walked). Conditions: none but those named at each theorem. -/
import Derived.Test.YtajobgmnmbnhiaaGreatDoorPt47
import Derived.Test.YtajobgmnmbnhiaaGreatDoorPt46
namespace Go.Proofs.YtajobgmnmbnhiaaGreatDoor.Sap
open Go.RowKit
theorem Inv.sin {wt : Bool} {gw : Nat} {x : Wd} {t : Tre} {S : Nat → St} {o : List Dn} (h : Inv wt gw x t S o) (hid : ∀ c, c < 64 → x.bs[c]? = some (-1)) : ∀ d ∈ x.ds, d.k ≠ 4 → SinOk x d := by
  intro d hd hk
  obtain ⟨i, hi⟩ := List.mem_iff_getElem?.1 hd
  obtain ⟨he, hD⟩ := h.allEnded hid i d hi
  have hE := hD.ed he
  rcases hE.an with ⟨h4, -⟩ | ⟨-, h1, h2, h3, h5⟩
  · exact absurd h4 hk
  · refine ⟨h1, h2, h3, ?_⟩
    rcases h5 with h5 | ⟨e0, e1, e2⟩
    · exact Or.inl h5
    · refine Or.inr ⟨e0, fun o' hp hs fd v hV => ?_⟩
      rw [h.uniq hid hp hs] at hV
      obtain ⟨a1, a2, a3⟩ := tabO_look (ahead o (d.ts[d.pt.toNat]?.getD 0)) (ahead_ok h.ok _)
      obtain ⟨b1, b2⟩ := valR_look a1 a2 hV
      rw [a3] at b1 b2
      exact ⟨e1.trans b1.symm, e2.trans b2.symm⟩
theorem linear_any (sv : Value) (ts : List Tn) (w : World) (htab : Tab w) (hT : TRd w sv ts) (hok : ∀ t ∈ ts, t.ok) (hlen : ts.length ≤ 1048576) :
    Calls Tryz.prog 5 #[sv] w fun e w' => e = .returned (.bool true) ∧ Below w.heap.size w w' := by
  obtain ⟨rk, G⟩ := good_ex
  exact linear_gen sv ts (InvG false) rk w htab hT hok hlen G fun _ _ ⟨⟨_, _, _, h, _⟩, _⟩ hid _ => h.sin hid
end Go.Proofs.YtajobgmnmbnhiaaGreatDoor.Sap
