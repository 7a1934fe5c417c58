/- WHAT IS PROVED HERE: saplingkeep.node answers a right node, in new lists of its own. Conditions: its numbers are ints, its lists no longer than memory bears. -/
import Derived.Test.YtajobgmnmbnhiaaDoorR3
import Derived.Test.YtajobgmnmbnhiaaDoorW6
namespace Go.Proofs.YtajobgmnmbnhiaaDoor.Sap
open Go.RowKit

def In64 (x : Int) : Prop := -9223372036854775808 ≤ x ∧ x ≤ 9223372036854775807
/-- What node answers. -/
def NodeR (w w' : World) (e : Ending) : Prop := ∃ n kv vv, rightB n = true ∧ e = .returned (.agg #[.int .i64 n.lv, .int .i64 n.lk, .int .i64 n.hi, kv, vv]) ∧ Own w' w.heap.size kv vv n.ks n.vs ∧ Below w.heap.size w w'

theorem keys_lo (hi l : Int) (ks : List Int) (h : keysOk hi l ks = true) : ∀ k ∈ ks, l ≤ k := by
  induction ks generalizing l with
  | nil => intro k hk; cases hk
  | cons x r ih =>
    simp only [keysOk, Bool.and_eq_true, decide_eq_true_eq] at h
    intro k hk
    rcases List.mem_cons.1 hk with rfl | hk
    · exact h.1
    · have := ih (x + 1) h.2.2 k hk; omega

/-- What the lists hold after i keys. -/
def NInv (lv hi : Int) (K : List Int) (i : Nat) (ks vs : List Int) : Prop :=
  keysOk hi (least lv) ks = true ∧ valsOk lv vs = true ∧ ks.length = vs.length ∧ (∀ x ∈ ks, ∀ j, i = j + 1 → x ≤ K[j]?.getD 0) ∧ (i = 0 → ks = []) ∧ (lv ≠ 0 → 0 < i → ks ≠ [])

theorem valsOk_snoc (lv v : Int) (vs : List Int) (h : valsOk lv vs = true) (hv : valOk lv v = true) : valsOk lv (vs ++ [v]) = true := by
  induction vs with
  | nil => simp [valsOk, hv]
  | cons x r ih =>
    simp only [valsOk, Bool.and_eq_true] at h
    simp [valsOk, h.1, ih h.2]

theorem NInv.skip {lv hi : Int} {K : List Int} {i : Nat} {ks vs : List Int} (h : NInv lv hi K i ks vs) (hK : keysOk 10000 1 K = true) (hi' : i < K.length) (hne : lv ≠ 0 → ks ≠ []) : NInv lv hi K (i + 1) ks vs := by
  obtain ⟨h1, h2, h3, h4, h5, h6⟩ := h
  refine ⟨h1, h2, h3, fun x hx j hj => ?_, fun e => by omega, fun e _ => hne e⟩
  obtain rfl : j = i := by omega
  cases j with
  | zero => rw [h5 rfl] at hx; cases hx
  | succ j =>
    have a := h4 x hx j rfl
    have b := keysOk_lt 10000 1 K hK j (j + 1) (by omega) hi'
    omega

theorem NInv.push {lv hi : Int} {K : List Int} {i : Nat} {ks vs : List Int} {k v : Int} (h : NInv lv hi K i ks vs) (hK : keysOk 10000 1 K = true) (hi' : i < K.length) (hk1 : least lv ≤ k) (hk2 : k < hi) (hk3 : k ≤ K[i]?.getD 0) (hk4 : i ≠ 0 → k = K[i]?.getD 0) (hv : valOk lv v = true) : NInv lv hi K (i + 1) (ks ++ [k]) (vs ++ [v]) := by
  obtain ⟨h1, h2, h3, h4, h5, h6⟩ := h
  have hlt : ∀ x ∈ ks, x < k := by
    intro x hx
    cases i with
    | zero => rw [h5 rfl] at hx; cases hx
    | succ j =>
      have a := h4 x hx j rfl
      have b := keysOk_lt 10000 1 K hK j (j + 1) (by omega) hi'
      have c := hk4 (by omega)
      omega
  refine ⟨keysOk_snoc _ _ _ _ h1 hlt hk1 hk2, valsOk_snoc _ _ _ h2 hv, by simp [h3], fun x hx j hj => ?_, fun e => by omega, fun _ _ e => by simp at e⟩
  obtain rfl : j = i := by omega
  rcases List.mem_append.1 hx with hx | hx
  · have := hlt x hx; omega
  · simp at hx; omega

end Go.Proofs.YtajobgmnmbnhiaaDoor.Sap
