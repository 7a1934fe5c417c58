/- WHAT IS PROVED HERE: saplingkeep.node answers a right node, in new lists of its own; and plain facts on texts' lengths. Conditions: its numbers are ints, its lists no longer than memory bears. -/
import Derived.Test.YtajobgmnmbnhiaaDoorR5
import Derived.Test.YtajobgmnmbnhiaaDoorR6
import Derived.Test.YtajobgmnmbnhiaaDoorW15
namespace Go.Proofs.YtajobgmnmbnhiaaDoor.Sap
open Go.RowKit

theorem node_all (level high link : Int) (raw vals : Value) (rs us : List Int) (w : World) (h0 : In64 level) (h1 : In64 high) (h2 : In64 link) (hr : Rd w raw rs) (hv : Rd w vals us)
    (hrl : rs.length ≤ 17592186044416) (hul : us.length ≤ 17592186044416) (hrw : ∀ x ∈ rs, In64 x) (huw : ∀ x ∈ us, In64 x) :
    Calls Tryd.prog 23 #[.int .i64 level, .int .i64 high, .int .i64 link, raw, vals] w fun e w' => NodeR w w' e := by
  by_cases h : pickV level 10 = 0
  · exact node_leaf level high link raw vals rs us w h0 h1 h2 hr hv hrl hul hrw huw h
  · exact node_inner level high link raw vals rs us w h0 h1 h2 hr hv hrl hul hrw huw h

/-- The texts of nodes have an odd number of bytes, 7 to 47. -/
theorem odd_len {s : List UInt8} {n : Nd} (h : Unp s n) : s.length % 2 = 1 := by
  have h1 := (ents_of h).1
  have h2 : wd n.lv = 8 ∨ wd n.lv = 6 := by unfold wd vw; split <;> simp
  rcases h2 with h2 | h2 <;> rw [h2] at h1 <;> omega
theorem even_no {s : List UInt8} (h : s.length % 2 = 0) : ∀ n, ¬ Unp s n := fun n hn => by have := odd_len hn; omega
theorem len_unp {s : List UInt8} {n : Nd} (h : Unp s n) : 7 ≤ s.length ∧ s.length ≤ 47 := by
  have h1 := len_packT n h.1
  rw [h.2] at h1; omega

/-- A node one of whose keys is its High is not right. -/
theorem not_right_high (n : Nd) (ks : List Int) (h : n.hi ∈ ks) : rightB ⟨n.lv, n.lk, n.hi, ks, n.vs⟩ = false := by
  by_cases h' : rightB ⟨n.lv, n.lk, n.hi, ks, n.vs⟩ = true
  · exfalso
    unfold rightB at h'
    simp only [Bool.and_eq_true, decide_eq_true_eq] at h'
    obtain ⟨-, -, -, -, -, h6, -⟩ := h'
    have : ∀ (l : Int) (xs : List Int), keysOk n.hi l xs = true → ∀ x ∈ xs, x < n.hi := by
      intro l xs
      induction xs generalizing l with
      | nil => intro _ x hx; cases hx
      | cons y r ih =>
        intro hk x hx
        simp only [keysOk, Bool.and_eq_true, decide_eq_true_eq] at hk
        rcases List.mem_cons.1 hx with rfl | hx
        · exact hk.2.1
        · exact ih (y + 1) hk.2.2 x hx
    have := this _ _ h6 _ h
    omega
  · simpa using h'
end Go.Proofs.YtajobgmnmbnhiaaDoor.Sap
