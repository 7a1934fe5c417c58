/- WHAT IS PROVED HERE: saplingref.Right and saplingref.Pack answer a right node's text, and ErrNode for every other. Conditions: the slices are no longer than memory bears. -/
import Derived.Test.YtajobgmnmbnhiaaDoorW2
import Derived.Test.YtajobgmnmbnhiaaDoorW6L
import Derived.Test.YtajobgmnmbnhiaaDoorW6N
namespace Go.Proofs.YtajobgmnmbnhiaaDoor.Sap
open Go.RowKit

theorem refRight_any (n : Nd) (kv vv : Value) (w : World) (hk : Rd w kv n.ks) (hv : Rd w vv n.vs) (hkl : n.ks.length ≤ 17592186044416) :
    Calls Tryd.prog 44 #[.agg #[.int .i64 n.lv, .int .i64 n.lk, .int .i64 n.hi, kv, vv]] w fun e w' => e = .returned (.bool (rightB n)) ∧ Below w.heap.size w w' := by
  obtain ⟨lv, lk, hi, ks, vs⟩ := n
  simp only at hk hv hkl ⊢
  obtain ⟨ak, ck, rfl⟩ := hk.len
  obtain ⟨av, cv, rfl⟩ := hv.len
  by_cases h : (lv < 0 ∨ 9 < lv ∨ hi < 1 ∨ 10000 < hi) ∨ (lk = -1 ∧ hi ≠ 10000) ∨ (lk ≠ -1 ∧ hi = 10000) ∨ lk < -1 ∨ lk = 0 ∨ 63 < lk ∨ ks.length ≠ vs.length
  · have hno : rightB ⟨lv, lk, hi, ks, vs⟩ = false := by
      rcases h with h | h
      · exact rr_no1 _ _ _ _ _ h
      · exact rr_no2 _ _ _ _ _ h
    rw [hno]
    exact refRight_no lv lk hi ak av ck cv _ _ w h
  · have h4 : vs.length = ks.length := by omega
    rw [h4] at hv ⊢
    by_cases h0 : lv = 0
    · exact refRight_leaf lv lk hi ks vs ak av ck cv ks.length w rfl h4 hk hv hkl h0 (by omega) (by omega) (by omega)
    · exact refRight_inner lv lk hi ks vs ak av ck cv ks.length w rfl h4 hk hv hkl h0 (by omega) (by omega) (by omega) (by omega) (by omega)

theorem below_drewN (w : World) (k : Nat) : Below w.heap.size w (w.drewN k) := ⟨rfl, rfl, rfl, Nat.le_refl _, fun _ _ => rfl⟩

theorem decimal_int (n : Int) (w : World) (h0 : 0 ≤ n) (hn : n ≤ 9999) :
    Calls Tryd.prog 45 #[.int .i64 n] w fun e w' => ∃ b, e = .returned (.string b) ∧ b.data.toList = dg 4 n.toNat ∧ b.size = 4 ∧ Below w.heap.size w w' := by
  obtain ⟨k, rfl⟩ := Int.eq_ofNat_of_zero_le h0
  refine (decimal_any k w (by omega)).mono ?_
  rintro e w' ⟨rfl, j, rfl⟩
  refine ⟨_, rfl, by simp, ?_, below_drewN _ _⟩
  have := ba_size ⟨(dg 4 k).toArray⟩
  rw [ba_mk, len_dg] at this
  exact this.symm

theorem dg1_of4 (n : Nat) : (dg 4 n).drop 3 = dg 1 n := by rw [dg4]; rfl
theorem dg2_of4 (n : Nat) : (dg 4 n).drop 2 = dg 2 n := by rw [dg4]; rfl
theorem seg_rest (s : List UInt8) (i j : Nat) (h : s.length ≤ j) : seg s i (j - i) = s.drop i := by
  unfold seg; exact List.take_of_length_le (by simp; omega)
end Go.Proofs.YtajobgmnmbnhiaaDoor.Sap
