/- WHAT IS PROVED HERE: what tree.First, tree.rightOp, saplingref.OpRight, tree.addNumber, tree.addList, tree.frameText and tree.Begin answer. Conditions: named at each theorem. -/
import Derived.Test.YtajobgmnmbnhiaaDoorT0
import Derived.Test.YtajobgmnmbnhiaaDoorW5
namespace Go.Proofs.YtajobgmnmbnhiaaDoor.Sap
open Go.RowKit

theorem first_any (w : World) : Calls Tryd.prog 20 #[] w fun e w' => e = .returned (.string ⟨#[48, 45, 45, 45, 45, 45, 45]⟩) ∧ w' = w := by
  go_enter Tryd.func20, Tryd.ntmps20
  go_wp2
  go_ret
  exact ⟨rfl, rfl⟩

set_option maxRecDepth 100000 in
set_option maxHeartbeats 800000 in
theorem rightOp_any (k key v : Int) (w : World) :
    Calls Tryd.prog 49 #[.agg #[.int .i64 k, .int .i64 key, .int .i64 v]] w fun e w' => e = .returned (.bool (opR k key v)) ∧ Below w.heap.size w w' := by
  have hb : Below w.heap.size w (w.alloc (.cells #[.int .i64 k, .int .i64 key, .int .i64 v] 37)) := (Below.refl _ _).alloc (Nat.le_refl _) _
  by_cases h1 : 1 ≤ key
  · by_cases h2 : key ≤ 9999
    · by_cases k1 : k = 1
      · subst k1
        go_enter Tryd.func49, Tryd.ntmps49
        go_wp2
        go_ret
        refine ⟨ret_bool ?_, hb⟩
        simp [opR, h1, h2]
      by_cases k3 : k = 3
      · subst k3
        go_enter Tryd.func49, Tryd.ntmps49
        go_wp2
        go_ret
        refine ⟨ret_bool ?_, hb⟩
        simp [opR, h1, h2]
      by_cases k2 : k = 2
      · subst k2
        go_enter Tryd.func49, Tryd.ntmps49
        go_wp2
        all_goals go_ret
        all_goals refine ⟨ret_bool ?_, hb⟩
        all_goals (rw [Bool.eq_iff_iff]; simp [opR, h1, h2]; try omega)
      by_cases k4 : k = 4
      · subst k4
        go_enter Tryd.func49, Tryd.ntmps49
        go_wp2
        all_goals go_ret
        all_goals refine ⟨ret_bool ?_, hb⟩
        all_goals (rw [Bool.eq_iff_iff]; simp [opR, h1, h2]; try omega)
      have b1 : (k == 1) = false := by simp [k1]
      have b2 : (k == 2) = false := by simp [k2]
      have b3 : (k == 3) = false := by simp [k3]
      have b4 : (k == 4) = false := by simp [k4]
      go_enter Tryd.func49, Tryd.ntmps49
      go_wp2
      go_ret
      refine ⟨ret_bool ?_, hb⟩
      simp [opR, k1, k2, k3, k4]
    · have HN := opR_hi k key v (by omega)
      go_enter Tryd.func49, Tryd.ntmps49
      go_wp2
      go_ret
      exact ⟨ret_bool HN.out.symm, hb⟩
  · have HN := opR_lo k key v (by omega)
    go_enter Tryd.func49, Tryd.ntmps49
    go_wp2
    go_ret
    exact ⟨ret_bool HN.out.symm, hb⟩

set_option maxRecDepth 100000 in
set_option maxHeartbeats 800000 in
theorem refOpRight_any (k key v : Int) (w : World) :
    Calls Tryd.prog 22 #[.agg #[.int .i64 k, .int .i64 key, .int .i64 v]] w fun e w' => e = .returned (.bool (opR k key v)) ∧ Below w.heap.size w w' := by
  have hb : Below w.heap.size w (w.alloc (.cells #[.int .i64 k, .int .i64 key, .int .i64 v] 37)) := (Below.refl _ _).alloc (Nat.le_refl _) _
  by_cases h1 : 1 ≤ key
  · by_cases h2 : key ≤ 9999
    · by_cases k1 : k = 1
      · subst k1
        go_enter Tryd.func22, Tryd.ntmps22
        go_wp2
        go_ret
        refine ⟨ret_bool ?_, hb⟩
        simp [opR, h1, h2]
      by_cases k3 : k = 3
      · subst k3
        go_enter Tryd.func22, Tryd.ntmps22
        go_wp2
        go_ret
        refine ⟨ret_bool ?_, hb⟩
        simp [opR, h1, h2]
      by_cases k2 : k = 2
      · subst k2
        go_enter Tryd.func22, Tryd.ntmps22
        go_wp2
        all_goals go_ret
        all_goals refine ⟨ret_bool ?_, hb⟩
        all_goals (rw [Bool.eq_iff_iff]; simp [opR, h1, h2]; try omega)
      by_cases k4 : k = 4
      · subst k4
        go_enter Tryd.func22, Tryd.ntmps22
        go_wp2
        all_goals go_ret
        all_goals refine ⟨ret_bool ?_, hb⟩
        all_goals (rw [Bool.eq_iff_iff]; simp [opR, h1, h2]; try omega)
      have b1 : (k == 1) = false := by simp [k1]
      have b2 : (k == 2) = false := by simp [k2]
      have b3 : (k == 3) = false := by simp [k3]
      have b4 : (k == 4) = false := by simp [k4]
      go_enter Tryd.func22, Tryd.ntmps22
      go_wp2
      go_ret
      refine ⟨ret_bool ?_, hb⟩
      simp [opR, k1, k2, k3, k4]
    · have HN := opR_hi k key v (by omega)
      go_enter Tryd.func22, Tryd.ntmps22
      go_wp2
      go_ret
      exact ⟨ret_bool HN.out.symm, hb⟩
  · have HN := opR_lo k key v (by omega)
    go_enter Tryd.func22, Tryd.ntmps22
    go_wp2
    go_ret
    exact ⟨ret_bool HN.out.symm, hb⟩

/-- A text that was made: what it reads, and how long it may be. -/
def Txt (e : Ending) (t : List UInt8) : Prop := ∃ c : ByteArray, e = .returned (.string c) ∧ c.data.toList = t

set_option maxRecDepth 100000 in
set_option maxHeartbeats 800000 in
theorem addNumber_any (b : ByteArray) (n : Int) (w : World) (htab : Tab w) (hb : b.size ≤ 100000) (hn : I64 n) :
    Calls Tryd.prog 70 #[.string b, .int .i64 n] w fun e w' => Txt e (b.data.toList ++ nb n) ∧ Below w.heap.size w w' := by
  have hl := Lib.itoa_length_le n hn.1 hn.2
  go_enter Tryd.func70, Tryd.ntmps70
  go_wp2_with (go_at_call 67; refine (Tryd.strconv_Itoa n hn.1 hn.2 _ htab).mono ?_; rintro e w1 ⟨rfl, kk, os, hw⟩; have hbel := hw ▸ Lib.below_grow w.heap.size w (Nat.le_refl _) kk os; clear hw; obtain ⟨b0, hb0⟩ : ∃ b0, b0 = (ByteArray.mk (Lib.itoa n).toArray) := ⟨_, rfl⟩; rw [← hb0]; have HB0 : Hid (b0.data.toList = Lib.itoa n) := (by unfold Hid; rw [hb0]); have hs0 : b0.size ≤ 21 := (by rw [← ba_size, HB0.out]; exact hl); clear hb0)
  all_goals go_ret
  all_goals refine ⟨⟨_, rfl, ?_⟩, hbel⟩
  all_goals (rw [ba_append, ba_append, HB0.out]; unfold nb; simp)
end Go.Proofs.YtajobgmnmbnhiaaDoor.Sap
