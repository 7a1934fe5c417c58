/- WHAT IS PROVED HERE: what the small functions of packages page and saplingref answer (rightPage, rightEnd, rightCount, valWidth, number, numberOr, worth). Conditions: the numbers' ranges and the texts' lengths that each theorem names. -/
import Derived.Test.YtajobgmnmbnhiaaGreatDoorPt03
import Derived.Test.YtajobgmnmbnhiaaGreatDoorChecked
import Derived.WalkKit
import Derived.WalkSpells
import Derived.WalkLawsBesides
namespace Go.Proofs.YtajobgmnmbnhiaaGreatDoor.Sap
open Go.RowKit
theorem ret_bool {a b : Bool} (h : a = b) : Ending.returned (.bool a) = .returned (.bool b) := by rw [h]
theorem ret_int {k : IntKind} {a b : Int} (h : a = b) : Ending.returned (.int k a) = .returned (.int k b) := by rw [h]
set_option maxHeartbeats 400000 in
theorem rightPage_any (p : Int) (w : World) :
    Calls Tryz.prog 75 #[.int .i64 p] w fun e w' => e = .returned (.bool (pageOk p)) ∧ w' = w := by
  go_enter Tryz.func75, Tryz.ntmps75
  go_wp2
  all_goals go_ret
  all_goals refine ⟨ret_bool ?_, rfl⟩
  all_goals (rw [Bool.eq_iff_iff]; simp [pageOk]; omega)
set_option maxHeartbeats 400000 in
theorem valWidth_any (lv : Int) (w : World) :
    Calls Tryz.prog 38 #[.int .i64 lv] w fun e w' => e = .returned (.int .i64 (vw lv)) ∧ w' = w := by
  by_cases h : lv = 0
  · subst h
    go_enter Tryz.func38, Tryz.ntmps38
    go_wp2
    go_ret
    exact ⟨rfl, rfl⟩
  · have h2 : vw lv = 2 := by simp [vw, h]
    have h3 : (lv == 0) = false := by simp [h]
    go_enter Tryz.func38, Tryz.ntmps38
    go_wp2
    go_ret
    exact ⟨by simp [h2], rfl⟩
set_option maxHeartbeats 400000 in
theorem rightCount_any (lv n : Int) (w : World) :
    Calls Tryz.prog 53 #[.int .i64 lv, .int .i64 n] w fun e w' => e = .returned (.bool (cntOk lv n)) ∧ w' = w := by
  by_cases h : lv = 0
  · subst h
    go_enter Tryz.func53, Tryz.ntmps53
    go_wp2
    all_goals go_ret
    all_goals refine ⟨ret_bool ?_, rfl⟩
    all_goals (rw [Bool.eq_iff_iff]; simp [cntOk])
  · have h3 : (lv == 0) = false := by simp [h]
    go_enter Tryz.func53, Tryz.ntmps53
    go_wp2
    all_goals go_ret
    all_goals refine ⟨ret_bool ?_, rfl⟩
    all_goals (rw [Bool.eq_iff_iff]; simp [cntOk, h]; try omega)
set_option maxHeartbeats 400000 in
theorem rightEnd_any (lk hi : Int) (w : World) :
    Calls Tryz.prog 52 #[.int .i64 lk, .int .i64 hi] w fun e w' => e = .returned (.bool (endOk lk hi)) ∧ w' = w := by
  by_cases h : hi = 10000
  · have h3 : (hi == 10000) = true := by simp [h]
    go_enter Tryz.func52, Tryz.ntmps52
    go_wp2
    all_goals go_ret
    all_goals refine ⟨ret_bool ?_, rfl⟩
    all_goals (simp [endOk, h]; try rfl)
  · have h3 : (hi == 10000) = false := by simp [h]
    by_cases h1 : 1 ≤ hi
    · by_cases h2 : hi < 10000
      · go_enter Tryz.func52, Tryz.ntmps52
        go_wp2_with (go_at_call 75; refine (rightPage_any _ _).mono ?_; rintro e w' ⟨rfl, rfl⟩)
        all_goals go_ret
        all_goals refine ⟨ret_bool ?_, rfl⟩
        all_goals (simp [endOk, h, h1, h2])
      · go_enter Tryz.func52, Tryz.ntmps52
        go_wp2
        all_goals go_ret
        all_goals refine ⟨ret_bool ?_, rfl⟩
        all_goals (simp [endOk, h]; omega)
    · go_enter Tryz.func52, Tryz.ntmps52
      go_wp2
      all_goals go_ret
      all_goals refine ⟨ret_bool ?_, rfl⟩
      all_goals (simp [endOk, h]; omega)
theorem take_snoc (s : ByteArray) (k : Nat) (h : k < s.size) : s.data.toList.take (k + 1) = s.data.toList.take k ++ [s[k]] := by
  rw [List.take_succ_eq_append_getElem (by simpa using h)]; rfl
theorem wth_snoc (l : List UInt8) (c : UInt8) : wth (l ++ [c]) = 10 * wth l + c.toNat % 16 % 10 := by
  unfold wth; rw [wthFrom_append]; rfl
theorem allDig_snoc (l : List UInt8) (c : UInt8) : allDig (l ++ [c]) = (allDig l && isDig c) := by
  rw [allDig_append]; simp [allDig]
theorem wth_bd (l : List UInt8) (h : l.length ≤ 4) : wth l < 10000 := by
  have h1 := wth_lt l
  have h2 : 10 ^ l.length ≤ 10 ^ 4 := Nat.pow_le_pow_right (by decide) h
  omega
theorem dig_of (c : UInt8) (h1 : 48 ≤ c.toNat) (h2 : c.toNat ≤ 57) : isDig c = true := by simp [isDig, h1, h2]
theorem dig_not (c : UInt8) (h : c.toNat < 48 ∨ 57 < c.toNat) : isDig c = false := by
  simp [isDig]; omega
theorem allDig_take_false (s : List UInt8) (k : Nat) (h : allDig (s.take k) = false) : allDig s = false := by
  have e := allDig_append (s.take k) (s.drop k)
  rw [List.take_append_drop] at e
  rw [e, h]; rfl
def numV (s : List UInt8) : Int := if allDig s then (wth s : Int) else 0
set_option maxRecDepth 100000 in
set_option maxHeartbeats 800000 in
theorem number_any (s : ByteArray) (w : World) (hs : s.size ≤ 4) :
    Calls Tryz.prog 73 #[.string s] w fun e w' => e = .returned (.tuple #[.int .i64 (numV s.data.toList), .bool (allDig s.data.toList)]) ∧ w' = w := by
  go_enter Tryz.func73, Tryz.ntmps73
  go_wp2
  go_loop [4, 5] (fun n i => ∃ k : Nat, k ≤ s.size ∧ i = .int .i64 k ∧ n = .int .i64 (wth (s.data.toList.take k)) ∧ Hid (allDig (s.data.toList.take k) = true)) (fun _ i => s.size - (intOf i).toNat)
  case atStart => exact ⟨0, Nat.zero_le _, rfl, rfl, rfl⟩
  case round =>
    obtain ⟨k, hk, rfl, rfl, hal⟩ := hrel
    have hl : (s.data.toList.take k).length ≤ 4 := Nat.le_trans (List.length_take_le _ _) (by omega)
    have hd := wth_bd _ hl
    clear hl
    by_cases hlt : k < s.size
    · have hts := take_snoc s k hlt
      have HS : Hid (wth (s.data.toList.take (k + 1)) = 10 * wth (s.data.toList.take k) + s[k].toNat % 16 % 10) := by rw [hts]; exact wth_snoc _ _
      have HA : Hid (allDig (s.data.toList.take (k + 1)) = (allDig (s.data.toList.take k) && isDig s[k])) := by rw [hts]; exact allDig_snoc _ _
      clear hts
      have hb : (s[k].toNat : Int) < 256 := by have := UInt8.toNat_lt s[k]; omega
      have hb0 : (0 : Int) ≤ (s[k].toNat : Int) := by omega
      by_cases hD : 48 ≤ (s[k].toNat : Int) ∧ (s[k].toNat : Int) ≤ 57
      · obtain ⟨hD1, hD2⟩ := hD
        go_wp2
        all_goals
          go_round
          case rel => exact ⟨k + 1, by omega, by go_num, by rw [HS.out]; go_num, by unfold Hid; rw [HA.out, hal.out, dig_of _ (by omega) (by omega)]; rfl⟩
          case measure => simp [intOf]; omega
      · have HF : Hid (allDig s.data.toList = false) := allDig_take_false _ (k + 1) (by rw [HA.out, hal.out, dig_not _ (by omega)]; rfl)
        have HD : Hid (¬(48 ≤ (s[k].toNat : Int) ∧ (s[k].toNat : Int) ≤ 57)) := hD
        clear hD
        by_cases hD1 : (s[k].toNat : Int) < 48
        · go_wp2
          all_goals go_ret2
          all_goals exact ⟨by simp [numV, HF.out], rfl⟩
        · have hD2 : (57 : Int) < (s[k].toNat : Int) := by have := HD.out; omega
          go_wp2
          all_goals go_ret2
          all_goals exact ⟨by simp [numV, HF.out], rfl⟩
    · have hall : s.data.toList.take k = s.data.toList := List.take_of_length_le (by simp; omega)
      rw [hall] at hal ⊢
      clear hall
      go_wp2
      go_ret2
      exact ⟨by simp [numV, hal.out], rfl⟩
def numOr (s none : List UInt8) (m : Int) : Int := if s = none then m else numV s
def digOr (s none : List UInt8) : Bool := if s = none then true else allDig s
set_option maxHeartbeats 400000 in
theorem numberOr_any (s t : ByteArray) (m : Int) (w : World) (hs : s.size ≤ 4) :
    Calls Tryz.prog 74 #[.string s, .string t, .int .i64 m] w fun e w' => e = .returned (.tuple #[.int .i64 (numOr s.data.toList t.data.toList m), .bool (digOr s.data.toList t.data.toList)]) ∧ w' = w := by
  by_cases h : s.data.toList = t.data.toList
  · have h2 : (s.toList == t.toList) = true := by rw [ByteArray.toList_eq, ByteArray.toList_eq, h]; simp
    go_enter Tryz.func74, Tryz.ntmps74
    go_wp2
    go_ret2
    exact ⟨by simp [numOr, digOr, h], rfl⟩
  · have h2 : (s.toList == t.toList) = false := by rw [ByteArray.toList_eq, ByteArray.toList_eq]; exact beq_eq_false_iff_ne.2 h
    go_enter Tryz.func74, Tryz.ntmps74
    go_wp2_with (go_at_call 73; refine (number_any _ _ hs).mono ?_; rintro e w' ⟨rfl, rfl⟩)
    go_ret2
    exact ⟨by simp [numOr, digOr, h], rfl⟩
end Go.Proofs.YtajobgmnmbnhiaaGreatDoor.Sap
