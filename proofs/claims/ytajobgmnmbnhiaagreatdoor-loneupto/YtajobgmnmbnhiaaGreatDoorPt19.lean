/- WHAT IS PROVED HERE: what saplingkeep's table answers (find, value, within), and when an access of an operation took place (point). Conditions: the lists are short; named at each theorem. -/
import Derived.Test.YtajobgmnmbnhiaaGreatDoorPt18
namespace Go.Proofs.YtajobgmnmbnhiaaGreatDoor.Sap
open Go.RowKit
def cntW (K : List Int) (a b : Int) (k : Nat) : Nat := ((K.take k).filter fun x => decide (a ≤ x) && decide (x < b)).length
theorem cntW_succ (K : List Int) (a b : Int) (k : Nat) (h : k < K.length) : cntW K a b (k + 1) = cntW K a b k + if a ≤ K[k]?.getD 0 ∧ K[k]?.getD 0 < b then 1 else 0 := by
  unfold cntW
  rw [List.take_add_one, List.getElem?_eq_getElem h, Option.toList_some, List.filter_append, List.length_append]
  congr 1
  simp only [Option.getD_some]
  by_cases h1 : a ≤ K[k] <;> by_cases h2 : K[k] < b <;> simp [h1, h2]
set_option maxRecDepth 100000 in
set_option maxHeartbeats 1600000 in
theorem within_any (gt : Nat) (tk : Value) (K : List Int) (a b : Int) (w : World) (h0 : w.cell? ⟨gt, 0, none⟩ = some tk) (hK : Rd w tk K) (hl : K.length ≤ 1000000000) :
    Calls Tryz.prog 32 #[.pointer (some ⟨gt, 0, none⟩), .int .i64 a, .int .i64 b] w fun e w' => e = .returned (.int .i64 (cntW K a b K.length)) ∧ w' = w := by
  have HK := hideIt hK
  obtain ⟨ak, ck, rfl⟩ := hK.len
  obtain ⟨m, hm⟩ : ∃ m, K.length = m := ⟨_, rfl⟩
  have HM := hideIt hm
  rw [hm] at HK hl h0 ⊢
  clear hK hm
  go_enter Tryz.func32, Tryz.ntmps32
  go_wp2
  go_loopw [7, 8] (fun n i wr => ∃ k c : Nat, k ≤ m ∧ c ≤ k ∧ i = .int .i64 k ∧ n = .int .i64 c ∧ wr = w ∧ Hid (c = cntW K a b k)) (fun _ i _ => m - (intOf i).toNat)
  case atStart => exact ⟨0, 0, Nat.zero_le _, Nat.zero_le _, rfl, rfl, rfl, by simp [Hid, cntW]⟩
  case round =>
    obtain ⟨k, c, hk, hc, rfl, rfl, rfl, hI⟩ := hrel
    by_cases hlt : k < m
    · obtain ⟨b1, o1, rfl, -, x1⟩ := HK.out.elem k hlt
      have y1 := x1 _ (Below.refl _ _)
      have HS := hideIt (cntW_succ K a b k (by rw [HM.out]; exact hlt))
      obtain ⟨x, hx⟩ : ∃ y, K[k]?.getD 0 = y := ⟨_, rfl⟩
      rw [hx] at y1 HS
      have hkk : (0 : Int) ≤ (k : Int) := by omega
      have hkl : (k : Int) < (m : Int) := by omega
      clear x1 hx
      by_cases h1 : a ≤ x
      · by_cases h2 : x < b
        · rw [if_pos ⟨h1, h2⟩] at HS
          go_wp2
          go_roundw
          case rel => exact ⟨k + 1, c + 1, by omega, by omega, by go_num, by go_num, by trivial, by unfold Hid; rw [HS.out, ← hI.out]⟩
          case measure => simp [intOf]; omega
        · rw [if_neg (fun e => h2 e.2)] at HS
          have h2' : b ≤ x := by omega
          clear h2
          go_wp2
          go_roundw
          case rel => exact ⟨k + 1, c, by omega, by omega, by go_num, rfl, by trivial, by unfold Hid; rw [HS.out, ← hI.out]; rfl⟩
          case measure => simp [intOf]; omega
      · rw [if_neg (fun e => h1 e.1)] at HS
        have h1' : x < a := by omega
        clear h1
        go_wp2
        go_roundw
        case rel => exact ⟨k + 1, c, by omega, by omega, by go_num, rfl, by trivial, by unfold Hid; rw [HS.out, ← hI.out]; rfl⟩
        case measure => simp [intOf]; omega
    · obtain rfl : k = m := by omega
      go_wp2
      go_ret
      exact ⟨by rw [← hI.out]; rfl, rfl⟩
end Go.Proofs.YtajobgmnmbnhiaaGreatDoor.Sap
