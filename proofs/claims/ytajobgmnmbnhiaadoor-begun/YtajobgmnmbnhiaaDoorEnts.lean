/- WHAT IS PROVED HERE: plain facts on a text's entries behind its head (their digits, their numbers). Conditions: none. -/
import Derived.Test.YtajobgmnmbnhiaaDoorMath
namespace Go.Proofs.YtajobgmnmbnhiaaDoor.Sap

def kAt (lv : Int) (s : List UInt8) (i : Nat) : Int := wth (seg s (7 + i * wd lv) 4)
def vAt (lv : Int) (s : List UInt8) (i : Nat) : Int := wth (seg s (7 + i * wd lv + 4) (vw lv))
def digAt (lv : Int) (s : List UInt8) (i : Nat) : Bool := allDig (seg s (7 + i * wd lv) 4) && allDig (seg s (7 + i * wd lv + 4) (vw lv))
def kL (lv : Int) (s : List UInt8) (j : Nat) : List Int := (List.range j).map (kAt lv s)
def vL (lv : Int) (s : List UInt8) (j : Nat) : List Int := (List.range j).map (vAt lv s)
/-- The text behind the head is whole entries of digits. -/
def entOk (lv : Int) (s : List UInt8) : Prop := ∃ j, 7 + j * wd lv = s.length ∧ ∀ i, i < j → digAt lv s i = true

theorem len_kL (lv : Int) (s : List UInt8) (j : Nat) : (kL lv s j).length = j := by simp [kL]
theorem len_vL (lv : Int) (s : List UInt8) (j : Nat) : (vL lv s j).length = j := by simp [vL]
theorem kL_succ (lv : Int) (s : List UInt8) (j : Nat) : kL lv s (j + 1) = kL lv s j ++ [kAt lv s j] := by simp [kL, List.range_succ]
theorem vL_succ (lv : Int) (s : List UInt8) (j : Nat) : vL lv s (j + 1) = vL lv s j ++ [vAt lv s j] := by simp [vL, List.range_succ]
theorem wd_pos (lv : Int) : 6 ≤ wd lv ∧ wd lv ≤ 8 ∧ wd lv = 4 + vw lv := by
  unfold wd vw; split <;> decide

theorem ent_no (lv : Int) (s : List UInt8) (j : Nat) (h : 7 + j * wd lv + wd lv ≤ s.length) (hd : digAt lv s j = false) : ¬ entOk lv s := by
  rintro ⟨J, h1, h2⟩
  have hw := (wd_pos lv).1
  have h3 : j < J := by
    rcases Nat.lt_or_ge j J with h' | h'
    · exact h'
    · have := Nat.mul_le_mul_right (wd lv) h'; omega
  rw [h2 j h3] at hd; cases hd
theorem ent_no2 (lv : Int) (s : List UInt8) (j : Nat) (h1 : 7 + j * wd lv ≤ s.length) (h2 : s.length < 7 + j * wd lv + wd lv) (h3 : 7 + j * wd lv ≠ s.length) : ¬ entOk lv s := by
  rintro ⟨J, e, -⟩
  have hw := (wd_pos lv).1
  rcases Nat.lt_trichotomy j J with h' | h' | h'
  · have := Nat.mul_le_mul_right (wd lv) (show j + 1 ≤ J from h')
    rw [Nat.add_mul] at this; omega
  · subst h'; omega
  · have := Nat.mul_le_mul_right (wd lv) (show J + 1 ≤ j from h')
    rw [Nat.add_mul] at this; omega

theorem ext_seg (s : ByteArray) (p n : Nat) : (s.extract p (p + n)).data.toList = seg s.data.toList p n := by
  rw [ba_extract, Nat.add_sub_cancel_left]
theorem ext_seg2 (s : ByteArray) (p n v : Nat) (h : n = 4 + v) : (s.extract (p + 4) (p + n)).data.toList = seg s.data.toList (p + 4) v := by
  rw [ba_extract]; congr 1; omega
end Go.Proofs.YtajobgmnmbnhiaaDoor.Sap
