/- WHAT IS PROVED HERE: page.readHead reads a text's first seven bytes. Conditions: none but the text's length within what memory bears. -/
import Derived.Test.YtajobgmnmbnhiaaDoorW5
namespace Go.Proofs.YtajobgmnmbnhiaaDoor.Sap
open Go.RowKit

def hLv (s : List UInt8) : Int := numV (seg s 0 1)
def hLk (s : List UInt8) : Int := numOr (seg s 1 2) [45, 45] (-1)
def hHi (s : List UInt8) : Int := numOr (seg s 3 4) [45, 45, 45, 45] 10000
def headOk (s : List UInt8) : Bool := decide (7 ≤ s.length) && (allDig (seg s 0 1) && (digOr (seg s 1 2) [45, 45] && digOr (seg s 3 4) [45, 45, 45, 45]))

theorem seg_size (s : ByteArray) (i j : Nat) (h : j - i ≤ 4) : (s.extract i j).size ≤ 4 := by
  rw [ByteArray.size_extract]; omega

set_option maxRecDepth 100000 in
set_option maxHeartbeats 800000 in
theorem readHead_any (s : ByteArray) (w : World) (hs : s.size ≤ 47) :
    Calls Tryd.prog 46 #[.string s] w fun e w' => (headOk s.data.toList = true ∧ e = .returned (.tuple #[.agg #[.int .i64 (hLv s.data.toList), .int .i64 (hLk s.data.toList), .int .i64 (hHi s.data.toList), .slice none 0 0, .slice none 0 0], .bool true]) ∨ headOk s.data.toList = false ∧ e = .returned (.tuple #[.agg #[.int .i64 0, .int .i64 0, .int .i64 0, .slice none 0 0, .slice none 0 0], .bool false])) ∧ Below w.heap.size w w' := by
  by_cases hlen : s.size < 7
  · have hno : Hid (headOk s.data.toList = false) := by unfold Hid headOk; rw [ba_size, decide_eq_false (by omega)]; rfl
    go_enter Tryd.func46, Tryd.ntmps46
    go_wp2
    refine bodyPost_ret (v := .tuple #[.agg #[.int .i64 0, .int .i64 0, .int .i64 0, .slice none 0 0, .slice none 0 0], .bool false]) (by simp [results, Tryd.results46, go_sem]) rfl ⟨Or.inr ⟨hno.out, rfl⟩, ?_⟩
    exact (Below.refl _ _).alloc (Nat.le_refl _) _
  · have HL : Hid (7 ≤ s.size) := by unfold Hid; omega
    obtain ⟨v1, hv1⟩ : ∃ v, numV (s.extract 0 1).data.toList = v := ⟨_, rfl⟩
    obtain ⟨v2, hv2⟩ : ∃ v, numOr (s.extract 1 3).data.toList [45, 45] (-1) = v := ⟨_, rfl⟩
    obtain ⟨v3, hv3⟩ : ∃ v, numOr (s.extract 3 7).data.toList [45, 45, 45, 45] 10000 = v := ⟨_, rfl⟩
    obtain ⟨o1, ho1⟩ : ∃ v, allDig (s.extract 0 1).data.toList = v := ⟨_, rfl⟩
    obtain ⟨o2, ho2⟩ : ∃ v, digOr (s.extract 1 3).data.toList [45, 45] = v := ⟨_, rfl⟩
    obtain ⟨o3, ho3⟩ : ∃ v, digOr (s.extract 3 7).data.toList [45, 45, 45, 45] = v := ⟨_, rfl⟩
    have c1 := number_any (s.extract 0 1) (w.alloc (.cells #[.int .i64 0, .int .i64 0, .int .i64 0, .slice none 0 0, .slice none 0 0] 24)) (seg_size s 0 1 (by decide))
    have c2 := numberOr_any (s.extract 1 3) ⟨#[45, 45]⟩ (-1) (w.alloc (.cells #[.int .i64 0, .int .i64 0, .int .i64 0, .slice none 0 0, .slice none 0 0] 24)) (seg_size s 1 3 (by decide))
    have c3 := numberOr_any (s.extract 3 7) ⟨#[45, 45, 45, 45]⟩ 10000 (w.alloc (.cells #[.int .i64 0, .int .i64 0, .int .i64 0, .slice none 0 0, .slice none 0 0] 24)) (seg_size s 3 7 (by decide))
    rw [hv1, ho1] at c1
    rw [show (ByteArray.mk #[45, 45]).data.toList = [45, 45] from rfl, hv2, ho2] at c2
    rw [show (ByteArray.mk #[45, 45, 45, 45]).data.toList = [45, 45, 45, 45] from rfl, hv3, ho3] at c3
    rw [ba_extract] at hv1 hv2 hv3 ho1 ho2 ho3
    have HV1 : Hid (hLv s.data.toList = v1) := hv1
    have HV2 : Hid (hLk s.data.toList = v2) := hv2
    have HV3 : Hid (hHi s.data.toList = v3) := hv3
    have HO : Hid (headOk s.data.toList = (o1 && (o2 && o3))) := by
      unfold Hid headOk; rw [← ho1, ← ho2, ← ho3, ba_size, decide_eq_true HL.out]; rfl
    have C1 := hideIt c1
    have C2 := hideIt c2
    have C3 := hideIt c3
    clear c1 c2 c3 hv1 hv2 hv3 ho1 ho2 ho3
    cases o1
    · go_enter Tryd.func46, Tryd.ntmps46
      go_wp2_with fail
      refine C1.out.mono ?_
      rintro e w1 ⟨rfl, rfl⟩
      go_wp2_with fail
      refine C2.out.mono ?_
      rintro e w1 ⟨rfl, rfl⟩
      go_wp2_with fail
      refine C3.out.mono ?_
      rintro e w1 ⟨rfl, rfl⟩
      go_wp2
      refine bodyPost_ret (v := .tuple #[.agg #[.int .i64 0, .int .i64 0, .int .i64 0, .slice none 0 0, .slice none 0 0], .bool false]) (by simp [results, Tryd.results46, go_sem]) rfl ⟨Or.inr ⟨HO.out, rfl⟩, ?_⟩
      exact (Below.refl _ _).alloc (Nat.le_refl _) _
    cases o2
    · go_enter Tryd.func46, Tryd.ntmps46
      go_wp2_with fail
      refine C1.out.mono ?_
      rintro e w1 ⟨rfl, rfl⟩
      go_wp2_with fail
      refine C2.out.mono ?_
      rintro e w1 ⟨rfl, rfl⟩
      go_wp2_with fail
      refine C3.out.mono ?_
      rintro e w1 ⟨rfl, rfl⟩
      go_wp2
      refine bodyPost_ret (v := .tuple #[.agg #[.int .i64 0, .int .i64 0, .int .i64 0, .slice none 0 0, .slice none 0 0], .bool false]) (by simp [results, Tryd.results46, go_sem]) rfl ⟨Or.inr ⟨HO.out, rfl⟩, ?_⟩
      exact (Below.refl _ _).alloc (Nat.le_refl _) _
    cases o3
    · go_enter Tryd.func46, Tryd.ntmps46
      go_wp2_with fail
      refine C1.out.mono ?_
      rintro e w1 ⟨rfl, rfl⟩
      go_wp2_with fail
      refine C2.out.mono ?_
      rintro e w1 ⟨rfl, rfl⟩
      go_wp2_with fail
      refine C3.out.mono ?_
      rintro e w1 ⟨rfl, rfl⟩
      go_wp2
      refine bodyPost_ret (v := .tuple #[.agg #[.int .i64 0, .int .i64 0, .int .i64 0, .slice none 0 0, .slice none 0 0], .bool false]) (by simp [results, Tryd.results46, go_sem]) rfl ⟨Or.inr ⟨HO.out, rfl⟩, ?_⟩
      exact (Below.refl _ _).alloc (Nat.le_refl _) _
    · go_enter Tryd.func46, Tryd.ntmps46
      go_wp2_with fail
      refine C1.out.mono ?_
      rintro e w1 ⟨rfl, rfl⟩
      go_wp2_with fail
      refine C2.out.mono ?_
      rintro e w1 ⟨rfl, rfl⟩
      go_wp2_with fail
      refine C3.out.mono ?_
      rintro e w1 ⟨rfl, rfl⟩
      go_wp2
      refine bodyPost_ret (v := .tuple #[.agg #[.int .i64 v1, .int .i64 v2, .int .i64 v3, .slice none 0 0, .slice none 0 0], .bool true]) (by simp [results, Tryd.results46, go_sem]) rfl ⟨Or.inl ⟨HO.out, by rw [HV1.out, HV2.out, HV3.out]⟩, ?_⟩
      exact (Below.refl _ _).alloc (Nat.le_refl _) _
end Go.Proofs.YtajobgmnmbnhiaaDoor.Sap
