/- WHAT IS PROVED HERE: plain facts on the texts of frames: numbers with a comma behind each, lists with their length ahead (no program). Conditions: none but those named at each theorem. -/
import Derived.Test.YtajobgmnmbnhiaaGreatDoorXW3W4
import Derived.Test.YtajobgmnmbnhiaaGreatDoorXW5Mem
import Derived.Lib.ItoaLen
namespace Go.Proofs.YtajobgmnmbnhiaaGreatDoor.Sap
open Go.RowKit

/-- What an operation knows between two accesses. -/
structure St where
  kd : Int
  key : Int
  val : Int
  step : Int
  pg : Int
  keys : List Int
  vals : List Int
  bel : List Int
  pts : List Int
  sw : ByteArray
  ver : Int
  sp : List Int
  sv : List Int
  laid : Int
  lv : Int
  low : Int
  ch : Int
  pt : Int

def nb (n : Int) : List UInt8 := Lib.itoa n ++ [44]
def nbs (xs : List Int) : List UInt8 := (xs.map nb).flatten
def lst (xs : List Int) : List UInt8 := nb xs.length ++ nbs xs
def frT (s : St) : List UInt8 := nb s.kd ++ (nb s.key ++ (nb s.val ++ (nb s.step ++ (nb s.pg ++ (lst s.keys ++ (lst s.vals ++ (lst s.bel ++ (lst s.pts ++ (nb s.ver ++ (lst s.sp ++ (lst s.sv ++ (nb s.laid ++ (nb s.lv ++ (nb s.low ++ (nb s.ch ++ (nb s.pt ++ (nb (s.sw.size : Int) ++ (s.sw.data.toList))))))))))))))))))
def I64 (n : Int) : Prop := -9223372036854775808 ≤ n ∧ n ≤ 9223372036854775807

theorem nb_len (n : Int) (h : I64 n) : (nb n).length ≤ 22 := by
  have := Lib.itoa_length_le n h.1 h.2
  simp [nb]; omega
theorem nbs_snoc (xs : List Int) (k : Nat) (hk : k < xs.length) : nbs (xs.take (k + 1)) = nbs (xs.take k) ++ nb (xs[k]?.getD 0) := by
  unfold nbs
  rw [List.take_add_one, List.getElem?_eq_getElem hk, Option.toList_some, List.map_append, List.flatten_append]
  simp
theorem nbs_len (xs : List Int) (h : ∀ x ∈ xs, I64 x) : (nbs xs).length ≤ 22 * xs.length := by
  induction xs with
  | nil => simp [nbs]
  | cons x r ih =>
    have h1 := nb_len x (h x (by simp))
    have h2 := ih (fun y hy => h y (by simp [hy]))
    unfold nbs at h2 ⊢
    simp only [List.map_cons, List.flatten_cons, List.length_append, List.length_cons]
    omega
theorem lst_len (xs : List Int) (h : ∀ x ∈ xs, I64 x) (hl : xs.length ≤ 1000000) : (lst xs).length ≤ 22 * xs.length + 22 := by
  have h1 := nb_len xs.length (by unfold I64; omega)
  have h2 := nbs_len xs h
  unfold lst
  rw [List.length_append]
  omega

/-- An operation that is right. -/
def opR (k key v : Int) : Bool := decide (1 ≤ key) && decide (key ≤ 9999) && (decide (k = 1) || decide (k = 3) || (decide (k = 2) && decide (0 ≤ v) && decide (v ≤ 9999)) || (decide (k = 4) && decide (key ≤ v) && decide (v ≤ 9999)))
theorem opR_hi (k key v : Int) (h : 9999 < key) : Hid (opR k key v = false) := by
  have : decide (key ≤ 9999) = false := by simp; omega
  unfold Hid opR; rw [this]; simp
theorem opR_lo (k key v : Int) (h : key < 1) : Hid (opR k key v = false) := by
  have : decide (1 ≤ key) = false := by simp; omega
  unfold Hid opR; rw [this]; simp
end Go.Proofs.YtajobgmnmbnhiaaGreatDoor.Sap

/- WHAT IS PROVED HERE: what tree.First, tree.rightOp, saplingref.OpRight, tree.addNumber, tree.addList, tree.frameText and tree.Begin answer. Conditions: named at each theorem. -/
namespace Go.Proofs.YtajobgmnmbnhiaaGreatDoor.Sap
open Go.RowKit

theorem first_any (w : World) : Calls Tryz.prog 7 #[] w fun e w' => e = .returned (.string ⟨#[48, 45, 45, 45, 45, 45, 45]⟩) ∧ w' = w := by
  go_enter Tryz.func7, Tryz.ntmps7
  go_wp2
  go_ret
  exact ⟨rfl, rfl⟩

set_option maxRecDepth 100000 in
set_option maxHeartbeats 800000 in
theorem rightOp_any (k key v : Int) (w : World) :
    Calls Tryz.prog 40 #[.agg #[.int .i64 k, .int .i64 key, .int .i64 v]] w fun e w' => e = .returned (.bool (opR k key v)) ∧ Below w.heap.size w w' := by
  have hb : Below w.heap.size w (w.alloc (.cells #[.int .i64 k, .int .i64 key, .int .i64 v] 36)) := (Below.refl _ _).alloc (Nat.le_refl _) _
  by_cases h1 : 1 ≤ key
  · by_cases h2 : key ≤ 9999
    · by_cases k1 : k = 1
      · subst k1
        go_enter Tryz.func40, Tryz.ntmps40
        go_wp2
        go_ret
        refine ⟨ret_bool ?_, hb⟩
        simp [opR, h1, h2]
      by_cases k3 : k = 3
      · subst k3
        go_enter Tryz.func40, Tryz.ntmps40
        go_wp2
        go_ret
        refine ⟨ret_bool ?_, hb⟩
        simp [opR, h1, h2]
      by_cases k2 : k = 2
      · subst k2
        go_enter Tryz.func40, Tryz.ntmps40
        go_wp2
        all_goals go_ret
        all_goals refine ⟨ret_bool ?_, hb⟩
        all_goals (rw [Bool.eq_iff_iff]; simp [opR, h1, h2]; try omega)
      by_cases k4 : k = 4
      · subst k4
        go_enter Tryz.func40, Tryz.ntmps40
        go_wp2
        all_goals go_ret
        all_goals refine ⟨ret_bool ?_, hb⟩
        all_goals (rw [Bool.eq_iff_iff]; simp [opR, h1, h2]; try omega)
      have b1 : (k == 1) = false := by simp [k1]
      have b2 : (k == 2) = false := by simp [k2]
      have b3 : (k == 3) = false := by simp [k3]
      have b4 : (k == 4) = false := by simp [k4]
      go_enter Tryz.func40, Tryz.ntmps40
      go_wp2
      go_ret
      refine ⟨ret_bool ?_, hb⟩
      simp [opR, k1, k2, k3, k4]
    · have HN := opR_hi k key v (by omega)
      go_enter Tryz.func40, Tryz.ntmps40
      go_wp2
      go_ret
      exact ⟨ret_bool HN.out.symm, hb⟩
  · have HN := opR_lo k key v (by omega)
    go_enter Tryz.func40, Tryz.ntmps40
    go_wp2
    go_ret
    exact ⟨ret_bool HN.out.symm, hb⟩

/-- A text that was made: what it reads, and how long it may be. -/
def Txt (e : Ending) (t : List UInt8) : Prop := ∃ c : ByteArray, e = .returned (.string c) ∧ c.data.toList = t

set_option maxRecDepth 100000 in
set_option maxHeartbeats 800000 in
theorem addNumber_any (b : ByteArray) (n : Int) (w : World) (htab : Tab w) (hb : b.size ≤ 100000) (hn : I64 n) :
    Calls Tryz.prog 57 #[.string b, .int .i64 n] w fun e w' => Txt e (b.data.toList ++ nb n) ∧ Below w.heap.size w w' := by
  have hl := Lib.itoa_length_le n hn.1 hn.2
  go_enter Tryz.func57, Tryz.ntmps57
  go_wp2_with (go_at_call 56; refine (Tryz.strconv_Itoa n hn.1 hn.2 _ htab).mono ?_; rintro e w1 ⟨rfl, kk, os, hw⟩; have hbel := hw ▸ Lib.below_grow w.heap.size w (Nat.le_refl _) kk os; clear hw; obtain ⟨b0, hb0⟩ : ∃ b0, b0 = (ByteArray.mk (Lib.itoa n).toArray) := ⟨_, rfl⟩; rw [← hb0]; have HB0 : Hid (b0.data.toList = Lib.itoa n) := (by unfold Hid; rw [hb0]); have hs0 : b0.size ≤ 21 := (by rw [← ba_size, HB0.out]; exact hl); clear hb0)
  all_goals go_ret
  all_goals refine ⟨⟨_, rfl, ?_⟩, hbel⟩
  all_goals (rw [ba_append, ba_append, HB0.out]; unfold nb; simp)
end Go.Proofs.YtajobgmnmbnhiaaGreatDoor.Sap
