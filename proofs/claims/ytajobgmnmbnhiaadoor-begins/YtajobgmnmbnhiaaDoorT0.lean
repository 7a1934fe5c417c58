/- WHAT IS PROVED HERE: plain facts on the texts of frames: numbers with a comma behind each, lists with their length ahead (no program). Conditions: none but those named at each theorem. -/
import Derived.Test.YtajobgmnmbnhiaaDoorW4
import Derived.Lib.ItoaLen
namespace Go.Proofs.YtajobgmnmbnhiaaDoor.Sap
open Go.RowKit

/-- What an operation knows between two accesses. -/
structure St where
  kd : Int
  key : Int
  val : Int
  step : Int
  pg : Int
  keys : List Int
  vals : List Int
  bel : List Int
  pts : List Int
  sw : ByteArray
  ver : Int
  sp : List Int
  sv : List Int
  laid : Int
  lv : Int
  low : Int
  ch : Int
  pt : Int

def nb (n : Int) : List UInt8 := Lib.itoa n ++ [44]
def nbs (xs : List Int) : List UInt8 := (xs.map nb).flatten
def lst (xs : List Int) : List UInt8 := nb xs.length ++ nbs xs
def frT (s : St) : List UInt8 := nb s.kd ++ (nb s.key ++ (nb s.val ++ (nb s.step ++ (nb s.pg ++ (lst s.keys ++ (lst s.vals ++ (lst s.bel ++ (lst s.pts ++ (nb s.ver ++ (lst s.sp ++ (lst s.sv ++ (nb s.laid ++ (nb s.lv ++ (nb s.low ++ (nb s.ch ++ (nb s.pt ++ (nb (s.sw.size : Int) ++ (s.sw.data.toList))))))))))))))))))
def I64 (n : Int) : Prop := -9223372036854775808 ≤ n ∧ n ≤ 9223372036854775807

theorem nb_len (n : Int) (h : I64 n) : (nb n).length ≤ 22 := by
  have := Lib.itoa_length_le n h.1 h.2
  simp [nb]; omega
theorem nbs_snoc (xs : List Int) (k : Nat) (hk : k < xs.length) : nbs (xs.take (k + 1)) = nbs (xs.take k) ++ nb (xs[k]?.getD 0) := by
  unfold nbs
  rw [List.take_add_one, List.getElem?_eq_getElem hk, Option.toList_some, List.map_append, List.flatten_append]
  simp
theorem nbs_len (xs : List Int) (h : ∀ x ∈ xs, I64 x) : (nbs xs).length ≤ 22 * xs.length := by
  induction xs with
  | nil => simp [nbs]
  | cons x r ih =>
    have h1 := nb_len x (h x (by simp))
    have h2 := ih (fun y hy => h y (by simp [hy]))
    unfold nbs at h2 ⊢
    simp only [List.map_cons, List.flatten_cons, List.length_append, List.length_cons]
    omega
theorem lst_len (xs : List Int) (h : ∀ x ∈ xs, I64 x) (hl : xs.length ≤ 1000000) : (lst xs).length ≤ 22 * xs.length + 22 := by
  have h1 := nb_len xs.length (by unfold I64; omega)
  have h2 := nbs_len xs h
  unfold lst
  rw [List.length_append]
  omega

/-- An operation that is right. -/
def opR (k key v : Int) : Bool := decide (1 ≤ key) && decide (key ≤ 9999) && (decide (k = 1) || decide (k = 3) || (decide (k = 2) && decide (0 ≤ v) && decide (v ≤ 9999)) || (decide (k = 4) && decide (key ≤ v) && decide (v ≤ 9999)))
theorem opR_hi (k key v : Int) (h : 9999 < key) : Hid (opR k key v = false) := by
  have : decide (key ≤ 9999) = false := by simp; omega
  unfold Hid opR; rw [this]; simp
theorem opR_lo (k key v : Int) (h : key < 1) : Hid (opR k key v = false) := by
  have : decide (1 ≤ key) = false := by simp; omega
  unfold Hid opR; rw [this]; simp
end Go.Proofs.YtajobgmnmbnhiaaDoor.Sap
