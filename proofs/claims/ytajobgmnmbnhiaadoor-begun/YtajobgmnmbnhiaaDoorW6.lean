/- WHAT IS PROVED HERE: saplingref.Right answers whether a node is right. Conditions: the slices are no longer than memory bears. -/
import Derived.Test.YtajobgmnmbnhiaaDoorW5
namespace Go.Proofs.YtajobgmnmbnhiaaDoor.Sap
open Go.RowKit

theorem rr_no1 (lv lk hi : Int) (ks vs : List Int) (h : lv < 0 ∨ 9 < lv ∨ hi < 1 ∨ 10000 < hi) : rightB ⟨lv, lk, hi, ks, vs⟩ = false := by
  by_cases h' : rightB ⟨lv, lk, hi, ks, vs⟩ = true
  · have := right_bd _ h'; simp only at this; omega
  · simpa using h'
theorem rr_no2 (lv lk hi : Int) (ks vs : List Int) (h : (lk = -1 ∧ hi ≠ 10000) ∨ (lk ≠ -1 ∧ hi = 10000) ∨ lk < -1 ∨ lk = 0 ∨ 63 < lk ∨ ks.length ≠ vs.length) : rightB ⟨lv, lk, hi, ks, vs⟩ = false := by
  by_cases h' : rightB ⟨lv, lk, hi, ks, vs⟩ = true
  · have := right_bd _ h'; simp only at this; omega
  · simpa using h'
theorem rr_no3 (lv lk hi : Int) (ks vs : List Int) (h : cntOk lv ks.length = false) : rightB ⟨lv, lk, hi, ks, vs⟩ = false := by
  simp [rightB, h]
theorem rr_yes (lv lk hi : Int) (ks vs : List Int) (h1 : 0 ≤ lv) (h2 : lv ≤ 9) (h3 : (lk = -1 ∧ hi = 10000) ∨ (1 ≤ lk ∧ lk ≤ 63 ∧ 1 ≤ hi ∧ hi ≤ 9999)) (h4 : ks.length = vs.length) (h5 : cntOk lv ks.length = true) :
    rightB ⟨lv, lk, hi, ks, vs⟩ = (keysOk hi (least lv) ks && valsOk lv vs) := by
  have hE : endOk lk hi = true := by
    unfold endOk
    rcases h3 with ⟨a, b⟩ | ⟨a, b, c, d⟩
    · simp [a, b]
    · rw [if_neg (by omega)]; simp [pageOk]; omega
  unfold rightB
  simp only [hE, h5, decide_eq_true h4, decide_eq_true h1, decide_eq_true h2, Bool.true_and]

/- What a round of the walk through keys and values does. -/
def kvOk (lv hi a : Int) (ks vs : List Int) : Bool := keysOk hi a ks && valsOk lv vs
theorem kv_key (lv hi a x y : Int) (r t : List Int) (h : hi ≤ x ∨ x < a) : kvOk lv hi a (x :: r) (y :: t) = false := by
  unfold kvOk; rw [keysOk_no _ _ _ _ h]; rfl
theorem kv_val (lv hi a x y : Int) (r t : List Int) (h : valOk lv y = false) : kvOk lv hi a (x :: r) (y :: t) = false := by
  unfold kvOk; rw [valsOk_no _ _ _ h]; simp
theorem kv_yes (lv hi a x y : Int) (r t : List Int) (h1 : a ≤ x) (h2 : x < hi) (h3 : valOk lv y = true) : kvOk lv hi a (x :: r) (y :: t) = kvOk lv hi (x + 1) r t := by
  unfold kvOk; rw [keysOk_yes _ _ _ _ h1 h2, valsOk_yes _ _ _ h3]
theorem kv_end (lv hi a : Int) : kvOk lv hi a [] [] = true := rfl

set_option maxRecDepth 100000 in
set_option maxHeartbeats 1600000 in
theorem refRight_no (lv lk hi : Int) (ak av : Option Addr) (ck cv mk mv : Nat) (w : World)
    (h : (lv < 0 ∨ 9 < lv ∨ hi < 1 ∨ 10000 < hi) ∨ (lk = -1 ∧ hi ≠ 10000) ∨ (lk ≠ -1 ∧ hi = 10000) ∨ lk < -1 ∨ lk = 0 ∨ 63 < lk ∨ mk ≠ mv) :
    Calls Tryd.prog 44 #[.agg #[.int .i64 lv, .int .i64 lk, .int .i64 hi, .slice ak mk ck, .slice av mv cv]] w fun e w' => e = .returned (.bool false) ∧ Below w.heap.size w w' := by
  have hfin : ∀ o, Below w.heap.size w (w.alloc o) := fun o => (Below.refl _ _).alloc (Nat.le_refl _) o
  have HF := hideIt hfin
  clear hfin
  by_cases c1 : lv < 0
  · clear h
    go_enter Tryd.func44, Tryd.ntmps44
    go_wp2
    go_ret
    exact ⟨rfl, HF.out _⟩
  by_cases c2 : 9 < lv
  · clear h
    go_enter Tryd.func44, Tryd.ntmps44
    go_wp2
    go_ret
    exact ⟨rfl, HF.out _⟩
  by_cases c3 : hi < 1
  · clear h
    go_enter Tryd.func44, Tryd.ntmps44
    go_wp2
    go_ret
    exact ⟨rfl, HF.out _⟩
  by_cases c4 : 10000 < hi
  · clear h
    go_enter Tryd.func44, Tryd.ntmps44
    go_wp2
    go_ret
    exact ⟨rfl, HF.out _⟩
  have hR : Hid ((lk = -1 ∧ hi ≠ 10000) ∨ (lk ≠ -1 ∧ hi = 10000) ∨ lk < -1 ∨ lk = 0 ∨ 63 < lk ∨ mk ≠ mv) := by unfold Hid; omega
  have hdr : (0 : Int) ≤ lv := by omega
  clear h
  by_cases e1 : lk = -1
  · have b1 : (lk == -1) = true := by simp [e1]
    have e1a : lk ≤ -1 := by omega
    have e1b : -1 ≤ lk := by omega
    by_cases e2 : hi = 10000
    · have b2 : (hi == 10000) = true := by simp [e2]
      have hne : ((mk : Int) != (mv : Int)) = true := by rw [bne_iff_ne]; have := hR.out; omega
      have f2c : (lk == 0) = false := by simp [e1]
      clear e1 e2
      · go_enter Tryd.func44, Tryd.ntmps44
        go_wp2
        go_ret
        exact ⟨rfl, HF.out _⟩
    · have b2 : (hi == 10000) = false := by simp [e2]
      clear e1 e2
      go_enter Tryd.func44, Tryd.ntmps44
      go_wp2
      go_ret
      exact ⟨rfl, HF.out _⟩
  · have b1 : (lk == -1) = false := by simp [e1]
    by_cases e2 : hi = 10000
    · have b2 : (hi == 10000) = true := by simp [e2]
      clear e1 e2
      go_enter Tryd.func44, Tryd.ntmps44
      go_wp2
      go_ret
      exact ⟨rfl, HF.out _⟩
    · have b2 : (hi == 10000) = false := by simp [e2]
      have E2 := hideIt e2
      clear e2
      by_cases f1 : lk < -1
      · clear e1
        go_enter Tryd.func44, Tryd.ntmps44
        go_wp2
        go_ret
        exact ⟨rfl, HF.out _⟩
      by_cases f2 : lk = 0
      · have f2a : lk ≤ 0 := by omega
        have f2b : 0 ≤ lk := by omega
        have f2c : (lk == 0) = true := by simp [f2]
        clear e1 f2
        go_enter Tryd.func44, Tryd.ntmps44
        go_wp2
        go_ret
        exact ⟨rfl, HF.out _⟩
      have f2c : (lk == 0) = false := by simp [f2]
      by_cases f3 : 63 < lk
      · clear e1 f2
        go_enter Tryd.func44, Tryd.ntmps44
        go_wp2
        go_ret
        exact ⟨rfl, HF.out _⟩
      have f4 : 1 ≤ lk := by omega
      have hne : ((mk : Int) != (mv : Int)) = true := by rw [bne_iff_ne]; have := hR.out; have := E2.out; omega
      clear e1 f2
      · go_enter Tryd.func44, Tryd.ntmps44
        go_wp2
        go_ret
        exact ⟨rfl, HF.out _⟩

end Go.Proofs.YtajobgmnmbnhiaaDoor.Sap
