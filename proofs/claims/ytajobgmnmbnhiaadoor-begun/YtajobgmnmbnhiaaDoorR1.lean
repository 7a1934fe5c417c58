/- WHAT IS PROVED HERE: saplingkeep.pick answers a number from 0 on, below its second argument; plain facts on rising lists. Conditions: the first is an int, the second 1 to 10000. -/
import Derived.Test.YtajobgmnmbnhiaaDoorW13
namespace Go.Proofs.YtajobgmnmbnhiaaDoor.Sap
open Go.RowKit

theorem keysOk_snoc (hi l k : Int) (ks : List Int) (h : keysOk hi l ks = true) (h1 : ∀ x ∈ ks, x < k) (h2 : l ≤ k) (h3 : k < hi) : keysOk hi l (ks ++ [k]) = true := by
  induction ks generalizing l with
  | nil => simp [keysOk, h2, h3]
  | cons x r ih =>
    simp only [keysOk, Bool.and_eq_true, decide_eq_true_eq] at h
    simp only [List.cons_append, keysOk, Bool.and_eq_true, decide_eq_true_eq]
    have hx := h1 x (by simp)
    exact ⟨h.1, h.2.1, ih (x + 1) h.2.2 (fun y hy => h1 y (by simp [hy])) (by omega)⟩

theorem keysOk_weak (hi l l' : Int) (ks : List Int) (h : keysOk hi l ks = true) (hl : l' ≤ l) : keysOk hi l' ks = true := by
  cases ks with
  | nil => rfl
  | cons x r =>
    simp only [keysOk, Bool.and_eq_true, decide_eq_true_eq] at h ⊢
    exact ⟨by omega, h.2⟩

theorem keysOk_insert (hi l k : Int) (xs : List Int) (at' : Nat) (h : keysOk hi l xs = true) (hat : at' ≤ xs.length) (h1 : ∀ i, i < at' → xs[i]?.getD 0 < k) (h2 : at' < xs.length → k < xs[at']?.getD 0) (h3 : l ≤ k) (h4 : k < hi) :
    keysOk hi l (xs.take at' ++ k :: xs.drop at') = true := by
  induction at' generalizing xs l with
  | zero =>
    simp only [List.take_zero, List.nil_append, List.drop_zero, keysOk, Bool.and_eq_true, decide_eq_true_eq]
    refine ⟨h3, h4, ?_⟩
    cases xs with
    | nil => rfl
    | cons x r =>
      have hx := h2 (by simp)
      simp only [List.getElem?_cons_zero, Option.getD_some] at hx
      simp only [keysOk, Bool.and_eq_true, decide_eq_true_eq] at h ⊢
      exact ⟨by omega, h.2⟩
  | succ n ih =>
    cases xs with
    | nil => simp at hat
    | cons x r =>
      simp only [keysOk, Bool.and_eq_true, decide_eq_true_eq] at h
      have hx := h1 0 (by omega)
      simp only [List.getElem?_cons_zero, Option.getD_some] at hx
      simp only [List.take_succ_cons, List.drop_succ_cons, List.cons_append, keysOk, Bool.and_eq_true, decide_eq_true_eq]
      refine ⟨h.1, h.2.1, ih (x + 1) r h.2.2 (by simpa using hat) (fun i hi' => ?_) (fun hn => ?_) (by omega)⟩
      · have := h1 (i + 1) (by omega); simpa using this
      · have := h2 (by simpa using hn); simpa using this

theorem keysOk_lt (hi l : Int) (xs : List Int) (h : keysOk hi l xs = true) (i j : Nat) (hij : i < j) (hj : j < xs.length) : xs[i]?.getD 0 < xs[j]?.getD 0 := by
  induction xs generalizing l i j with
  | nil => simp at hj
  | cons x r ih =>
    simp only [keysOk, Bool.and_eq_true, decide_eq_true_eq] at h
    cases j with
    | zero => omega
    | succ j =>
      cases i with
      | zero =>
        have hb : ∀ (l : Int) (r : List Int) (j : Nat), keysOk hi l r = true → j < r.length → l ≤ r[j]?.getD 0 := by
          intro l r
          induction r generalizing l with
          | nil => intro j _ hj; simp at hj
          | cons y t ih2 =>
            intro j hk hj
            simp only [keysOk, Bool.and_eq_true, decide_eq_true_eq] at hk
            cases j with
            | zero => simpa using hk.1
            | succ j => have := ih2 (y + 1) j hk.2.2 (by simpa using hj); simp; omega
        have := hb (x + 1) r j h.2.2 (by simpa using hj)
        simp; omega
      | succ i =>
        have := ih (x + 1) h.2.2 i j (by omega) (by simpa using hj)
        simpa using this

def pickV (c n : Int) : Int := if c < 0 then (-(c + 1)) % n else c % n
theorem pickV_bd (c n : Int) (h : 1 ≤ n) : 0 ≤ pickV c n ∧ pickV c n < n := by
  unfold pickV
  split
  · exact ⟨Int.emod_nonneg _ (by omega), Int.emod_lt_of_pos _ (by omega)⟩
  · exact ⟨Int.emod_nonneg _ (by omega), Int.emod_lt_of_pos _ (by omega)⟩

set_option maxRecDepth 100000 in
set_option maxHeartbeats 800000 in
theorem pick_exact (c n : Int) (w : World) (h0 : -9223372036854775808 ≤ c) (h1 : c ≤ 9223372036854775807) (hn1 : 1 ≤ n) (hn2 : n ≤ 10000) :
    Calls Tryd.prog 36 #[.int .i64 c, .int .i64 n] w fun e w' => e = .returned (.int .i64 (pickV c n)) ∧ w' = w := by
  have hnz : (n == 0) = false := by simp; omega
  by_cases hc : c < 0
  · have HP : Hid (pickV c n = -(c + 1).tmod n) := by unfold Hid pickV; rw [if_pos hc, ← Int.neg_tmod, Int.tmod_eq_emod_of_nonneg (by omega)]
    go_enter Tryd.func36, Tryd.ntmps36
    go_wp2
    go_ret
    exact ⟨ret_int HP.out.symm, rfl⟩
  · have HP : Hid (pickV c n = c % n) := by unfold Hid pickV; rw [if_neg hc]
    go_enter Tryd.func36, Tryd.ntmps36
    go_wp2
    go_ret
    exact ⟨ret_int HP.out.symm, rfl⟩
theorem pick_any (c n : Int) (w : World) (h0 : -9223372036854775808 ≤ c) (h1 : c ≤ 9223372036854775807) (hn1 : 1 ≤ n) (hn2 : n ≤ 10000) :
    Calls Tryd.prog 36 #[.int .i64 c, .int .i64 n] w fun e w' => (∃ r, e = .returned (.int .i64 r) ∧ 0 ≤ r ∧ r < n) ∧ w' = w := by
  refine (pick_exact c n w h0 h1 hn1 hn2).mono ?_
  rintro e w' ⟨rfl, rfl⟩
  exact ⟨⟨_, rfl, pickV_bd c n hn1⟩, rfl⟩

set_option maxRecDepth 100000 in
set_option maxHeartbeats 1600000 in
theorem same_yes (lv lk hi : Int) (ks vs : List Int) (ka va kb vb : Value) (w : World) (h1 : Rd w ka ks) (h2 : Rd w va vs) (h3 : Rd w kb ks) (h4 : Rd w vb vs) (hk : ks.length ≤ 17592186044416) (hkv : ks.length = vs.length) :
    Calls Tryd.prog 24 #[.agg #[.int .i64 lv, .int .i64 lk, .int .i64 hi, ka, va], .agg #[.int .i64 lv, .int .i64 lk, .int .i64 hi, kb, vb]] w fun e w' => e = .returned (.bool true) ∧ Below w.heap.size w w' := by
  have H1 := hideIt h1
  have H2 := hideIt h2
  have H3 := hideIt h3
  have H4 := hideIt h4
  obtain ⟨a1, c1, rfl⟩ := h1.len
  obtain ⟨a2, c2, rfl⟩ := h2.len
  obtain ⟨a3, c3, rfl⟩ := h3.len
  obtain ⟨a4, c4, rfl⟩ := h4.len
  obtain ⟨m, hm⟩ : ∃ m, ks.length = m := ⟨_, rfl⟩
  rw [← hkv] at H2 H4 ⊢
  rw [hm] at H1 H2 H3 H4 hk ⊢
  clear h1 h2 h3 h4 hm hkv
  go_enter Tryd.func24, Tryd.ntmps24
  go_wp2
  go_loopw [5] (fun i wr => ∃ k d : Nat, k ≤ m ∧ i = .int .i64 k ∧ wr = ((w.alloc (.cells #[.int .i64 lv, .int .i64 lk, .int .i64 hi, .slice a1 m c1, .slice a2 m c2] 24)).alloc (.cells #[.int .i64 lv, .int .i64 lk, .int .i64 hi, .slice a3 m c3, .slice a4 m c4] 24)).drewN d) (fun i _ => m - (intOf i).toNat)
  case atStart => exact ⟨0, 0, Nat.zero_le _, rfl, rfl⟩
  case round =>
    obtain ⟨k, d, hk, rfl, rfl⟩ := hrel
    by_cases hlt : k < m
    · obtain ⟨b1, o1, rfl, -, x1⟩ := H1.out.elem k hlt
      obtain ⟨b2, o2, rfl, -, x2⟩ := H2.out.elem k hlt
      obtain ⟨b3, o3, rfl, -, x3⟩ := H3.out.elem k hlt
      obtain ⟨b4, o4, rfl, -, x4⟩ := H4.out.elem k hlt
      have y1 : ∀ p q, ((w.alloc p).alloc q).cell? ⟨b1, o1 + k, none⟩ = some (.int .i64 (ks[k]?.getD 0)) := fun p q => x1 _ (below_alloc2 w p q)
      have y2 : ∀ p q, ((w.alloc p).alloc q).cell? ⟨b2, o2 + k, none⟩ = some (.int .i64 (vs[k]?.getD 0)) := fun p q => x2 _ (below_alloc2 w p q)
      have y3 : ∀ p q, ((w.alloc p).alloc q).cell? ⟨b3, o3 + k, none⟩ = some (.int .i64 (ks[k]?.getD 0)) := fun p q => x3 _ (below_alloc2 w p q)
      have y4 : ∀ p q, ((w.alloc p).alloc q).cell? ⟨b4, o4 + k, none⟩ = some (.int .i64 (vs[k]?.getD 0)) := fun p q => x4 _ (below_alloc2 w p q)
      have hkk : (0 : Int) ≤ (k : Int) := by omega
      have hkl : (k : Int) < (m : Int) := by omega
      clear x1 x2 x3 x4
      go_wp2
      go_quiet (fail)
      go_wp2
      go_roundw
      case rel => exact ⟨k + 1, _, by omega, by go_num, rfl⟩
      case measure => simp [intOf]; omega
    · go_wp2
      go_ret
      have hb := below_alloc2 w (.cells #[.int .i64 lv, .int .i64 lk, .int .i64 hi, .slice a1 m c1, .slice a2 m c2] 24) (.cells #[.int .i64 lv, .int .i64 lk, .int .i64 hi, .slice a3 m c3, .slice a4 m c4] 24)
      exact ⟨rfl, ⟨hb.os, hb.tape, hb.output, hb.size, hb.block⟩⟩
end Go.Proofs.YtajobgmnmbnhiaaDoor.Sap
