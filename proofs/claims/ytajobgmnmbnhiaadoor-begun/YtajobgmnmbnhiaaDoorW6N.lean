/- WHAT IS PROVED HERE: saplingref.Right answers whether a node that is no leaf is right. Conditions: the slices are no longer than memory bears. -/
import Derived.Test.YtajobgmnmbnhiaaDoorW6
namespace Go.Proofs.YtajobgmnmbnhiaaDoor.Sap
open Go.RowKit

set_option maxRecDepth 100000 in
set_option maxHeartbeats 3200000 in
theorem refRight_inner (lv lk hi : Int) (ks vs : List Int) (ak av : Option Addr) (ck cv m : Nat) (w : World) (hmk : Hid (ks.length = m)) (hmv : Hid (vs.length = m))
    (HK : Hid (Rd w (.slice ak m ck) ks)) (HV : Hid (Rd w (.slice av m cv) vs)) (hkl : m ≤ 17592186044416)
    (h0 : ¬ lv = 0) (hl0 : 0 ≤ lv) (hl9 : lv ≤ 9) (hh1 : 1 ≤ hi) (hh2 : hi ≤ 10000) (h3 : (lk = -1 ∧ hi = 10000) ∨ (1 ≤ lk ∧ lk ≤ 63 ∧ 1 ≤ hi ∧ hi ≤ 9999)) :
    Calls Tryd.prog 44 #[.agg #[.int .i64 lv, .int .i64 lk, .int .i64 hi, .slice ak m ck, .slice av m cv]] w fun e w' => e = .returned (.bool (rightB ⟨lv, lk, hi, ks, vs⟩)) ∧ Below w.heap.size w w' := by
  have hfin : ∀ o, Below w.heap.size w (w.alloc o) := fun o => (Below.refl _ _).alloc (Nat.le_refl _) o
  have HF := hideIt hfin
  clear hfin
  have hR : cntOk lv ks.length = true → rightB ⟨lv, lk, hi, ks, vs⟩ = kvOk lv hi (least lv) ks vs := fun h => rr_yes lv lk hi ks vs (by omega) (by omega) h3 (by rw [hmk.out, hmv.out]) h
  have hC : cntOk lv ks.length = (decide (1 ≤ (m : Int)) && decide ((m : Int) ≤ 6)) := by unfold cntOk; rw [if_neg h0, hmk.out]
  have b00 : (lk == 0) = false := by simp; omega
  have hT : ((lk == -1) = true ∧ (hi == 10000) = true ∧ lk ≤ -1 ∧ -1 ≤ lk) ∨ ((lk == -1) = false ∧ (hi == 10000) = false ∧ 1 ≤ lk ∧ lk ≤ 63) := by
    rcases h3 with ⟨a, b⟩ | ⟨a, b, c, d⟩
    · exact Or.inl ⟨by simp [a], by simp [b], by omega, by omega⟩
    · exact Or.inr ⟨by simp; omega, by simp; omega, a, b⟩
  have b0 : (lv == 0) = false := by simp [h0]
  have l1 : 1 ≤ lv := by omega
  have H0 := hideIt h0
  have HR := hideIt hR
  have HC := hideIt hC
  have HL : Hid (least lv = 0) := by unfold Hid least; rw [if_neg h0]
  clear h0 h3 hR hC
  rcases hT with ⟨t1, t2, t3, t4⟩ | ⟨t1, t2, t3, t4⟩
  all_goals
    by_cases hm1 : m < 1
    · have hno : Hid (rightB ⟨lv, lk, hi, ks, vs⟩ = false) := rr_no3 _ _ _ _ _ (by rw [HC.out]; simp; omega)
      go_enter Tryd.func44, Tryd.ntmps44
      go_wp2
      go_ret
      exact ⟨ret_bool hno.out.symm, HF.out _⟩
    by_cases hm : 6 < m
    · have hno : Hid (rightB ⟨lv, lk, hi, ks, vs⟩ = false) := rr_no3 _ _ _ _ _ (by rw [HC.out]; simp; omega)
      go_enter Tryd.func44, Tryd.ntmps44
      go_wp2
      go_ret
      exact ⟨ret_bool hno.out.symm, HF.out _⟩
    · have hYes : Hid (rightB ⟨lv, lk, hi, ks, vs⟩ = kvOk lv hi 0 ks vs) := by unfold Hid; rw [HR.out (by rw [HC.out]; simp; omega), HL.out]
      go_enter Tryd.func44, Tryd.ntmps44
      go_wp2
      go_loop [4, 5, 6] (fun i _ _ => ∃ (k : Nat) (a : Int), k ≤ m ∧ i = .int .i64 k ∧ 0 ≤ a ∧ Hid (k = 0 → a = 0) ∧ Hid (∀ j, k = j + 1 → a = ks[j]?.getD 0 + 1) ∧ Hid (kvOk lv hi a (ks.drop k) (vs.drop k) = kvOk lv hi 0 ks vs)) (fun i _ _ => m - (intOf i).toNat)
      case atStart => exact ⟨0, 0, Nat.zero_le _, rfl, by omega, fun _ => rfl, fun j hj => by omega, rfl⟩
      case round =>
        obtain ⟨k, a, hk, rfl, ha1, ha2, ha3, hinv⟩ := hrel
        by_cases hlt : k < m
        · obtain ⟨bk, ok, rfl, hk1, hck⟩ := HK.out.elem k hlt
          obtain ⟨bv, ov, rfl, hv1, hcv⟩ := HV.out.elem k hlt
          obtain ⟨x, hx, hx2⟩ := drop_cons hk1
          obtain ⟨y, hy, hy2⟩ := drop_cons hv1
          rw [hx, hy] at hinv
          rw [hx2] at hck
          rw [hy2] at hcv
          have qk : ∀ o, (w.alloc o).cell? ⟨bk, ok + k, none⟩ = some (.int .i64 x) := fun o => hck _ (HF.out o)
          have qv : ∀ o, (w.alloc o).cell? ⟨bv, ov + k, none⟩ = some (.int .i64 y) := fun o => hcv _ (HF.out o)
          have hnx : Hid (∀ j, k + 1 = j + 1 → x + 1 = ks[j]?.getD 0 + 1) := fun j hj => by
            obtain rfl : j = k := by omega
            rw [hx2]
          clear hx hx2 hy hy2 hck hcv hk1 hv1
          have hkk : (0 : Int) ≤ (k : Int) := by omega
          have hkl2 : (k : Int) < (m : Int) := by omega
          have bad : Hid (hi ≤ x ∨ x < a → rightB ⟨lv, lk, hi, ks, vs⟩ = false) := fun h => by rw [hYes.out, ← hinv.out]; exact kv_key _ _ _ _ _ _ _ h
          have badv : Hid (valOk lv y = false → rightB ⟨lv, lk, hi, ks, vs⟩ = false) := fun h => by rw [hYes.out, ← hinv.out]; exact kv_val _ _ _ _ _ _ _ h
          have good : Hid (a ≤ x → x < hi → valOk lv y = true → kvOk lv hi (x + 1) (ks.drop (k + 1)) (vs.drop (k + 1)) = kvOk lv hi 0 ks vs) := fun h1 h2 h3 => by rw [← hinv.out]; exact (kv_yes _ _ _ _ _ _ _ h1 h2 h3).symm
          clear hinv
          by_cases c1 : x < 0
          · have hno := hideIt (bad.out (Or.inr (by omega)))
            go_wp2
            go_ret
            exact ⟨ret_bool hno.out.symm, HF.out _⟩
          by_cases c2 : hi ≤ x
          · have hno := hideIt (bad.out (Or.inl c2))
            go_wp2
            go_ret
            exact ⟨ret_bool hno.out.symm, HF.out _⟩
          rcases Nat.eq_zero_or_pos k with hk0 | hk0
          · have HK0 := hideIt hk0
            have g1 : (k : Int) ≤ 0 := by omega
            have ha := ha2.out hk0
            have hax : a ≤ x := by omega
            clear hk0 ha
            by_cases d1 : y < 1
            · have hno := hideIt (badv.out (by unfold valOk; rw [if_neg H0.out]; simp [pageOk]; omega))
              go_wp2
              go_ret
              exact ⟨ret_bool hno.out.symm, HF.out _⟩
            by_cases d2 : 63 < y
            · have hno := hideIt (badv.out (by unfold valOk; rw [if_neg H0.out]; simp [pageOk]; omega))
              go_wp2
              go_ret
              exact ⟨ret_bool hno.out.symm, HF.out _⟩
            have hgood := hideIt (good.out hax (by omega) (by unfold valOk; rw [if_neg H0.out]; simp [pageOk]; omega))
            go_wp2
            go_round
            case rel => exact ⟨_, x + 1, by omega, by go_num, by omega, fun h => by omega, hnx, hgood⟩
            case measure => simp [intOf]; omega
          · obtain ⟨j, rfl⟩ : ∃ j, k = j + 1 := ⟨k - 1, by omega⟩
            obtain ⟨bk', ok', hee, -, hcj⟩ := HK.out.elem j (by omega)
            simp only [Option.some.injEq, Addr.mk.injEq] at hee
            obtain ⟨rfl, rfl, -⟩ := hee
            have haj := ha3.out j rfl
            obtain ⟨p, hp⟩ : ∃ p, ks[j]?.getD 0 = p := ⟨_, rfl⟩
            rw [hp] at hcj haj
            have qp : ∀ o, (w.alloc o).cell? ⟨bk, ok + j, none⟩ = some (.int .i64 p) := fun o => hcj _ (HF.out o)
            clear hp hcj
            by_cases c3 : x ≤ p
            · have hno := hideIt (bad.out (Or.inr (by omega)))
              clear haj
              go_wp2
              go_ret
              exact ⟨ret_bool hno.out.symm, HF.out _⟩
            have hax : a ≤ x := by omega
            clear haj hk0
            by_cases d1 : y < 1
            · have hno := hideIt (badv.out (by unfold valOk; rw [if_neg H0.out]; simp [pageOk]; omega))
              go_wp2
              go_ret
              exact ⟨ret_bool hno.out.symm, HF.out _⟩
            by_cases d2 : 63 < y
            · have hno := hideIt (badv.out (by unfold valOk; rw [if_neg H0.out]; simp [pageOk]; omega))
              go_wp2
              go_ret
              exact ⟨ret_bool hno.out.symm, HF.out _⟩
            have hgood := hideIt (good.out hax (by omega) (by unfold valOk; rw [if_neg H0.out]; simp [pageOk]; omega))
            go_wp2
            go_round
            case rel => exact ⟨_, x + 1, by omega, by go_num, by omega, fun h => by omega, hnx, hgood⟩
            case measure => simp [intOf]; omega
        · have hfin : Hid (rightB ⟨lv, lk, hi, ks, vs⟩ = true) := by
            unfold Hid; rw [hYes.out, ← hinv.out, List.drop_of_length_le (by rw [hmk.out]; omega), List.drop_of_length_le (by rw [hmv.out]; omega)]; exact kv_end _ _ _
          clear hinv
          go_wp2
          go_ret
          exact ⟨ret_bool hfin.out.symm, HF.out _⟩
end Go.Proofs.YtajobgmnmbnhiaaDoor.Sap
