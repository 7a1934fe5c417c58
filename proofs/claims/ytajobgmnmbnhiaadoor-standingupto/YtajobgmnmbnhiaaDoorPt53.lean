/- WHAT IS PROVED HERE: saplingkeep's placed: a page is in a row, and the one ahead of it has no High above a number. Conditions: named at the theorem. -/
import Derived.Test.YtajobgmnmbnhiaaDoorPt37
namespace Go.Proofs.YtajobgmnmbnhiaaDoor.Sap
open Go.RowKit
set_option maxRecDepth 100000 in
set_option maxHeartbeats 3200000 in
theorem placed_yes (gw tg tc ug uc p i m : Nat) (T : List ByteArray) (U : List Bool) (ps : List Nat) (rv : Value) (fr : Int) (w : World) (h : PgR gw tg tc ug uc T U w) (hr : Rd w rv (natI ps)) (hm : ps.length = m) (hm1 : m ≤ 64) (hp : ps[i]? = some p) (hu : ∀ j, j < i → ps[j]? ≠ some p)
    (hi : i = 0 ∨ ∃ q n, ps[i - 1]? = some q ∧ Says T U q n ∧ n.hi ≤ fr) :
    Calls Tryd.prog 114 #[.pointer (some ⟨gw, 0, none⟩), rv, .int .i64 p, .int .i64 fr] w fun e w' => e = .returned (.bool true) ∧ Below w.heap.size w w' := by
  have him : i < m := by rw [← hm]; exact (List.getElem?_eq_some_iff.1 hp).1
  obtain ⟨ra, rc, rfl⟩ := hr.len
  have hnl : (natI ps).length = m := by unfold natI; rw [List.length_map]; exact hm
  rw [hnl] at hr ⊢
  have HR := hideIt hr
  have HP := hideIt hp
  have HU := hideIt hu
  have HI := hideIt hi
  have HPG := hideIt h
  have HM := hideIt hm
  clear h hr hm hp hu hi hnl
  go_enter Tryd.func114, Tryd.ntmps114
  go_wp2
  go_loopw [9] (fun vi wr => ∃ j : Nat, j ≤ i ∧ vi = .int .i64 j ∧ wr = w) (fun vi _ => i - (intOf vi).toNat)
  case atStart => exact ⟨0, by omega, rfl, rfl⟩
  case round =>
    obtain ⟨j, hj, rfl, rfl⟩ := hrel
    have hj0 : (0 : Int) ≤ (j : Int) := by omega
    have hjm : (j : Int) < (m : Int) := by omega
    obtain ⟨b1, o1, e1, -, x1⟩ := HR.out.elem j (by omega)
    subst e1
    have y1 := x1 _ (Below.refl _ _)
    obtain ⟨q, hq⟩ : ∃ q, ps[j]? = some q := ⟨_, List.getElem?_eq_getElem (by rw [HM.out]; omega)⟩
    have hqv : (natI ps)[j]?.getD 0 = (q : Int) := by unfold natI; rw [List.getElem?_map, hq]; rfl
    rw [hqv] at y1
    by_cases hlt : j < i
    · have hne : q ≠ p := fun e => HU.out j hlt (by rw [hq, e])
      have hneb : ((q : Int) != (p : Int)) = true := by simp; omega
      clear x1 hq hqv hne
      go_wp2
      go_roundw
      case rel => exact ⟨j + 1, by omega, by go_num, by trivial⟩
      case measure => simp [intOf]; omega
    · obtain rfl : j = i := by omega
      have hqp : q = p := by rw [HP.out] at hq; cases hq; rfl
      subst hqp
      have hneb : ((q : Int) != (q : Int)) = false := by simp
      clear x1 hq hqv
      rcases HI.out with h0 | ⟨q2, n, hq2, hs, hle⟩
      · subst h0
        have hm0 : (0 : Int) < (m : Int) := by omega
        simp only [Nat.add_zero] at y1
        clear hjm hj0
        go_wp2
        go_ret
        exact ⟨rfl, Below.refl _ _⟩
      · rcases Nat.eq_zero_or_pos j with hz | hz
        · subst hz
          have hm0 : (0 : Int) < (m : Int) := by omega
          simp only [Nat.add_zero] at y1
          clear hjm hj0
          go_wp2
          go_ret
          exact ⟨rfl, Below.refl _ _⟩
        · obtain ⟨j', rfl⟩ : ∃ j', j = j' + 1 := ⟨j - 1, by omega⟩
          rw [Nat.add_sub_cancel] at hq2
          obtain ⟨b2, o2, e2, -, x2⟩ := HR.out.elem j' (by omega)
          cases e2
          have y2 := x2 _ (Below.refl _ _)
          have hqv2 : (natI ps)[j']?.getD 0 = (q2 : Int) := by unfold natI; rw [List.getElem?_map, hq2]; rfl
          rw [hqv2] at y2
          have hj1 : ((((j' + 1 : Nat) : Int)) == 0) = false := by rw [beq_eq_false_iff_ne]; omega
          have hj2 : (0 : Int) ≤ (j' : Int) := by omega
          have hj3 : (j' : Int) < (m : Int) := by omega
          have hj4 : (((j' : Int) + 1) == 0) = false := by rw [beq_eq_false_iff_ne]; omega
          have CS := hideIt (says_yes gw tg tc ug uc q2 T U n wr HPG.out hs)
          clear x2 hqv2 hq2 hs hz
          go_wp2_with fail
          refine CS.out.mono ?_
          rintro e w1 ⟨kv, vv, rfl, hM⟩
          obtain ⟨ka, kc, rfl⟩ := As.form0 (hM.get (i := 0) rfl)
          obtain ⟨va, vc, rfl⟩ := As.form0 (hM.get (i := 1) rfl)
          have A1 := hideIt (hM.alloc #[.int .i64 n.lv, .int .i64 n.lk, .int .i64 n.hi, .slice ka n.ks.length kc, .slice va n.vs.length vc] 24)
          clear CS hM
          go_wp2
          go_ret
          exact ⟨rfl, A1.out.bl⟩
end Go.Proofs.YtajobgmnmbnhiaaDoor.Sap
