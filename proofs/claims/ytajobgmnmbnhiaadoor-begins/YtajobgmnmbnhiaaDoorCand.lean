/- WHAT IS PROVED HERE: what saplingref.Unpack reads out of a text is the only node that the text can be of. Conditions: none. -/
import Derived.Test.YtajobgmnmbnhiaaDoorParse
namespace Go.Proofs.YtajobgmnmbnhiaaDoor.Sap

theorem dash_head {s : List UInt8} {m : Nd} (h : Unp s m) : ((seg s 1 2).headD 0 = 45 → m.lk = -1 ∧ m.hi = 10000) ∧ ((seg s 1 2).headD 0 ≠ 45 → m.lk = wth (seg s 1 2) ∧ m.hi = wth (seg s 3 4)) := by
  obtain ⟨-, -, -, -, -, a1, a2⟩ := head_of h
  obtain ⟨-, -, b3, -⟩ := right_bd m h.1
  by_cases h10 : m.hi = 10000
  · refine ⟨fun _ => ⟨by omega, h10⟩, fun hne => ?_⟩
    rw [a1 h10] at hne
    exact absurd rfl hne
  · obtain ⟨c1, c2, c3⟩ := a2 h10
    refine ⟨fun he => ?_, fun _ => ⟨c2.symm, c3.symm⟩⟩
    have hd := allDig_dg 2 m.lk.toNat
    rw [← c1] at hd
    cases hs : seg s 1 2 with
    | nil => rw [hs] at he; exact absurd he (by decide)
    | cons x r =>
      rw [hs] at he hd
      simp only [List.headD_cons] at he
      subst he
      simp [allDig, isDig] at hd

/-- What is read for Link and High. -/
def DashOk (s : List UInt8) (lk hi : Int) : Prop := (seg s 1 2).headD 0 = 45 ∧ lk = -1 ∧ hi = 10000 ∨ (seg s 1 2).headD 0 ≠ 45 ∧ lk = wth (seg s 1 2) ∧ hi = wth (seg s 3 4)

theorem cand_eq {s : List UInt8} {m : Nd} {j : Nat} {lk hi : Int} (h : Unp s m) (hd : DashOk s lk hi)
    (h1 : 7 + j * wd (wth (seg s 0 1)) ≤ s.length) (h2 : s.length < 7 + j * wd (wth (seg s 0 1)) + wd (wth (seg s 0 1))) :
    m = ⟨wth (seg s 0 1), lk, hi, kL (wth (seg s 0 1)) s j, vL (wth (seg s 0 1)) s j⟩ := by
  obtain ⟨-, -, -, -, a4, -⟩ := head_of h
  obtain ⟨e1, -, e2, e3⟩ := ents_of h
  obtain ⟨d1, d2⟩ := dash_head h
  rw [a4] at h1 h2 ⊢
  have hj : j = m.ks.length := by
    have hw := (wd_pos m.lv).1
    rcases Nat.lt_trichotomy j m.ks.length with h' | h' | h'
    · have := Nat.mul_le_mul_right (wd m.lv) (show j + 1 ≤ m.ks.length from h')
      rw [Nat.add_mul] at this; omega
    · exact h'
    · have := Nat.mul_le_mul_right (wd m.lv) (show m.ks.length + 1 ≤ j from h')
      rw [Nat.add_mul] at this; omega
  rw [hj, e2, e3]
  obtain ⟨lv', lk', hi', ks', vs'⟩ := m
  simp only at d1 d2 ⊢
  rcases hd with ⟨f1, f2, f3⟩ | ⟨f1, f2, f3⟩
  · obtain ⟨g1, g2⟩ := d1 f1
    rw [g1, g2, f2, f3]
  · obtain ⟨g1, g2⟩ := d2 f1
    rw [g1, g2, f2, f3]
end Go.Proofs.YtajobgmnmbnhiaaDoor.Sap
