/- WHAT IS PROVED HERE: plain facts: a rank of the pages that falls along every way (no program's function is walked). Conditions: none but those named at each theorem. -/
import Derived.Test.YtajobgmnmbnhiaaDoorXX0X2
namespace Go.Proofs.YtajobgmnmbnhiaaDoor.Sap
open Go.RowKit

theorem filter_le_of {l : List Nat} {P Q : Nat → Bool} (h : ∀ x ∈ l, P x = true → Q x = true) : (l.filter P).length ≤ (l.filter Q).length := by
  induction l with
  | nil => exact Nat.le_refl _
  | cons x r ih =>
    have ih := ih fun y hy => h y (by simp [hy])
    simp only [List.filter_cons]
    cases hp : P x
    · cases Q x <;> simp <;> omega
    · rw [h x (by simp) hp]; simp; omega
theorem filter_lt_of {l : List Nat} {P Q : Nat → Bool} (h : ∀ x ∈ l, P x = true → Q x = true) {a : Nat} (ha : a ∈ l) (hq : Q a = true) (hp : P a = false) : (l.filter P).length < (l.filter Q).length := by
  induction l with
  | nil => cases ha
  | cons x r ih =>
    have hr : ∀ y ∈ r, P y = true → Q y = true := fun y hy => h y (by simp [hy])
    simp only [List.filter_cons]
    rcases List.mem_cons.1 ha with rfl | ha
    · have := filter_le_of hr
      rw [hp, hq]; simp; omega
    · have ih := ih hr ha
      cases hpx : P x
      · cases Q x <;> simp <;> omega
      · rw [h x (by simp) hpx]; simp; omega
/-- q is nearer to the end than p: on a lower level, or on the same one further to the right. -/
def Nearer (t : Tre) (q p : Nat) : Prop := (t.nd q).lv < (t.nd p).lv ∨ ((t.nd q).lv = (t.nd p).lv ∧ t.low p < t.low q)
theorem rank_ex (t : Tre) (h : t.Ok) : ∃ rk : Nat → Nat, (∀ p, rk p ≤ 64) ∧ ∀ p q, t.inn q → Nearer t q p → rk q < rk p := by
  classical
  refine ⟨fun p => ((List.range 64).filter fun x => decide (t.inn x ∧ Nearer t x p)).length, fun p => ?_, fun p q hq hn => ?_⟩
  · exact Nat.le_trans (List.length_filter_le _ _) (by simp)
  · refine filter_lt_of (a := q) (fun x _ hx => ?_) (List.mem_range.2 (h.lt q hq)) (decide_eq_true ⟨hq, hn⟩) (decide_eq_false fun hx => ?_)
    · have hx := of_decide_eq_true hx
      refine decide_eq_true ⟨hx.1, ?_⟩
      have h1 := hx.2
      unfold Nearer at h1 hn ⊢
      omega
    · have h1 := hx.2
      unfold Nearer at h1
      omega
end Go.Proofs.YtajobgmnmbnhiaaDoor.Sap

/- WHAT IS PROVED HERE: plain facts: the leaves of a tree are a map; what a Put or a Drop in a leaf makes of it (no program's function is walked). Conditions: none but those named at each theorem. -/
namespace Go.Proofs.YtajobgmnmbnhiaaDoor.Sap
open Go.RowKit

/-- What a leaf has for a key. -/
def lmap (n : Nd) (q : Int) : Option Int := look (n.ks.zip n.vs) q
/-- Each leaf has of its keys what the map has. -/
def Leafs (t : Tre) (mp : Int → Option Int) : Prop := ∀ p, t.inn p → (t.nd p).lv = 0 → ∀ q, t.low p ≤ q → q < (t.nd p).hi → lmap (t.nd p) q = mp q

theorem upd_ne {k key v : Int} {m : Int → Option Int} {q : Int} (h : q ≠ key) : upd k key v m q = m q := by unfold upd; rw [if_neg h]
/-- A key is in one leaf alone. -/
theorem Tre.Ok.alone {t : Tre} (h : t.Ok) {p r : Nat} {key : Int} (hp : t.inn p) (hr : t.inn r) (hl : (t.nd p).lv = (t.nd r).lv) (h1 : t.low p ≤ key) (h2 : key < (t.nd p).hi) (h3 : t.low r ≤ key) (h4 : key < (t.nd r).hi) : p = r := by
  rcases Nat.decEq p r with hne | he
  · rcases h.dis p r hp hr hl hne with h5 | h5 <;> omega
  · exact he
/-- A leaf is written anew. -/
theorem Leafs.put {t : Tre} {mp : Int → Option Int} (L : Leafs t mp) (h : t.Ok) {p : Nat} {n : Nd} {k key v : Int} (hp : t.inn p) (hlv : n.lv = (t.nd p).lv) (hhi : n.hi = (t.nd p).hi) (h0 : (t.nd p).lv = 0)
    (hl : ∀ q, lmap n q = upd k key v (lmap (t.nd p)) q) (hk1 : t.low p ≤ key) (hk2 : key < (t.nd p).hi) : Leafs (t.put p n) (upd k key v mp) := by
  intro r hr hr0 q hq1 hq2
  by_cases e : r = p
  · subst e
    rw [t.put_self] at hq2 ⊢
    rw [hl]
    rw [hhi] at hq2
    have h9 := L r hp h0 q hq1 hq2
    by_cases hq : q = key
    · subst hq; unfold upd; rw [if_pos rfl, if_pos rfl, h9]
    · rw [upd_ne hq, upd_ne hq]; exact h9
  · rw [t.put_ne n e] at hr0 hq2 ⊢
    have hqk : q ≠ key := fun hq => e (h.alone hr hp (by rw [hr0, h0]) (show t.low r ≤ key by rw [← hq]; exact hq1) (show key < (t.nd r).hi by rw [← hq]; exact hq2) hk1 hk2)
    rw [upd_ne hqk]
    exact L r hr hr0 q hq1 hq2
/-- A node that is no leaf is written anew. -/
theorem Leafs.putN {t : Tre} {mp : Int → Option Int} (L : Leafs t mp) {p : Nat} {n : Nd} (hlv : n.lv = (t.nd p).lv) (h0 : (t.nd p).lv ≠ 0) : Leafs (t.put p n) mp := by
  intro r hr hr0 q hq1 hq2
  by_cases e : r = p
  · subst e; rw [t.put_self, hlv] at hr0; exact absurd hr0 h0
  · rw [t.put_ne n e] at hr0 hq2 ⊢
    exact L r hr hr0 q hq1 hq2
/-- A node is split; of a leaf: each half has what the leaf, changed, had of its keys. -/
theorem Leafs.split {t : Tre} {mp : Int → Option Int} (L : Leafs t mp) (h : t.Ok) {p r : Nat} {a b : Nd} {mid k key v : Int} (s : t.SplitOk p r a b mid) (h0 : (t.nd p).lv = 0)
    (hla : ∀ q, q < mid → lmap a q = upd k key v (lmap (t.nd p)) q) (hlb : ∀ q, mid ≤ q → lmap b q = upd k key v (lmap (t.nd p)) q) (hk1 : t.low p ≤ key) (hk2 : key < (t.nd p).hi) : Leafs (t.split p r a b mid) (upd k key v mp) := by
  have hrp : r ≠ p := fun e => s.new (e ▸ s.inn)
  have hm1 := s.m1
  have hm2 := s.m2
  have key' : ∀ q, t.low p ≤ q → q < (t.nd p).hi → upd k key v (lmap (t.nd p)) q = upd k key v mp q := fun q h1 h2 => by
    have h9 := L p s.inn h0 q h1 h2
    by_cases hq : q = key
    · subst hq; unfold upd; rw [if_pos rfl, if_pos rfl, h9]
    · rw [upd_ne hq, upd_ne hq]; exact h9
  intro x hx hx0 q hq1 hq2
  by_cases ex : x = r
  · subst ex
    have e1 : (t.split p x a b mid).nd x = b := if_pos rfl
    have e2 : (t.split p x a b mid).low x = mid := if_pos rfl
    rw [e1] at hq2 ⊢
    rw [e2] at hq1
    rw [s.hib] at hq2
    rw [hlb q hq1]
    exact key' q (by omega) hq2
  · have hxi : t.inn x := by rcases hx with hx | hx; exact hx; exact absurd hx ex
    have e2 : (t.split p r a b mid).low x = t.low x := if_neg ex
    rw [e2] at hq1
    by_cases ep : x = p
    · subst ep
      have e1 : (t.split x r a b mid).nd x = a := by show (if x = r then b else if x = x then a else t.nd x) = a; rw [if_neg ex, if_pos rfl]
      rw [e1] at hq2 ⊢
      rw [s.hia] at hq2
      rw [hla q hq2]
      exact key' q hq1 (by omega)
    · have e1 : (t.split p r a b mid).nd x = t.nd x := by show (if x = r then b else if x = p then a else t.nd x) = t.nd x; rw [if_neg ex, if_neg ep]
      rw [e1] at hx0 hq2 ⊢
      have hqk : q ≠ key := fun hq => ep (h.alone hxi s.inn (by rw [hx0, h0]) (show t.low x ≤ key by rw [← hq]; exact hq1) (show key < (t.nd x).hi by rw [← hq]; exact hq2) hk1 hk2)
      rw [upd_ne hqk]
      exact L x hxi hx0 q hq1 hq2
/-- The root is set a level higher. -/
theorem Leafs.lift {t : Tre} {mp : Int → Option Int} (L : Leafs t mp) (h : t.Ok) {l : Nat} (hl : ¬ t.inn l) : Leafs (t.lift l) mp := by
  have l0 : l ≠ 0 := fun e => hl (e ▸ h.r0)
  have hr0 := (right_bd (t.nd 0) (h.rt 0 h.r0)).1
  intro x hx hx0 q hq1 hq2
  by_cases ex : x = l
  · subst ex
    have e1 : (t.lift x).nd x = t.nd 0 := if_pos rfl
    have e2 : (t.lift x).low x = 0 := if_pos rfl
    rw [e1] at hx0 hq2 ⊢
    rw [e2] at hq1
    exact L 0 h.r0 hx0 q (by rw [h.l0]; exact hq1) hq2
  · have hxi : t.inn x := by rcases hx with hx | hx; exact hx; exact absurd hx ex
    have e2 : (t.lift l).low x = t.low x := if_neg ex
    rw [e2] at hq1
    by_cases e0 : x = 0
    · subst e0
      have e1 : ((t.lift l).nd 0).lv = (t.nd 0).lv + 1 := by show (if 0 = l then _ else if 0 = 0 then _ else _ : Nd).lv = _; rw [if_neg (Ne.symm l0), if_pos rfl]
      rw [e1] at hx0
      omega
    · have e1 : (t.lift l).nd x = t.nd x := by show (if x = l then _ else if x = 0 then _ else t.nd x) = _; rw [if_neg ex, if_neg e0]
      rw [e1] at hx0 hq2 ⊢
      exact L x hxi hx0 q hq1 hq2
/-- A node that is no leaf is split. -/
theorem Leafs.splitN {t : Tre} {mp : Int → Option Int} (L : Leafs t mp) {p r : Nat} {a b : Nd} {mid : Int} (s : t.SplitOk p r a b mid) (h0 : (t.nd p).lv ≠ 0) : Leafs (t.split p r a b mid) mp := by
  intro x hx hx0 q hq1 hq2
  by_cases ex : x = r
  · subst ex
    have e1 : (t.split p x a b mid).nd x = b := if_pos rfl
    rw [e1, s.lvb] at hx0
    exact absurd hx0 h0
  · have hxi : t.inn x := by rcases hx with hx | hx; exact hx; exact absurd hx ex
    have e2 : (t.split p r a b mid).low x = t.low x := if_neg ex
    rw [e2] at hq1
    by_cases ep : x = p
    · subst ep
      have e1 : (t.split x r a b mid).nd x = a := by show (if x = r then b else if x = x then a else t.nd x) = a; rw [if_neg ex, if_pos rfl]
      rw [e1, s.lva] at hx0
      exact absurd hx0 h0
    · have e1 : (t.split p r a b mid).nd x = t.nd x := by show (if x = r then b else if x = p then a else t.nd x) = t.nd x; rw [if_neg ex, if_neg ep]
      rw [e1] at hx0 hq2 ⊢
      exact L x hxi hx0 q hq1 hq2
end Go.Proofs.YtajobgmnmbnhiaaDoor.Sap
