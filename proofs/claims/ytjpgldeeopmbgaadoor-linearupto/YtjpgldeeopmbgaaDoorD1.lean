/- WHAT IS PROVED HERE: plain facts: over pages that stand, each look of a Get leads nearer to its key's leaf, and the leaf has what the map has (no program's function is walked). Conditions: none but those named at each theorem. -/
import Derived.Test.YtjpgldeeopmbgaaDoorG1
import Derived.Test.YtjpgldeeopmbgaaDoorL2
import Derived.Test.YtjpgldeeopmbgaaDoorC1
namespace Go.Proofs.YtjpgldeeopmbgaaDoor.Sap
open Go.RowKit

theorem chl_spec (ks vs : List Int) (key : Int) (k : Nat) (hk : k ≤ ks.length) (h0 : 0 < k) (hle : ks[0]?.getD 0 ≤ key) : ∃ i, i < k ∧ ks[i]?.getD 0 ≤ key ∧ chl ks vs key k = vs[i]?.getD 0 := by
  induction k with
  | zero => omega
  | succ k ih =>
    by_cases h : ks[k]?.getD 0 ≤ key
    · exact ⟨k, by omega, h, by rw [chl, if_pos h]⟩
    · have hk0 : 0 < k := by
        rcases Nat.eq_zero_or_pos k with rfl | h1
        · exact absurd hle h
        · exact h1
      obtain ⟨i, h1, h2, h3⟩ := ih (by omega) hk0
      exact ⟨i, by omega, h2, by rw [chl, if_neg h]; exact h3⟩

theorem fnd_none (ks vs : List Int) (key : Int) (k : Nat) (h : ∀ i, i < k → ks[i]?.getD 0 ≠ key) : fndB ks key k = false ∧ fndV ks vs key k = 0 := by
  induction k with
  | zero => exact ⟨rfl, rfl⟩
  | succ k ih =>
    have h1 := ih (fun i hi => h i (by omega))
    have h2 := h k (by omega)
    exact ⟨by rw [fndB, if_neg h2]; exact h1.1, by rw [fndV, if_neg h2]; exact h1.2⟩
theorem fnd_some (ks vs : List Int) (key : Int) (k i : Nat) (hi : i < k) (he : ks[i]?.getD 0 = key) (h : ∀ j, i < j → j < k → ks[j]?.getD 0 ≠ key) : fndB ks key k = true ∧ fndV ks vs key k = vs[i]?.getD 0 := by
  induction k with
  | zero => omega
  | succ k ih =>
    by_cases hk : i = k
    · subst hk
      exact ⟨by rw [fndB, if_pos he], by rw [fndV, if_pos he]⟩
    · have h1 := ih (by omega) (fun j h1 h2 => h j h1 (by omega))
      have h2 := h k (by omega) (by omega)
      exact ⟨by rw [fndB, if_neg h2]; exact h1.1, by rw [fndV, if_neg h2]; exact h1.2⟩

theorem zip_at {a b : List Int} {i : Nat} {x y : Int} (ha : a[i]? = some x) (hb : b[i]? = some y) : (x, y) ∈ a.zip b := by
  refine List.mem_of_getElem? (i := i) ?_
  rw [List.getElem?_zip_eq_some]; exact ⟨ha, hb⟩

/-- The leaf of a key has for it what the map has. -/
theorem get_found {K V ks vs : List Int} {key l h : Int} {fd : Bool} {v : Int} (hks : ks.Pairwise (· < ·)) (hlen : ks.length = vs.length) (hf : (K.zip V).filter (fun x => decide (l ≤ x.1) && decide (x.1 < h)) = ks.zip vs)
    (hlo : l ≤ key) (hhi : key < h) (hV : ValR K V key fd v) : fd = fndB ks key ks.length ∧ v = fndV ks vs key ks.length := by
  have hdis : ∀ i j, i < j → j < ks.length → ks[i]?.getD 0 < ks[j]?.getD 0 := by
    intro i j hij hj
    have := List.pairwise_iff_getElem.1 hks i j (by omega) hj hij
    simpa [List.getElem?_eq_getElem (show i < ks.length by omega), List.getElem?_eq_getElem hj] using this
  rcases hV with ⟨rfl, rfl, hno⟩ | ⟨i, rfl, h1, h2, -⟩
  · have hnk : ∀ i, i < ks.length → ks[i]?.getD 0 ≠ key := by
      intro i hi e
      apply hno
      rw [List.getElem?_eq_getElem hi] at e
      simp at e
      have hm : (ks[i], vs[i]'(by omega)) ∈ ks.zip vs := zip_at (List.getElem?_eq_getElem hi) (List.getElem?_eq_getElem (by omega))
      rw [← hf] at hm
      have := (List.mem_filter.1 hm).1
      rw [← e]
      exact mem_zip_key this
    have := fnd_none ks vs key ks.length hnk
    exact ⟨this.1.symm, this.2.symm⟩
  · have hm : (key, v) ∈ ks.zip vs := by
      rw [← hf]
      refine List.mem_filter.2 ⟨zip_at h1 h2, ?_⟩
      simp [hlo, hhi]
    obtain ⟨j, hj⟩ := List.mem_iff_getElem?.1 hm
    rw [List.getElem?_zip_eq_some] at hj
    have hjl : j < ks.length := (List.getElem?_eq_some_iff.1 hj.1).1
    have := fnd_some ks vs key ks.length j hjl (by rw [hj.1]; rfl) (fun i h1 h2 e => by
      have := hdis j i h1 h2
      rw [hj.1] at this
      simp only [Option.getD_some] at this
      omega)
    rw [hj.2] at this
    exact ⟨this.1.symm, this.2.symm⟩

/-- From a page whose node is not the key's leaf a look leads on, to one whose rank is less. -/
theorem look_on {T : List ByteArray} {p0 : Nat} {KV : List (Int × Int)} {rk : Nat → Nat} {lo : Nat → Int} (hT : Tree T p0 KV rk lo) {p : Nat} {n : Nd} {key : Int} (hA : AtP T 0 p0 p n) (hk1 : lo p ≤ key) (hk2 : key ≤ 9999) (hgo : n.lv ≠ 0 ∨ n.hi ≤ key) :
    ∃ q m, onwV n key = ((q : Nat) : Int) ∧ AtP T 0 p0 q m ∧ lo q ≤ key ∧ rk q < rk p := by
  obtain ⟨n', hA', hS⟩ := hT.ok p hA.2.1
  have e := hA.uniq hA'
  subst e
  by_cases hh : n.hi ≤ key
  · obtain ⟨q, m, a1, a2, -, a4, a5⟩ := hS.link (by omega)
    exact ⟨q, m, by unfold onwV; rw [if_pos hh]; exact a1, a2, by rw [a4]; exact hh, a5⟩
  · have hlv : n.lv ≠ 0 := by rcases hgo with h | h; exact h; exact absurd h hh
    obtain ⟨b1, b2⟩ := hS.kids hlv
    have hr := right_bd n (by obtain ⟨-, -, t, -, hu⟩ := hA; exact hu.1)
    have hlen : n.ks.length = n.vs.length := hr.2.2.2.1
    have hpos : 0 < n.ks.length := by
      rcases Nat.eq_zero_or_pos n.ks.length with h | h
      · rw [List.eq_nil_of_length_eq_zero h] at b1; cases b1
      · exact h
    obtain ⟨i, h1, h2, h3⟩ := chl_spec n.ks n.vs key n.ks.length (Nat.le_refl _) hpos (by rw [b1]; exact hk1)
    have hvi : i < n.vs.length := by omega
    obtain ⟨q, m, a1, a2, a3, a4⟩ := b2 i _ _ (List.getElem?_eq_getElem h1) (List.getElem?_eq_getElem hvi)
    rw [List.getElem?_eq_getElem h1] at h2
    rw [List.getElem?_eq_getElem hvi] at h3
    simp only [Option.getD_some] at h2 h3
    exact ⟨q, m, by unfold onwV; rw [if_neg hh, h3]; exact a1, a2, by rw [a3]; exact h2, a4⟩
end Go.Proofs.YtjpgldeeopmbgaaDoor.Sap
