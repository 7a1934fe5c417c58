/- WHAT IS PROVED HERE: plain facts on lists of pairs as maps: what a leaf has, what a Put and a Drop make of it, what saplingkeep's table has (no program's function is walked). Conditions: none but those named at each theorem. -/
import Derived.Test.YtjpgldeeopmbgaaDoorV2
import Derived.Test.YtjpgldeeopmbgaaDoorK5
namespace Go.Proofs.YtjpgldeeopmbgaaDoor.Sap
open Go.RowKit

/-- What a list of pairs has for a key. -/
def look : List (Int × Int) → Int → Option Int
  | [], _ => none
  | x :: r, q => if x.1 = q then some x.2 else look r q

theorem look_append (a b : List (Int × Int)) (q : Int) : look (a ++ b) q = (look a q).or (look b q) := by
  induction a with
  | nil => simp [look]
  | cons x r ih =>
    simp only [List.cons_append, look]
    split
    · simp
    · exact ih
theorem look_filter (p : Int → Bool) (l : List (Int × Int)) (q : Int) : look (l.filter fun x => p x.1) q = if p q then look l q else none := by
  induction l with
  | nil => simp [look]
  | cons x r ih =>
    by_cases hx : p x.1
    · rw [List.filter_cons_of_pos (p := fun x : Int × Int => p x.1) hx]
      simp only [look]
      by_cases h : x.1 = q
      · rw [if_pos h, if_pos h, ← h, if_pos hx]
      · rw [if_neg h, if_neg h]; exact ih
    · rw [List.filter_cons_of_neg (p := fun x : Int × Int => p x.1) hx, ih]
      simp only [look]
      by_cases h : x.1 = q
      · rw [if_pos h, ← h, if_neg hx, if_neg hx]
      · rw [if_neg h]
theorem look_none {l : List (Int × Int)} {q : Int} (h : ∀ x ∈ l, x.1 ≠ q) : look l q = none := by
  induction l with
  | nil => rfl
  | cons x r ih =>
    simp only [look]
    rw [if_neg (h x (by simp))]
    exact ih fun y hy => h y (by simp [hy])
theorem look_mem {l : List (Int × Int)} (hn : (l.map Prod.fst).Nodup) {q v : Int} (h : (q, v) ∈ l) : look l q = some v := by
  induction l with
  | nil => cases h
  | cons x r ih =>
    simp only [List.map_cons, List.nodup_cons] at hn
    simp only [look]
    rcases List.mem_cons.1 h with rfl | h
    · simp
    · rw [if_neg (fun e => hn.1 (by rw [e]; exact List.mem_map.2 ⟨_, h, rfl⟩))]
      exact ih hn.2 h
theorem mem_look {l : List (Int × Int)} {q v : Int} (h : look l q = some v) : (q, v) ∈ l := by
  induction l with
  | nil => cases h
  | cons x r ih =>
    simp only [look] at h
    split at h
    next e => cases h; subst e; simp
    next e => exact List.mem_cons_of_mem _ (ih h)

theorem fnd_look (ks vs : List Int) (q : Int) (hp : ks.Pairwise (· < ·)) (hl : ks.length = vs.length) (k : Nat) (hk : k ≤ ks.length) : fndB ks q k = (look ((ks.zip vs).take k) q).isSome ∧ fndV ks vs q k = (look ((ks.zip vs).take k) q).getD 0 := by
  induction k with
  | zero => exact ⟨rfl, rfl⟩
  | succ k ih =>
    obtain ⟨h1, h2⟩ := ih (by omega)
    have hkz : k < (ks.zip vs).length := by simp; omega
    have e1 : ks[k]?.getD 0 = ks[k]'(by omega) := by rw [List.getElem?_eq_getElem (by omega)]; rfl
    have e2 : vs[k]?.getD 0 = vs[k]'(by omega) := by rw [List.getElem?_eq_getElem (by omega)]; rfl
    rw [List.take_add_one, List.getElem?_eq_getElem hkz, Option.toList_some, look_append]
    simp only [fndB, fndV, e1, e2, List.getElem_zip, look]
    by_cases h : ks[k]'(by omega) = q
    · rw [if_pos h, if_pos h, if_pos h]
      have hno : look ((ks.zip vs).take k) q = none := by
        refine look_none fun x hx e => ?_
        obtain ⟨i, hi⟩ := List.mem_iff_getElem?.1 hx
        rw [List.getElem?_take] at hi
        split at hi
        next hik =>
          rw [List.getElem?_zip_eq_some] at hi
          have h3 := List.pairwise_iff_getElem.1 hp i k (by omega) (by omega) hik
          have h4 : ks[i]'(by omega) = x.1 := by have := hi.1; rw [List.getElem?_eq_getElem (by omega)] at this; exact Option.some.inj this
          omega
        next => cases hi
      rw [hno]; exact ⟨rfl, rfl⟩
    · rw [if_neg h, if_neg h, if_neg h, Option.or_none]
      exact ⟨h1, h2⟩

theorem tk_zip (ks vs : List Int) (l h : Int) (K V : List Int) (hKV : K.length = V.length) (hl : ks.length = vs.length) (k : Nat) (hk : k ≤ ks.length) : (tkK ks l h K k).length = (tkV ks vs l h V k).length ∧ (tkK ks l h K k).zip (tkV ks vs l h V k) = K.zip V ++ ((ks.zip vs).take k).filter (fun x => (fun q => decide (l ≤ q) && decide (q < h)) x.1) := by
  induction k with
  | zero => simp [tkK, tkV, hKV]
  | succ k ih =>
    obtain ⟨h1, h2⟩ := ih (by omega)
    have hkz : k < (ks.zip vs).length := by simp; omega
    have e1 : ks[k]?.getD 0 = ks[k]'(by omega) := by rw [List.getElem?_eq_getElem (by omega)]; rfl
    have e2 : vs[k]?.getD 0 = vs[k]'(by omega) := by rw [List.getElem?_eq_getElem (by omega)]; rfl
    rw [List.take_add_one, List.getElem?_eq_getElem hkz, Option.toList_some, List.filter_append]
    simp only [tkK, tkV, e1, e2]
    by_cases hd : l ≤ ks[k]'(by omega) ∧ ks[k]'(by omega) < h
    · rw [if_pos hd, if_pos hd]
      refine ⟨by simp [h1], ?_⟩
      rw [List.zip_append h1, h2, List.append_assoc]
      congr 1
      congr 1
      simp [hd.1, hd.2]
    · rw [if_neg hd, if_neg hd]
      refine ⟨h1, ?_⟩
      rw [h2]
      congr 1
      have : (decide (l ≤ ks[k]'(by omega)) && decide (ks[k]'(by omega) < h)) = false := by
        rw [Bool.eq_false_iff]; intro e; simp only [Bool.and_eq_true, decide_eq_true_eq] at e; exact hd e
      simp [this]

/-- What a Put or a Drop of a key does to a map. -/
def upd (k key v : Int) (m : Int → Option Int) (q : Int) : Option Int := if q = key then (if k = 2 then some v else if k = 3 then none else m q) else m q

theorem ch_zip (n : Nd) (k key v : Int) (hl : n.ks.length = n.vs.length) : (chK n k key).length = (chV n k key v).length ∧ (chK n k key).zip (chV n k key v) = (n.ks.zip n.vs).filter (fun x => (fun q => decide (0 ≤ q) && decide (q < key)) x.1) ++ (if k = 2 then [(key, v)] else []) ++ (n.ks.zip n.vs).filter (fun x => (fun q => decide (key + 1 ≤ q) && decide (q < n.hi)) x.1) := by
  have hz : (n.ks.zip n.vs).take n.ks.length = n.ks.zip n.vs := List.take_of_length_le (by simp; omega)
  obtain ⟨a1, a2⟩ := tk_zip n.ks n.vs 0 key [] [] rfl hl n.ks.length (Nat.le_refl _)
  rw [hz] at a2
  have hlen : (tkK n.ks 0 key [] n.ks.length ++ (if k = 2 then [key] else [])).length = (tkV n.ks n.vs 0 key [] n.ks.length ++ (if k = 2 then [v] else [])).length := by
    rw [List.length_append, List.length_append, a1]; split <;> rfl
  obtain ⟨b1, b2⟩ := tk_zip n.ks n.vs (key + 1) n.hi _ _ hlen hl n.ks.length (Nat.le_refl _)
  rw [hz] at b2
  refine ⟨b1, ?_⟩
  unfold chK chV
  rw [b2, List.zip_append a1, a2]
  congr 2
  split <;> rfl

theorem ch_look (n : Nd) (k key v : Int) (hl : n.ks.length = n.vs.length) (hb : ∀ x ∈ n.ks, 0 ≤ x ∧ x < n.hi) (hk : k = 2 ∨ k = 3) (q : Int) : look ((chK n k key).zip (chV n k key v)) q = upd k key v (look (n.ks.zip n.vs)) q := by
  have hno : ∀ q, ¬ (0 ≤ q ∧ q < n.hi) → look (n.ks.zip n.vs) q = none := fun q hq => look_none fun x hx e => hq (by have := hb x.1 (List.of_mem_zip hx).1; rw [e] at this; exact this)
  rw [(ch_zip n k key v hl).2, look_append, look_append, look_filter (fun q => decide (0 ≤ q) && decide (q < key)), look_filter (fun q => decide (key + 1 ≤ q) && decide (q < n.hi))]
  unfold upd
  by_cases h1 : q = key
  · subst h1
    have e1 : (decide (0 ≤ q) && decide (q < q)) = false := by simp
    have e2 : (decide (q + 1 ≤ q) && decide (q < n.hi)) = false := by
      have : ¬ (q + 1 ≤ q) := by omega
      simp [this]
    simp only [e1, e2]
    rcases hk with rfl | rfl <;> simp [look]
  · rw [if_neg h1]
    have e3 : look (if k = 2 then [(key, v)] else []) q = none := by
      split
      · simp only [look]; rw [if_neg (fun e => h1 e.symm)]
      · rfl
    rw [e3, Option.or_none]
    by_cases h2 : q < key
    · have e2 : (decide (key + 1 ≤ q) && decide (q < n.hi)) = false := by
        have : ¬ (key + 1 ≤ q) := by omega
        simp [this]
      simp only [e2]
      by_cases h0 : 0 ≤ q
      · have e1 : (decide (0 ≤ q) && decide (q < key)) = true := by simp [h0, h2]
        simp [e1]
      · have e1 : (decide (0 ≤ q) && decide (q < key)) = false := by simp [h0]
        simp only [e1]
        rw [hno q (fun h => h0 h.1)]; rfl
    · have e1 : (decide (0 ≤ q) && decide (q < key)) = false := by simp [h2]
      simp only [e1]
      by_cases h3 : q < n.hi
      · have e2 : (decide (key + 1 ≤ q) && decide (q < n.hi)) = true := by
          have : key + 1 ≤ q := by omega
          simp [this, h3]
        simp [e2]
      · have e2 : (decide (key + 1 ≤ q) && decide (q < n.hi)) = false := by simp [h3]
        simp only [e2]
        rw [hno q (fun h => h3 h.2)]; rfl
end Go.Proofs.YtjpgldeeopmbgaaDoor.Sap
