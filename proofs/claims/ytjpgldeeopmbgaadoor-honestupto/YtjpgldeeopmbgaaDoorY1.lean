/- WHAT IS PROVED HERE: plain facts: a leaf behind a Put or a Drop is a right node again; what saplingkeep's table has, made by the operations in their order (no program's function is walked). Conditions: none but those named at each theorem. -/
import Derived.Test.YtjpgldeeopmbgaaDoorY0
import Derived.Test.YtjpgldeeopmbgaaDoorG1
namespace Go.Proofs.YtjpgldeeopmbgaaDoor.Sap
open Go.RowKit

theorem keysOk_mk (hi l : Int) (ks : List Int) (hp : ks.Pairwise (· < ·)) (hb : ∀ k ∈ ks, l ≤ k ∧ k < hi) : keysOk hi l ks = true := by
  induction ks generalizing l with
  | nil => rfl
  | cons x r ih =>
    rw [List.pairwise_cons] at hp
    have h1 := hb x (by simp)
    simp only [keysOk, Bool.and_eq_true, decide_eq_true_eq]
    exact ⟨h1.1, h1.2, ih (x + 1) hp.2 fun k hk => ⟨by have := hp.1 k hk; omega, (hb k (by simp [hk])).2⟩⟩
theorem valsOk_iff (lv : Int) (vs : List Int) : valsOk lv vs = true ↔ ∀ v ∈ vs, valOk lv v = true := by
  induction vs with
  | nil => simp [valsOk]
  | cons x r ih => simp [valsOk, ih]
theorem cnt3 (ks : List Int) (key hi : Int) : (ks.filter (fun q => decide (0 ≤ q) && decide (q < key))).length + (ks.filter (fun q => decide (key + 1 ≤ q) && decide (q < hi))).length + (ks.filter (fun q => decide (q = key))).length ≤ ks.length := by
  induction ks with
  | nil => simp
  | cons x r ih =>
    simp only [List.filter_cons, List.length_cons]
    by_cases h1 : x = key
    · have e1 : (decide (0 ≤ x) && decide (x < key)) = false := by rw [Bool.and_eq_false_iff]; right; rw [decide_eq_false_iff_not]; omega
      have e2 : (decide (key + 1 ≤ x) && decide (x < hi)) = false := by rw [Bool.and_eq_false_iff]; left; rw [decide_eq_false_iff_not]; omega
      have e3 : decide (x = key) = true := by simp [h1]
      simp only [e1, e2, e3, if_true, Bool.false_eq_true, if_false, List.length_cons]; omega
    · have e3 : decide (x = key) = false := by simp [h1]
      simp only [e3, Bool.false_eq_true, if_false]
      by_cases h2 : x < key
      · have e2 : (decide (key + 1 ≤ x) && decide (x < hi)) = false := by rw [Bool.and_eq_false_iff]; left; rw [decide_eq_false_iff_not]; omega
        simp only [e2, Bool.false_eq_true, if_false]
        split <;> (try simp only [List.length_cons]) <;> omega
      · have e1 : (decide (0 ≤ x) && decide (x < key)) = false := by simp [h2]
        simp only [e1, Bool.false_eq_true, if_false]
        split <;> (try simp only [List.length_cons]) <;> omega

theorem chK_eq (n : Nd) (k key v : Int) (hl : n.ks.length = n.vs.length) : chK n k key = n.ks.filter (fun q => decide (0 ≤ q) && decide (q < key)) ++ (if k = 2 then [key] else []) ++ n.ks.filter (fun q => decide (key + 1 ≤ q) && decide (q < n.hi)) := by
  obtain ⟨h1, h2⟩ := ch_zip n k key v hl
  have h3 := congrArg (List.map Prod.fst) h2
  rw [List.map_fst_zip (by omega)] at h3
  rw [h3, List.map_append, List.map_append]
  have e : ∀ p : Int → Bool, ((n.ks.zip n.vs).filter (fun x => p x.1)).map Prod.fst = n.ks.filter p := fun p => by
    have : n.ks = (n.ks.zip n.vs).map Prod.fst := (List.map_fst_zip (by omega)).symm
    conv => rhs; rw [this]
    rw [List.filter_map]; rfl
  rw [e (fun q => decide (0 ≤ q) && decide (q < key)), e (fun q => decide (key + 1 ≤ q) && decide (q < n.hi))]
  congr 2
  split <;> rfl

theorem ch_right (n : Nd) (k key v : Int) (hr : rightB n = true) (hlv : n.lv = 0) (hk : k = 2 ∨ k = 3) (hv : k = 2 → 0 ≤ v ∧ v ≤ 9999) (h1 : 1 ≤ key) (h2 : key < n.hi) (h5 : k = 2 → key ∈ n.ks ∨ n.ks.length < 5) : rightB ⟨n.lv, n.lk, n.hi, chK n k key, chV n k key v⟩ = true := by
  have hb := right_bd n hr
  have hl := hb.2.2.2.1
  have hkc := chK_eq n k key v hl
  unfold rightB at hr ⊢
  simp only [Bool.and_eq_true, decide_eq_true_eq] at hr ⊢
  obtain ⟨r1, r2, r3, r4, r5, r6, r7⟩ := hr
  have hall := keysOk_all _ _ _ r6
  have hpw := keysOk_pair _ _ _ r6
  have hle : least n.lv = 1 := by rw [hlv]; rfl
  refine ⟨r1, r2, r3, (ch_zip n k key v hl).1, ?_, ?_, ?_⟩
  · have hc := cnt3 n.ks key n.hi
    have hlen : (chK n k key).length ≤ 5 := by
      rw [hkc, List.length_append, List.length_append]
      have h5' := hb.2.2.2.2.2.1 hlv
      rcases hk with rfl | rfl
      · rcases h5 rfl with hm | hm
        · have : 0 < (n.ks.filter (fun q => decide (q = key))).length := List.length_pos_of_mem (List.mem_filter.2 ⟨hm, by simp⟩)
          simp only [if_true, List.length_singleton]; omega
        · simp only [if_true, List.length_singleton]; omega
      · have : ¬ (3 : Int) = 2 := by decide
        rw [if_neg this, List.length_nil]; omega
    rw [hlv]
    unfold cntOk
    simp only [if_true, decide_eq_true_eq]
    first
      | omega
      | (simp; omega)
  · rw [hkc]
    refine keysOk_mk _ _ _ ?_ ?_
    · rw [List.pairwise_append, List.pairwise_append]
      refine ⟨⟨hpw.filter _, by split <;> simp, fun a ha b hb => ?_⟩, hpw.filter _, fun a ha b hb => ?_⟩
      · have := (List.mem_filter.1 ha).2
        simp only [Bool.and_eq_true, decide_eq_true_eq] at this
        split at hb
        · rw [List.mem_singleton] at hb; omega
        · cases hb
      · have h8 := (List.mem_filter.1 hb).2
        simp only [Bool.and_eq_true, decide_eq_true_eq] at h8
        rcases List.mem_append.1 ha with ha | ha
        · have := (List.mem_filter.1 ha).2
          simp only [Bool.and_eq_true, decide_eq_true_eq] at this
          omega
        · split at ha
          · rw [List.mem_singleton] at ha; omega
          · cases ha
    · intro q hq
      rcases List.mem_append.1 hq with hq | hq
      · rcases List.mem_append.1 hq with hq | hq
        · exact hall q (List.mem_filter.1 hq).1
        · split at hq
          · rw [List.mem_singleton] at hq; rw [hle]; omega
          · cases hq
      · exact hall q (List.mem_filter.1 hq).1
  · rw [valsOk_iff]
    intro x hx
    have hmem : ∃ q, (q, x) ∈ (chK n k key).zip (chV n k key v) := by
      obtain ⟨i, hi⟩ := List.mem_iff_getElem?.1 hx
      have hil := (List.getElem?_eq_some_iff.1 hi).1
      have hlz := (ch_zip n k key v hl).1
      exact ⟨(chK n k key)[i]'(by omega), by
        refine List.mem_iff_getElem?.2 ⟨i, ?_⟩
        rw [List.getElem?_zip_eq_some]
        exact ⟨List.getElem?_eq_getElem (by omega), hi⟩⟩
    obtain ⟨q, hq⟩ := hmem
    rw [(ch_zip n k key v hl).2] at hq
    have hvs : ∀ y ∈ n.ks.zip n.vs, valOk n.lv y.2 = true := fun y hy => (valsOk_iff _ _).1 r7 _ (List.of_mem_zip hy).2
    rcases List.mem_append.1 hq with hq | hq
    · rcases List.mem_append.1 hq with hq | hq
      · exact hvs _ (List.mem_filter.1 hq).1
      · split at hq
        next h =>
          rw [List.mem_singleton] at hq
          cases hq
          have := hv h
          rw [hlv]
          simp [valOk, this.1, this.2]
        next => cases hq
    · exact hvs _ (List.mem_filter.1 hq).1
end Go.Proofs.YtjpgldeeopmbgaaDoor.Sap
