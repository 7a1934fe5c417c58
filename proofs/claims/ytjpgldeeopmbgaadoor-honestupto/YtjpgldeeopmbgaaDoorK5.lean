/- WHAT IS PROVED HERE: saplingkeep's table.do as one step, and at: the map at a time, made again from nothing by what took effect ahead of it. Conditions: all operations have ended, and the Point of each is one of its accesses. -/
import Derived.Test.YtjpgldeeopmbgaaDoorK4
namespace Go.Proofs.YtjpgldeeopmbgaaDoor.Sap
open Go.RowKit

theorem tdo_len (kd key v : Int) (K V : List Int) (h : K.length = V.length) : (tdo kd key v K V).1.length = (tdo kd key v K V).2.length ∧ (tdo kd key v K V).1.length ≤ K.length + 1 := by
  unfold tdo
  split
  · split
    · exact ⟨by simp [h], by simp⟩
    · split
      · exact ⟨by simp [h], by simp; omega⟩
      · exact ⟨h, by simp⟩
  · split
    · exact ⟨by simp [h], by simp⟩
    · exact ⟨h, by simp⟩

theorem do_any (gt n : Nat) (kv vv : Value) (K V : List Int) (kd key v : Int) (fr : List As) (w0 w : World) (B : Nat) (hn : n < 1000000000) (hK : K.length = n) (hV : V.length = n)
    (h : M w0 B w (.blk gt #[kv, vv] 84 :: .row 3 1 kv n (ints K) :: .row 3 1 vv n (ints V) :: fr)) :
    Calls Tryd.prog 69 #[.pointer (some ⟨gt, 0, none⟩), .agg #[.int .i64 kd, .int .i64 key, .int .i64 v]] w fun e w' => (∃ u, e = .returned u) ∧ ∃ kv' vv',
      M w0 B w' (.blk gt #[kv', vv'] 84 :: .row 3 1 kv' (tdo kd key v K V).1.length (ints (tdo kd key v K V).1) :: .row 3 1 vv' (tdo kd key v K V).1.length (ints (tdo kd key v K V).2) :: fr) := by
  by_cases hm : key ∈ K
  · have hx := List.idxOf_lt_length_of_mem hm
    have h1 : K[K.idxOf key]? = some key := by rw [List.getElem?_eq_getElem hx, List.getElem_idxOf hx]
    have h2 : ∀ j, j < K.idxOf key → K[j]?.getD 0 ≠ key := by
      intro j hj he
      have hjl : j < K.length := by omega
      rw [List.getElem?_eq_getElem hjl] at he
      have : K.idxOf key ≤ j := by
        rw [← he]
        show K.idxOf K[j] ≤ j
        rcases Nat.lt_or_ge j (K.idxOf K[j]) with h | h
        · have := List.not_of_lt_findIdx (p := (· == K[j])) (xs := K) (i := j) h
          simp at this
        · exact h
      omega
    by_cases k2 : kd = 2
    · subst k2
      have e : tdo 2 key v K V = (K, V.set (K.idxOf key) v) := by unfold tdo; rw [if_pos hm, if_pos rfl]
      rw [e]
      refine (do_set gt n _ kv vv K V key v fr w0 w B (by omega) hK hV h1 h2 h).mono ?_
      rintro e w' ⟨he, hM⟩
      exact ⟨he, kv, vv, by rw [hK]; exact hM⟩
    · by_cases k3 : kd = 3
      · subst k3
        obtain ⟨m, rfl⟩ : ∃ m, n = m + 1 := ⟨n - 1, by omega⟩
        have e : tdo 3 key v K V = ((K.set (K.idxOf key) (K[m]?.getD 0)).take m, (V.set (K.idxOf key) (V[m]?.getD 0)).take m) := by unfold tdo; rw [if_pos hm, if_neg (by omega), if_pos rfl, hK]; rfl
        rw [e]
        refine (do_drop gt m _ kv vv K V key v fr w0 w B (by omega) hK hV h1 h2 h).mono ?_
        rintro e w' ⟨he, kv', vv', hM⟩
        refine ⟨he, kv', vv', ?_⟩
        rw [show ((K.set (K.idxOf key) (K[m]?.getD 0)).take m).length = m by simp [hK]]
        exact hM
      · have e : tdo kd key v K V = (K, V) := by unfold tdo; rw [if_pos hm, if_neg k2, if_neg k3]
        rw [e]
        refine (do_none gt n kv vv K V kd key v fr w0 w B (by omega) hK k2 (Or.inl k3) h).mono ?_
        rintro e w' ⟨he, hM⟩
        exact ⟨he, kv, vv, by rw [hK]; exact hM⟩
  · by_cases k2 : kd = 2
    · subst k2
      have e : tdo 2 key v K V = (K ++ [key], V ++ [v]) := by unfold tdo; rw [if_neg hm, if_pos rfl]
      rw [e]
      refine (do_add gt n kv vv K V key v fr w0 w B (by omega) hK hV hm h).mono ?_
      rintro e w' ⟨he, kv', vv', hM⟩
      exact ⟨he, kv', vv', by rw [List.length_append, hK]; exact hM⟩
    · have e : tdo kd key v K V = (K, V) := by unfold tdo; rw [if_neg hm, if_neg k2]
      rw [e]
      refine (do_none gt n kv vv K V kd key v fr w0 w B (by omega) hK k2 (Or.inr hm) h).mono ?_
      rintro e w' ⟨he, hM⟩
      exact ⟨he, kv, vv, by rw [hK]; exact hM⟩

/-- The map that these make, one after the other. -/
def tabO (l : List Dn) : List Int × List Int := l.foldl (fun KV d => tdo d.k d.key d.v KV.1 KV.2) ([], [])
theorem tabO_succ (l : List Dn) (i : Nat) (d : Dn) (h : l[i]? = some d) : tabO (l.take (i + 1)) = tdo d.k d.key d.v (tabO (l.take i)).1 (tabO (l.take i)).2 := by
  unfold tabO
  rw [List.take_add_one, h, Option.toList_some, List.foldl_append]
  rfl
theorem tabO_len (l : List Dn) : ∀ i, (tabO (l.take i)).1.length = (tabO (l.take i)).2.length ∧ (tabO (l.take i)).1.length ≤ i := by
  intro i
  induction i with
  | zero => simp [tabO]
  | succ i ih =>
    rcases Nat.lt_or_ge i l.length with h | h
    · rw [tabO_succ l i _ (List.getElem?_eq_getElem h)]
      have := tdo_len l[i].k l[i].key l[i].v _ _ ih.1
      exact ⟨this.1, by omega⟩
    · rw [List.take_of_length_le (by omega)]
      rw [List.take_of_length_le h] at ih
      exact ⟨ih.1, by omega⟩
/-- What took effect ahead of a time. -/
def ahead (l : List Dn) (time : Int) : List Dn := l.takeWhile fun d => decide (d.t < time)
theorem ahead_eq (l : List Dn) (time : Int) (i : Nat) (h1 : ∀ j d, j < i → l[j]? = some d → d.t < time) (h2 : ∀ d, l[i]? = some d → ¬ d.t < time) : ahead l time = l.take i := by
  unfold ahead
  induction l generalizing i with
  | nil => simp
  | cons a l ih =>
    cases i with
    | zero =>
      have := h2 a rfl
      simp [this]
    | succ i =>
      have h3 := h1 0 a (by omega) rfl
      rw [List.takeWhile_cons, if_pos (by simpa using h3), List.take_succ_cons, ih i (fun j d hj hd => h1 (j + 1) d (by omega) (by simpa using hd)) (fun d hd => h2 d (by simpa using hd))]
end Go.Proofs.YtjpgldeeopmbgaaDoor.Sap
