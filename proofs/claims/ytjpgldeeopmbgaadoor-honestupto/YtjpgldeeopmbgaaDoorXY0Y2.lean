/- WHAT IS PROVED HERE: plain facts on lists of pairs as maps: what a leaf has, what a Put and a Drop make of it, what saplingkeep's table has (no program's function is walked). Conditions: none but those named at each theorem. -/
import Derived.Test.YtjpgldeeopmbgaaDoorXL3V2
import Derived.Test.YtjpgldeeopmbgaaDoorXK4S3
import Derived.Test.YtjpgldeeopmbgaaDoorXS4G1
namespace Go.Proofs.YtjpgldeeopmbgaaDoor.Sap
open Go.RowKit

/-- What a list of pairs has for a key. -/
def look : List (Int × Int) → Int → Option Int
  | [], _ => none
  | x :: r, q => if x.1 = q then some x.2 else look r q

theorem look_append (a b : List (Int × Int)) (q : Int) : look (a ++ b) q = (look a q).or (look b q) := by
  induction a with
  | nil => simp [look]
  | cons x r ih =>
    simp only [List.cons_append, look]
    split
    · simp
    · exact ih
theorem look_filter (p : Int → Bool) (l : List (Int × Int)) (q : Int) : look (l.filter fun x => p x.1) q = if p q then look l q else none := by
  induction l with
  | nil => simp [look]
  | cons x r ih =>
    by_cases hx : p x.1
    · rw [List.filter_cons_of_pos (p := fun x : Int × Int => p x.1) hx]
      simp only [look]
      by_cases h : x.1 = q
      · rw [if_pos h, if_pos h, ← h, if_pos hx]
      · rw [if_neg h, if_neg h]; exact ih
    · rw [List.filter_cons_of_neg (p := fun x : Int × Int => p x.1) hx, ih]
      simp only [look]
      by_cases h : x.1 = q
      · rw [if_pos h, ← h, if_neg hx, if_neg hx]
      · rw [if_neg h]
theorem look_none {l : List (Int × Int)} {q : Int} (h : ∀ x ∈ l, x.1 ≠ q) : look l q = none := by
  induction l with
  | nil => rfl
  | cons x r ih =>
    simp only [look]
    rw [if_neg (h x (by simp))]
    exact ih fun y hy => h y (by simp [hy])
theorem look_mem {l : List (Int × Int)} (hn : (l.map Prod.fst).Nodup) {q v : Int} (h : (q, v) ∈ l) : look l q = some v := by
  induction l with
  | nil => cases h
  | cons x r ih =>
    simp only [List.map_cons, List.nodup_cons] at hn
    simp only [look]
    rcases List.mem_cons.1 h with rfl | h
    · simp
    · rw [if_neg (fun e => hn.1 (by rw [e]; exact List.mem_map.2 ⟨_, h, rfl⟩))]
      exact ih hn.2 h
theorem mem_look {l : List (Int × Int)} {q v : Int} (h : look l q = some v) : (q, v) ∈ l := by
  induction l with
  | nil => cases h
  | cons x r ih =>
    simp only [look] at h
    split at h
    next e => cases h; subst e; simp
    next e => exact List.mem_cons_of_mem _ (ih h)

theorem fnd_look (ks vs : List Int) (q : Int) (hp : ks.Pairwise (· < ·)) (hl : ks.length = vs.length) (k : Nat) (hk : k ≤ ks.length) : fndB ks q k = (look ((ks.zip vs).take k) q).isSome ∧ fndV ks vs q k = (look ((ks.zip vs).take k) q).getD 0 := by
  induction k with
  | zero => exact ⟨rfl, rfl⟩
  | succ k ih =>
    obtain ⟨h1, h2⟩ := ih (by omega)
    have hkz : k < (ks.zip vs).length := by simp; omega
    have e1 : ks[k]?.getD 0 = ks[k]'(by omega) := by rw [List.getElem?_eq_getElem (by omega)]; rfl
    have e2 : vs[k]?.getD 0 = vs[k]'(by omega) := by rw [List.getElem?_eq_getElem (by omega)]; rfl
    rw [List.take_add_one, List.getElem?_eq_getElem hkz, Option.toList_some, look_append]
    simp only [fndB, fndV, e1, e2, List.getElem_zip, look]
    by_cases h : ks[k]'(by omega) = q
    · rw [if_pos h, if_pos h, if_pos h]
      have hno : look ((ks.zip vs).take k) q = none := by
        refine look_none fun x hx e => ?_
        obtain ⟨i, hi⟩ := List.mem_iff_getElem?.1 hx
        rw [List.getElem?_take] at hi
        split at hi
        next hik =>
          rw [List.getElem?_zip_eq_some] at hi
          have h3 := List.pairwise_iff_getElem.1 hp i k (by omega) (by omega) hik
          have h4 : ks[i]'(by omega) = x.1 := by have := hi.1; rw [List.getElem?_eq_getElem (by omega)] at this; exact Option.some.inj this
          omega
        next => cases hi
      rw [hno]; exact ⟨rfl, rfl⟩
    · rw [if_neg h, if_neg h, if_neg h, Option.or_none]
      exact ⟨h1, h2⟩

theorem tk_zip (ks vs : List Int) (l h : Int) (K V : List Int) (hKV : K.length = V.length) (hl : ks.length = vs.length) (k : Nat) (hk : k ≤ ks.length) : (tkK ks l h K k).length = (tkV ks vs l h V k).length ∧ (tkK ks l h K k).zip (tkV ks vs l h V k) = K.zip V ++ ((ks.zip vs).take k).filter (fun x => (fun q => decide (l ≤ q) && decide (q < h)) x.1) := by
  induction k with
  | zero => simp [tkK, tkV, hKV]
  | succ k ih =>
    obtain ⟨h1, h2⟩ := ih (by omega)
    have hkz : k < (ks.zip vs).length := by simp; omega
    have e1 : ks[k]?.getD 0 = ks[k]'(by omega) := by rw [List.getElem?_eq_getElem (by omega)]; rfl
    have e2 : vs[k]?.getD 0 = vs[k]'(by omega) := by rw [List.getElem?_eq_getElem (by omega)]; rfl
    rw [List.take_add_one, List.getElem?_eq_getElem hkz, Option.toList_some, List.filter_append]
    simp only [tkK, tkV, e1, e2]
    by_cases hd : l ≤ ks[k]'(by omega) ∧ ks[k]'(by omega) < h
    · rw [if_pos hd, if_pos hd]
      refine ⟨by simp [h1], ?_⟩
      rw [List.zip_append h1, h2, List.append_assoc]
      congr 1
      congr 1
      simp [hd.1, hd.2]
    · rw [if_neg hd, if_neg hd]
      refine ⟨h1, ?_⟩
      rw [h2]
      congr 1
      have : (decide (l ≤ ks[k]'(by omega)) && decide (ks[k]'(by omega) < h)) = false := by
        rw [Bool.eq_false_iff]; intro e; simp only [Bool.and_eq_true, decide_eq_true_eq] at e; exact hd e
      simp [this]

/-- What a Put or a Drop of a key does to a map. -/
def upd (k key v : Int) (m : Int → Option Int) (q : Int) : Option Int := if q = key then (if k = 2 then some v else if k = 3 then none else m q) else m q

theorem ch_zip (n : Nd) (k key v : Int) (hl : n.ks.length = n.vs.length) : (chK n k key).length = (chV n k key v).length ∧ (chK n k key).zip (chV n k key v) = (n.ks.zip n.vs).filter (fun x => (fun q => decide (0 ≤ q) && decide (q < key)) x.1) ++ (if k = 2 then [(key, v)] else []) ++ (n.ks.zip n.vs).filter (fun x => (fun q => decide (key + 1 ≤ q) && decide (q < n.hi)) x.1) := by
  have hz : (n.ks.zip n.vs).take n.ks.length = n.ks.zip n.vs := List.take_of_length_le (by simp; omega)
  obtain ⟨a1, a2⟩ := tk_zip n.ks n.vs 0 key [] [] rfl hl n.ks.length (Nat.le_refl _)
  rw [hz] at a2
  have hlen : (tkK n.ks 0 key [] n.ks.length ++ (if k = 2 then [key] else [])).length = (tkV n.ks n.vs 0 key [] n.ks.length ++ (if k = 2 then [v] else [])).length := by
    rw [List.length_append, List.length_append, a1]; split <;> rfl
  obtain ⟨b1, b2⟩ := tk_zip n.ks n.vs (key + 1) n.hi _ _ hlen hl n.ks.length (Nat.le_refl _)
  rw [hz] at b2
  refine ⟨b1, ?_⟩
  unfold chK chV
  rw [b2, List.zip_append a1, a2]
  congr 2
  split <;> rfl

theorem ch_look (n : Nd) (k key v : Int) (hl : n.ks.length = n.vs.length) (hb : ∀ x ∈ n.ks, 0 ≤ x ∧ x < n.hi) (hk : k = 2 ∨ k = 3) (q : Int) : look ((chK n k key).zip (chV n k key v)) q = upd k key v (look (n.ks.zip n.vs)) q := by
  have hno : ∀ q, ¬ (0 ≤ q ∧ q < n.hi) → look (n.ks.zip n.vs) q = none := fun q hq => look_none fun x hx e => hq (by have := hb x.1 (List.of_mem_zip hx).1; rw [e] at this; exact this)
  rw [(ch_zip n k key v hl).2, look_append, look_append, look_filter (fun q => decide (0 ≤ q) && decide (q < key)), look_filter (fun q => decide (key + 1 ≤ q) && decide (q < n.hi))]
  unfold upd
  by_cases h1 : q = key
  · subst h1
    have e1 : (decide (0 ≤ q) && decide (q < q)) = false := by simp
    have e2 : (decide (q + 1 ≤ q) && decide (q < n.hi)) = false := by
      have : ¬ (q + 1 ≤ q) := by omega
      simp [this]
    simp only [e1, e2]
    rcases hk with rfl | rfl <;> simp [look]
  · rw [if_neg h1]
    have e3 : look (if k = 2 then [(key, v)] else []) q = none := by
      split
      · simp only [look]; rw [if_neg (fun e => h1 e.symm)]
      · rfl
    rw [e3, Option.or_none]
    by_cases h2 : q < key
    · have e2 : (decide (key + 1 ≤ q) && decide (q < n.hi)) = false := by
        have : ¬ (key + 1 ≤ q) := by omega
        simp [this]
      simp only [e2]
      by_cases h0 : 0 ≤ q
      · have e1 : (decide (0 ≤ q) && decide (q < key)) = true := by simp [h0, h2]
        simp [e1]
      · have e1 : (decide (0 ≤ q) && decide (q < key)) = false := by simp [h0]
        simp only [e1]
        rw [hno q (fun h => h0 h.1)]; rfl
    · have e1 : (decide (0 ≤ q) && decide (q < key)) = false := by simp [h2]
      simp only [e1]
      by_cases h3 : q < n.hi
      · have e2 : (decide (key + 1 ≤ q) && decide (q < n.hi)) = true := by
          have : key + 1 ≤ q := by omega
          simp [this, h3]
        simp [e2]
      · have e2 : (decide (key + 1 ≤ q) && decide (q < n.hi)) = false := by simp [h3]
        simp only [e2]
        rw [hno q (fun h => h3 h.2)]; rfl
end Go.Proofs.YtjpgldeeopmbgaaDoor.Sap

/- WHAT IS PROVED HERE: plain facts: a leaf behind a Put or a Drop is a right node again; what saplingkeep's table has, made by the operations in their order (no program's function is walked). Conditions: none but those named at each theorem. -/
namespace Go.Proofs.YtjpgldeeopmbgaaDoor.Sap
open Go.RowKit

theorem keysOk_mk (hi l : Int) (ks : List Int) (hp : ks.Pairwise (· < ·)) (hb : ∀ k ∈ ks, l ≤ k ∧ k < hi) : keysOk hi l ks = true := by
  induction ks generalizing l with
  | nil => rfl
  | cons x r ih =>
    rw [List.pairwise_cons] at hp
    have h1 := hb x (by simp)
    simp only [keysOk, Bool.and_eq_true, decide_eq_true_eq]
    exact ⟨h1.1, h1.2, ih (x + 1) hp.2 fun k hk => ⟨by have := hp.1 k hk; omega, (hb k (by simp [hk])).2⟩⟩
theorem valsOk_iff (lv : Int) (vs : List Int) : valsOk lv vs = true ↔ ∀ v ∈ vs, valOk lv v = true := by
  induction vs with
  | nil => simp [valsOk]
  | cons x r ih => simp [valsOk, ih]
theorem cnt3 (ks : List Int) (key hi : Int) : (ks.filter (fun q => decide (0 ≤ q) && decide (q < key))).length + (ks.filter (fun q => decide (key + 1 ≤ q) && decide (q < hi))).length + (ks.filter (fun q => decide (q = key))).length ≤ ks.length := by
  induction ks with
  | nil => simp
  | cons x r ih =>
    simp only [List.filter_cons, List.length_cons]
    by_cases h1 : x = key
    · have e1 : (decide (0 ≤ x) && decide (x < key)) = false := by rw [Bool.and_eq_false_iff]; right; rw [decide_eq_false_iff_not]; omega
      have e2 : (decide (key + 1 ≤ x) && decide (x < hi)) = false := by rw [Bool.and_eq_false_iff]; left; rw [decide_eq_false_iff_not]; omega
      have e3 : decide (x = key) = true := by simp [h1]
      simp only [e1, e2, e3, if_true, Bool.false_eq_true, if_false, List.length_cons]; omega
    · have e3 : decide (x = key) = false := by simp [h1]
      simp only [e3, Bool.false_eq_true, if_false]
      by_cases h2 : x < key
      · have e2 : (decide (key + 1 ≤ x) && decide (x < hi)) = false := by rw [Bool.and_eq_false_iff]; left; rw [decide_eq_false_iff_not]; omega
        simp only [e2, Bool.false_eq_true, if_false]
        split <;> (try simp only [List.length_cons]) <;> omega
      · have e1 : (decide (0 ≤ x) && decide (x < key)) = false := by simp [h2]
        simp only [e1, Bool.false_eq_true, if_false]
        split <;> (try simp only [List.length_cons]) <;> omega

theorem chK_eq (n : Nd) (k key v : Int) (hl : n.ks.length = n.vs.length) : chK n k key = n.ks.filter (fun q => decide (0 ≤ q) && decide (q < key)) ++ (if k = 2 then [key] else []) ++ n.ks.filter (fun q => decide (key + 1 ≤ q) && decide (q < n.hi)) := by
  obtain ⟨h1, h2⟩ := ch_zip n k key v hl
  have h3 := congrArg (List.map Prod.fst) h2
  rw [List.map_fst_zip (by omega)] at h3
  rw [h3, List.map_append, List.map_append]
  have e : ∀ p : Int → Bool, ((n.ks.zip n.vs).filter (fun x => p x.1)).map Prod.fst = n.ks.filter p := fun p => by
    have : n.ks = (n.ks.zip n.vs).map Prod.fst := (List.map_fst_zip (by omega)).symm
    conv => rhs; rw [this]
    rw [List.filter_map]; rfl
  rw [e (fun q => decide (0 ≤ q) && decide (q < key)), e (fun q => decide (key + 1 ≤ q) && decide (q < n.hi))]
  congr 2
  split <;> rfl

theorem ch_right (n : Nd) (k key v : Int) (hr : rightB n = true) (hlv : n.lv = 0) (hk : k = 2 ∨ k = 3) (hv : k = 2 → 0 ≤ v ∧ v ≤ 9999) (h1 : 1 ≤ key) (h2 : key < n.hi) (h5 : k = 2 → key ∈ n.ks ∨ n.ks.length < 5) : rightB ⟨n.lv, n.lk, n.hi, chK n k key, chV n k key v⟩ = true := by
  have hb := right_bd n hr
  have hl := hb.2.2.2.1
  have hkc := chK_eq n k key v hl
  unfold rightB at hr ⊢
  simp only [Bool.and_eq_true, decide_eq_true_eq] at hr ⊢
  obtain ⟨r1, r2, r3, r4, r5, r6, r7⟩ := hr
  have hall := keysOk_all _ _ _ r6
  have hpw := keysOk_pair _ _ _ r6
  have hle : least n.lv = 1 := by rw [hlv]; rfl
  refine ⟨r1, r2, r3, (ch_zip n k key v hl).1, ?_, ?_, ?_⟩
  · have hc := cnt3 n.ks key n.hi
    have hlen : (chK n k key).length ≤ 5 := by
      rw [hkc, List.length_append, List.length_append]
      have h5' := hb.2.2.2.2.2.1 hlv
      rcases hk with rfl | rfl
      · rcases h5 rfl with hm | hm
        · have : 0 < (n.ks.filter (fun q => decide (q = key))).length := List.length_pos_of_mem (List.mem_filter.2 ⟨hm, by simp⟩)
          simp only [if_true, List.length_singleton]; omega
        · simp only [if_true, List.length_singleton]; omega
      · have : ¬ (3 : Int) = 2 := by decide
        rw [if_neg this, List.length_nil]; omega
    rw [hlv]
    unfold cntOk
    simp only [if_true, decide_eq_true_eq]
    first
      | omega
      | (simp; omega)
  · rw [hkc]
    refine keysOk_mk _ _ _ ?_ ?_
    · rw [List.pairwise_append, List.pairwise_append]
      refine ⟨⟨hpw.filter _, by split <;> simp, fun a ha b hb => ?_⟩, hpw.filter _, fun a ha b hb => ?_⟩
      · have := (List.mem_filter.1 ha).2
        simp only [Bool.and_eq_true, decide_eq_true_eq] at this
        split at hb
        · rw [List.mem_singleton] at hb; omega
        · cases hb
      · have h8 := (List.mem_filter.1 hb).2
        simp only [Bool.and_eq_true, decide_eq_true_eq] at h8
        rcases List.mem_append.1 ha with ha | ha
        · have := (List.mem_filter.1 ha).2
          simp only [Bool.and_eq_true, decide_eq_true_eq] at this
          omega
        · split at ha
          · rw [List.mem_singleton] at ha; omega
          · cases ha
    · intro q hq
      rcases List.mem_append.1 hq with hq | hq
      · rcases List.mem_append.1 hq with hq | hq
        · exact hall q (List.mem_filter.1 hq).1
        · split at hq
          · rw [List.mem_singleton] at hq; rw [hle]; omega
          · cases hq
      · exact hall q (List.mem_filter.1 hq).1
  · rw [valsOk_iff]
    intro x hx
    have hmem : ∃ q, (q, x) ∈ (chK n k key).zip (chV n k key v) := by
      obtain ⟨i, hi⟩ := List.mem_iff_getElem?.1 hx
      have hil := (List.getElem?_eq_some_iff.1 hi).1
      have hlz := (ch_zip n k key v hl).1
      exact ⟨(chK n k key)[i]'(by omega), by
        refine List.mem_iff_getElem?.2 ⟨i, ?_⟩
        rw [List.getElem?_zip_eq_some]
        exact ⟨List.getElem?_eq_getElem (by omega), hi⟩⟩
    obtain ⟨q, hq⟩ := hmem
    rw [(ch_zip n k key v hl).2] at hq
    have hvs : ∀ y ∈ n.ks.zip n.vs, valOk n.lv y.2 = true := fun y hy => (valsOk_iff _ _).1 r7 _ (List.of_mem_zip hy).2
    rcases List.mem_append.1 hq with hq | hq
    · rcases List.mem_append.1 hq with hq | hq
      · exact hvs _ (List.mem_filter.1 hq).1
      · split at hq
        next h =>
          rw [List.mem_singleton] at hq
          cases hq
          have := hv h
          rw [hlv]
          simp [valOk, this.1, this.2]
        next => cases hq
    · exact hvs _ (List.mem_filter.1 hq).1
end Go.Proofs.YtjpgldeeopmbgaaDoor.Sap

/- WHAT IS PROVED HERE: plain facts: what saplingkeep's table has, made by the operations in their order, is a map; a list in the order of its times, no two of them one, is the only such (no program's function is walked). Conditions: none but those named at each theorem. -/
namespace Go.Proofs.YtjpgldeeopmbgaaDoor.Sap
open Go.RowKit

/-- The map that operations make, in their order. -/
def mapO (l : List Dn) : Int → Option Int := l.foldl (fun m d => upd d.k d.key d.v m) (fun _ => none)
theorem mapO_snoc (l : List Dn) (d : Dn) : mapO (l ++ [d]) = upd d.k d.key d.v (mapO l) := by simp [mapO]

theorem look_eq {P P' : List (Int × Int)} (hn : (P.map Prod.fst).Nodup) (hn' : (P'.map Prod.fst).Nodup) {q : Int} (h : ∀ v, (q, v) ∈ P' ↔ (q, v) ∈ P) : look P' q = look P q := by
  cases h1 : look P q with
  | some v => exact look_mem hn' ((h v).2 (mem_look h1))
  | none =>
    cases h2 : look P' q with
    | none => rfl
    | some v =>
      have := look_mem hn ((h v).1 (mem_look h2))
      rw [h1] at this; cases this

theorem zip_set (K V : List Int) (i : Nat) (a b : Int) : (K.set i a).zip (V.set i b) = (K.zip V).set i (a, b) := by
  induction K generalizing V i with
  | nil => simp
  | cons x r ih =>
    cases V with
    | nil => simp
    | cons y s =>
      cases i with
      | zero => simp
      | succ i => simp [ih]
theorem zip_take (K V : List Int) (m : Nat) : (K.take m).zip (V.take m) = (K.zip V).take m := by
  induction K generalizing V m with
  | nil => simp
  | cons x r ih =>
    cases V with
    | nil => simp
    | cons y s =>
      cases m with
      | zero => simp
      | succ m => simp [ih]

/-- The last is laid at the place of the one that goes. -/
theorem swap_last {α : Type} (l : List α) (i : Nat) (z : α) (hi : i < l.length) (hz : l[l.length - 1]? = some z) : ((l.set i z).take (l.length - 1)).Perm (l.eraseIdx i) := by
  obtain ⟨m, hm⟩ : ∃ m, l.length = m + 1 := ⟨l.length - 1, by omega⟩
  rw [hm, Nat.add_sub_cancel] at hz ⊢
  have hl : l = l.take m ++ [z] := by
    have h1 : l.take (m + 1) = l := List.take_of_length_le (by omega)
    rw [List.take_add_one, hz] at h1
    exact h1.symm
  by_cases he : i = m
  · subst he
    have : l.set i z = l := by
      rw [List.set_eq_take_append_cons_drop, if_pos hi, List.drop_of_length_le (by omega)]
      exact hl.symm
    rw [this, List.eraseIdx_eq_take_drop_succ, List.drop_of_length_le (by omega), List.append_nil]
  · have him : i < m := by omega
    rw [List.eraseIdx_eq_take_drop_succ, List.set_eq_take_append_cons_drop, if_pos hi]
    have hd : l.drop (i + 1) = (l.drop (i + 1)).take (m - (i + 1)) ++ [z] := by
      conv => lhs; rw [hl]
      rw [List.drop_append_of_le_length (by rw [List.length_take]; omega), List.drop_take]
    have ht : (l.take i ++ z :: l.drop (i + 1)).take m = l.take i ++ z :: (l.drop (i + 1)).take (m - (i + 1)) := by
      rw [List.take_append, List.length_take, Nat.min_eq_left (by omega), List.take_of_length_le (by rw [List.length_take]; omega)]
      congr 1
      rw [show m - i = (m - (i + 1)) + 1 by omega, List.take_succ_cons]
    rw [ht]
    conv => rhs; rw [hd]
    exact List.Perm.append_left _ (List.perm_append_comm (l₁ := [z]))

theorem nodup_inj {K : List Int} (hn : K.Nodup) {i j : Nat} (hi : i < K.length) (hj : j < K.length) (h : K[i] = K[j]) : i = j := by
  rcases Nat.lt_trichotomy i j with hlt | he | hlt
  · exact absurd h (List.pairwise_iff_getElem.1 hn i j hi hj hlt)
  · exact he
  · exact absurd h.symm (List.pairwise_iff_getElem.1 hn j i hj hi hlt)
theorem fst_zip {K V : List Int} (h : K.length = V.length) : (K.zip V).map Prod.fst = K := List.map_fst_zip (by omega)

theorem tdo_look (kd key v : Int) (K V : List Int) (hn : K.Nodup) (hl : K.length = V.length) (hk : kd = 2 ∨ kd = 3) : (tdo kd key v K V).1.Nodup ∧ (tdo kd key v K V).1.length = (tdo kd key v K V).2.length ∧ ∀ q, look ((tdo kd key v K V).1.zip (tdo kd key v K V).2) q = upd kd key v (look (K.zip V)) q := by
  have hlen := (tdo_len kd key v K V hl).1
  have hnz : ((K.zip V).map Prod.fst).Nodup := by rw [fst_zip hl]; exact hn
  unfold tdo at hlen ⊢
  by_cases hm : key ∈ K
  · obtain ⟨i, hi, hki⟩ : ∃ i, ∃ h : i < K.length, K[i] = key := ⟨K.idxOf key, List.idxOf_lt_length_of_mem hm, List.getElem_idxOf _⟩
    have hii : K.idxOf key = i := by
      rw [← hki]
      exact List.Nodup.idxOf_getElem hn i hi
    rw [if_pos hm, hii] at hlen
    rw [if_pos hm, hii]
    clear hii
    have hzi : (K.zip V)[i]? = some (key, V[i]'(by omega)) := by
      rw [List.getElem?_zip_eq_some]
      exact ⟨by rw [List.getElem?_eq_getElem hi, hki], List.getElem?_eq_getElem (by omega)⟩
    rcases hk with rfl | rfl
    · rw [if_pos rfl] at hlen ⊢
      refine ⟨hn, hlen, fun q => ?_⟩
      have hz : K.zip (V.set i v) = (K.zip V).set i (key, v) := by
        have := zip_set K V i key v
        rw [← hki, List.set_getElem_self] at this
        rw [← hki]; exact this
      have hn' : ((K.zip (V.set i v)).map Prod.fst).Nodup := by rw [fst_zip (by simpa using hl)]; exact hn
      show look (K.zip (V.set i v)) q = _
      unfold upd
      by_cases hq : q = key
      · rw [if_pos hq, if_pos rfl, hq]
        refine look_mem hn' ?_
        rw [hz]
        exact List.mem_iff_getElem?.2 ⟨i, by rw [List.getElem?_set_self (by simp; omega)]⟩
      · rw [if_neg hq]
        refine look_eq hnz hn' fun u => ?_
        rw [hz]
        constructor
        · intro h
          obtain ⟨j, hj⟩ := List.mem_iff_getElem?.1 h
          by_cases e : i = j
          · subst e
            rw [List.getElem?_set_self (by simp; omega)] at hj
            cases hj; exact absurd rfl hq
          · rw [List.getElem?_set_ne e] at hj
            exact List.mem_iff_getElem?.2 ⟨j, hj⟩
        · intro h
          obtain ⟨j, hj⟩ := List.mem_iff_getElem?.1 h
          by_cases e : i = j
          · subst e
            rw [hzi] at hj
            cases hj; exact absurd rfl hq
          · exact List.mem_iff_getElem?.2 ⟨j, by rw [List.getElem?_set_ne e]; exact hj⟩
    · rw [if_neg (by decide), if_pos rfl] at hlen ⊢
      have hp : K.length - 1 < K.length := by omega
      have hzl : (K.zip V)[(K.zip V).length - 1]? = some (K[K.length - 1]?.getD 0, V[K.length - 1]?.getD 0) := by
        have e : (K.zip V).length - 1 = K.length - 1 := by rw [List.length_zip]; omega
        rw [e, List.getElem?_zip_eq_some, List.getElem?_eq_getElem hp, List.getElem?_eq_getElem (show K.length - 1 < V.length by omega)]
        exact ⟨rfl, rfl⟩
      have hz : ((K.set i (K[K.length - 1]?.getD 0)).take (K.length - 1)).zip ((V.set i (V[K.length - 1]?.getD 0)).take (K.length - 1)) = ((K.zip V).set i (K[K.length - 1]?.getD 0, V[K.length - 1]?.getD 0)).take ((K.zip V).length - 1) := by
        rw [zip_take, zip_set, List.length_zip]
        congr 1
        omega
      have hpm := swap_last (K.zip V) i _ (by rw [List.length_zip]; omega) hzl
      rw [← hz] at hpm
      have hsub : ((K.zip V).eraseIdx i).Sublist (K.zip V) := List.eraseIdx_sublist _ _
      have hne : (((K.zip V).eraseIdx i).map Prod.fst).Nodup := (hsub.map Prod.fst).nodup hnz
      have hn' : ((((K.set i (K[K.length - 1]?.getD 0)).take (K.length - 1)).zip ((V.set i (V[K.length - 1]?.getD 0)).take (K.length - 1))).map Prod.fst).Nodup := (hpm.map Prod.fst).nodup_iff.2 hne
      refine ⟨?_, hlen, fun q => ?_⟩
      · rw [fst_zip hlen] at hn'; exact hn'
      · show look (((K.set i (K[K.length - 1]?.getD 0)).take (K.length - 1)).zip ((V.set i (V[K.length - 1]?.getD 0)).take (K.length - 1))) q = _
        unfold upd
        have hmem : ∀ u, (q, u) ∈ ((K.set i (K[K.length - 1]?.getD 0)).take (K.length - 1)).zip ((V.set i (V[K.length - 1]?.getD 0)).take (K.length - 1)) ↔ ((q, u) ∈ K.zip V ∧ q ≠ key) := fun u => by
          rw [hpm.mem_iff, List.mem_eraseIdx_iff_getElem?]
          constructor
          · rintro ⟨j, hj, hje⟩
            refine ⟨List.mem_iff_getElem?.2 ⟨j, hje⟩, fun e => hj ?_⟩
            subst e
            rw [List.getElem?_zip_eq_some] at hje
            have hjl := (List.getElem?_eq_some_iff.1 hje.1).1
            have h1 : K[j]'hjl = K[i]'hi := by rw [hki]; exact (List.getElem?_eq_some_iff.1 hje.1).2
            exact nodup_inj hn hjl hi h1
          · rintro ⟨h, hq⟩
            obtain ⟨j, hj⟩ := List.mem_iff_getElem?.1 h
            refine ⟨j, fun e => hq ?_, hj⟩
            subst e
            rw [hzi] at hj; cases hj; rfl
        by_cases hq : q = key
        · rw [if_pos hq, if_neg (by decide), if_pos rfl]
          cases hlk : look (((K.set i (K[K.length - 1]?.getD 0)).take (K.length - 1)).zip ((V.set i (V[K.length - 1]?.getD 0)).take (K.length - 1))) q with
          | none => rfl
          | some u => exact absurd hq ((hmem u).1 (mem_look hlk)).2
        · rw [if_neg hq]
          exact look_eq hnz hn' fun u => ⟨fun h => ((hmem u).1 h).1, fun h => (hmem u).2 ⟨h, hq⟩⟩
  · rw [if_neg hm] at hlen ⊢
    have hno : look (K.zip V) key = none := look_none fun x hx e => hm (by rw [← e]; exact (List.of_mem_zip hx).1)
    rcases hk with rfl | rfl
    · rw [if_pos rfl] at hlen ⊢
      refine ⟨?_, hlen, fun q => ?_⟩
      · show (K ++ [key]).Nodup
        rw [List.nodup_append]
        exact ⟨hn, by simp, fun a ha b hb => by rw [List.mem_singleton] at hb; subst hb; exact fun e => hm (e ▸ ha)⟩
      · show look ((K ++ [key]).zip (V ++ [v])) q = _
        rw [List.zip_append hl, look_append]
        unfold upd
        by_cases hq : q = key
        · rw [if_pos hq, if_pos rfl, hq, hno]; simp [look]
        · rw [if_neg hq]
          have : look ([key].zip [v]) q = none := by simp only [List.zip_cons_cons, look]; rw [if_neg (fun e => hq e.symm)]; rfl
          rw [this, Option.or_none]
    · rw [if_neg (by decide)] at hlen ⊢
      refine ⟨hn, hlen, fun q => ?_⟩
      unfold upd
      by_cases hq : q = key
      · rw [if_pos hq, if_neg (by decide), if_pos rfl, hq]; exact hno
      · rw [if_neg hq]

theorem tabO_snoc (l : List Dn) (d : Dn) : tabO (l ++ [d]) = tdo d.k d.key d.v (tabO l).1 (tabO l).2 := by simp [tabO]
/-- The table that operations make, in their order, has what the map has. -/
theorem tabO_look (l : List Dn) (hk : ∀ d ∈ l, d.k = 2 ∨ d.k = 3) : (tabO l).1.Nodup ∧ (tabO l).1.length = (tabO l).2.length ∧ ∀ q, look ((tabO l).1.zip (tabO l).2) q = mapO l q := by
  obtain ⟨r, hr⟩ : ∃ r, l = r.reverse := ⟨l.reverse, by simp⟩
  induction r generalizing l with
  | nil => subst hr; exact ⟨by simp [tabO], by simp [tabO], fun q => by simp [tabO, mapO, look]⟩
  | cons d r ih =>
    rw [List.reverse_cons] at hr
    subst hr
    obtain ⟨h1, h2, h3⟩ := ih r.reverse (fun x hx => hk x (by simp at hx ⊢; exact Or.inl hx)) rfl
    rw [tabO_snoc, mapO_snoc]
    obtain ⟨a1, a2, a3⟩ := tdo_look d.k d.key d.v _ _ h1 h2 (hk d (by simp))
    refine ⟨a1, a2, fun q => ?_⟩
    rw [a3]
    unfold upd
    rw [h3]
theorem valR_look {K V : List Int} (hn : K.Nodup) (hl : K.length = V.length) {q : Int} {fd : Bool} {v : Int} (h : ValR K V q fd v) : fd = (look (K.zip V) q).isSome ∧ v = (look (K.zip V) q).getD 0 := by
  have hnz : ((K.zip V).map Prod.fst).Nodup := by rw [fst_zip hl]; exact hn
  rcases h with ⟨h1, h2, h3⟩ | ⟨i, h1, h2, h3, -⟩
  · have hno : look (K.zip V) q = none := look_none fun x hx e => h3 (by rw [← e]; exact (List.of_mem_zip hx).1)
    rw [hno]; exact ⟨h1, h2⟩
  · have := look_mem hnz (List.mem_iff_getElem?.2 ⟨i, (List.getElem?_zip_eq_some (l₁ := K) (l₂ := V) (z := (q, v))).2 ⟨h2, h3⟩⟩)
    rw [this]; exact ⟨h1, rfl⟩

/-- A list in the strict order of its times is the only one that has the same in the order of times. -/
theorem srt_uniq (o o' : List Dn) (hs : o.Pairwise fun a b => a.t < b.t) (hp : o'.Perm o) (hs' : Srt o') : o' = o := by
  induction o generalizing o' with
  | nil => exact hp.eq_nil
  | cons d r ih =>
    cases o' with
    | nil => exact absurd hp.symm.eq_nil (by simp)
    | cons e r' =>
      have hs1 := List.pairwise_cons.1 hs
      have hs2 := List.pairwise_cons.1 hs'
      have hed : e = d := by
        have he : e ∈ d :: r := hp.mem_iff.1 (by simp)
        have hd : d ∈ e :: r' := hp.mem_iff.2 (by simp)
        rcases List.mem_cons.1 he with h | h
        · exact h
        · rcases List.mem_cons.1 hd with k | k
          · exact k.symm
          · have := hs1.1 e h
            have := hs2.1 d k
            omega
      subst hed
      rw [ih r' hs1.2 hp.cons_inv hs2.2]

theorem ahead_snoc (o : List Dn) (d : Dn) (time : Int) (h : time ≤ d.t) : ahead (o ++ [d]) time = ahead o time := by
  unfold ahead
  induction o with
  | nil =>
    have : ¬ d.t < time := by omega
    simp [this]
  | cons x r ih =>
    simp only [List.cons_append, List.takeWhile_cons]
    split
    · rw [ih]
    · rfl
theorem ahead_all (o : List Dn) (time : Int) (h : ∀ d ∈ o, d.t < time) : ahead o time = o := by
  unfold ahead
  induction o with
  | nil => rfl
  | cons x r ih =>
    rw [List.takeWhile_cons, if_pos (by simpa using h x (by simp)), ih fun d hd => h d (by simp [hd])]
end Go.Proofs.YtjpgldeeopmbgaaDoor.Sap
