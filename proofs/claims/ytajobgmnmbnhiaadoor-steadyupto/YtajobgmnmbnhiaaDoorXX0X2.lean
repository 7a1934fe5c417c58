/- WHAT IS PROVED HERE: plain facts on lists of pairs as maps: what a leaf has, what a Put and a Drop make of it; that a node behind them is right again (no program's function is walked). Conditions: none but those named at each theorem. -/
import Derived.Test.YtajobgmnmbnhiaaDoorXS0F0
import Derived.Test.YtajobgmnmbnhiaaDoorXT8L2
namespace Go.Proofs.YtajobgmnmbnhiaaDoor.Sap
open Go.RowKit

/-- What a node has of keys and values behind a leaf's first k entries, of those from l on, below h. -/
def tkK (ks : List Int) (l h : Int) (K : List Int) : Nat → List Int
  | 0 => K
  | k + 1 => if l ≤ ks[k]?.getD 0 ∧ ks[k]?.getD 0 < h then tkK ks l h K k ++ [ks[k]?.getD 0] else tkK ks l h K k
def tkV (ks vs : List Int) (l h : Int) (V : List Int) : Nat → List Int
  | 0 => V
  | k + 1 => if l ≤ ks[k]?.getD 0 ∧ ks[k]?.getD 0 < h then tkV ks vs l h V k ++ [vs[k]?.getD 0] else tkV ks vs l h V k

/-- A leaf's keys and values behind a Put (kind 2) or a Drop. -/
def chK (n : Nd) (k key : Int) : List Int := tkK n.ks (key + 1) n.hi (tkK n.ks 0 key [] n.ks.length ++ (if k = 2 then [key] else [])) n.ks.length
def chV (n : Nd) (k key v : Int) : List Int := tkV n.ks n.vs (key + 1) n.hi (tkV n.ks n.vs 0 key [] n.ks.length ++ (if k = 2 then [v] else [])) n.ks.length


/-- What a list of pairs has for a key. -/
def look : List (Int × Int) → Int → Option Int
  | [], _ => none
  | x :: r, q => if x.1 = q then some x.2 else look r q

theorem look_append (a b : List (Int × Int)) (q : Int) : look (a ++ b) q = (look a q).or (look b q) := by
  induction a with
  | nil => simp [look]
  | cons x r ih =>
    simp only [List.cons_append, look]
    split
    · simp
    · exact ih
theorem look_filter (p : Int → Bool) (l : List (Int × Int)) (q : Int) : look (l.filter fun x => p x.1) q = if p q then look l q else none := by
  induction l with
  | nil => simp [look]
  | cons x r ih =>
    by_cases hx : p x.1
    · rw [List.filter_cons_of_pos (p := fun x : Int × Int => p x.1) hx]
      simp only [look]
      by_cases h : x.1 = q
      · rw [if_pos h, if_pos h, ← h, if_pos hx]
      · rw [if_neg h, if_neg h]; exact ih
    · rw [List.filter_cons_of_neg (p := fun x : Int × Int => p x.1) hx, ih]
      simp only [look]
      by_cases h : x.1 = q
      · rw [if_pos h, ← h, if_neg hx, if_neg hx]
      · rw [if_neg h]
theorem look_none {l : List (Int × Int)} {q : Int} (h : ∀ x ∈ l, x.1 ≠ q) : look l q = none := by
  induction l with
  | nil => rfl
  | cons x r ih =>
    simp only [look]
    rw [if_neg (h x (by simp))]
    exact ih fun y hy => h y (by simp [hy])
theorem look_mem {l : List (Int × Int)} (hn : (l.map Prod.fst).Nodup) {q v : Int} (h : (q, v) ∈ l) : look l q = some v := by
  induction l with
  | nil => cases h
  | cons x r ih =>
    simp only [List.map_cons, List.nodup_cons] at hn
    simp only [look]
    rcases List.mem_cons.1 h with rfl | h
    · simp
    · rw [if_neg (fun e => hn.1 (by rw [e]; exact List.mem_map.2 ⟨_, h, rfl⟩))]
      exact ih hn.2 h
theorem mem_look {l : List (Int × Int)} {q v : Int} (h : look l q = some v) : (q, v) ∈ l := by
  induction l with
  | nil => cases h
  | cons x r ih =>
    simp only [look] at h
    split at h
    next e => cases h; subst e; simp
    next e => exact List.mem_cons_of_mem _ (ih h)

theorem fnd_look (ks vs : List Int) (q : Int) (hp : ks.Pairwise (· < ·)) (hl : ks.length = vs.length) (k : Nat) (hk : k ≤ ks.length) : fndB ks q k = (look ((ks.zip vs).take k) q).isSome ∧ fndV ks vs q k = (look ((ks.zip vs).take k) q).getD 0 := by
  induction k with
  | zero => exact ⟨rfl, rfl⟩
  | succ k ih =>
    obtain ⟨h1, h2⟩ := ih (by omega)
    have hkz : k < (ks.zip vs).length := by simp; omega
    have e1 : ks[k]?.getD 0 = ks[k]'(by omega) := by rw [List.getElem?_eq_getElem (by omega)]; rfl
    have e2 : vs[k]?.getD 0 = vs[k]'(by omega) := by rw [List.getElem?_eq_getElem (by omega)]; rfl
    rw [List.take_add_one, List.getElem?_eq_getElem hkz, Option.toList_some, look_append]
    simp only [fndB, fndV, e1, e2, List.getElem_zip, look]
    by_cases h : ks[k]'(by omega) = q
    · rw [if_pos h, if_pos h, if_pos h]
      have hno : look ((ks.zip vs).take k) q = none := by
        refine look_none fun x hx e => ?_
        obtain ⟨i, hi⟩ := List.mem_iff_getElem?.1 hx
        rw [List.getElem?_take] at hi
        split at hi
        next hik =>
          rw [List.getElem?_zip_eq_some] at hi
          have h3 := List.pairwise_iff_getElem.1 hp i k (by omega) (by omega) hik
          have h4 : ks[i]'(by omega) = x.1 := by have := hi.1; rw [List.getElem?_eq_getElem (by omega)] at this; exact Option.some.inj this
          omega
        next => cases hi
      rw [hno]; exact ⟨rfl, rfl⟩
    · rw [if_neg h, if_neg h, if_neg h, Option.or_none]
      exact ⟨h1, h2⟩

theorem tk_zip (ks vs : List Int) (l h : Int) (K V : List Int) (hKV : K.length = V.length) (hl : ks.length = vs.length) (k : Nat) (hk : k ≤ ks.length) : (tkK ks l h K k).length = (tkV ks vs l h V k).length ∧ (tkK ks l h K k).zip (tkV ks vs l h V k) = K.zip V ++ ((ks.zip vs).take k).filter (fun x => (fun q => decide (l ≤ q) && decide (q < h)) x.1) := by
  induction k with
  | zero => simp [tkK, tkV, hKV]
  | succ k ih =>
    obtain ⟨h1, h2⟩ := ih (by omega)
    have hkz : k < (ks.zip vs).length := by simp; omega
    have e1 : ks[k]?.getD 0 = ks[k]'(by omega) := by rw [List.getElem?_eq_getElem (by omega)]; rfl
    have e2 : vs[k]?.getD 0 = vs[k]'(by omega) := by rw [List.getElem?_eq_getElem (by omega)]; rfl
    rw [List.take_add_one, List.getElem?_eq_getElem hkz, Option.toList_some, List.filter_append]
    simp only [tkK, tkV, e1, e2]
    by_cases hd : l ≤ ks[k]'(by omega) ∧ ks[k]'(by omega) < h
    · rw [if_pos hd, if_pos hd]
      refine ⟨by simp [h1], ?_⟩
      rw [List.zip_append h1, h2, List.append_assoc]
      congr 1
      congr 1
      simp [hd.1, hd.2]
    · rw [if_neg hd, if_neg hd]
      refine ⟨h1, ?_⟩
      rw [h2]
      congr 1
      have : (decide (l ≤ ks[k]'(by omega)) && decide (ks[k]'(by omega) < h)) = false := by
        rw [Bool.eq_false_iff]; intro e; simp only [Bool.and_eq_true, decide_eq_true_eq] at e; exact hd e
      simp [this]

/-- What a Put or a Drop of a key does to a map. -/
def upd (k key v : Int) (m : Int → Option Int) (q : Int) : Option Int := if q = key then (if k = 2 then some v else if k = 3 then none else m q) else m q

theorem ch_zip (n : Nd) (k key v : Int) (hl : n.ks.length = n.vs.length) : (chK n k key).length = (chV n k key v).length ∧ (chK n k key).zip (chV n k key v) = (n.ks.zip n.vs).filter (fun x => (fun q => decide (0 ≤ q) && decide (q < key)) x.1) ++ (if k = 2 then [(key, v)] else []) ++ (n.ks.zip n.vs).filter (fun x => (fun q => decide (key + 1 ≤ q) && decide (q < n.hi)) x.1) := by
  have hz : (n.ks.zip n.vs).take n.ks.length = n.ks.zip n.vs := List.take_of_length_le (by simp; omega)
  obtain ⟨a1, a2⟩ := tk_zip n.ks n.vs 0 key [] [] rfl hl n.ks.length (Nat.le_refl _)
  rw [hz] at a2
  have hlen : (tkK n.ks 0 key [] n.ks.length ++ (if k = 2 then [key] else [])).length = (tkV n.ks n.vs 0 key [] n.ks.length ++ (if k = 2 then [v] else [])).length := by
    rw [List.length_append, List.length_append, a1]; split <;> rfl
  obtain ⟨b1, b2⟩ := tk_zip n.ks n.vs (key + 1) n.hi _ _ hlen hl n.ks.length (Nat.le_refl _)
  rw [hz] at b2
  refine ⟨b1, ?_⟩
  unfold chK chV
  rw [b2, List.zip_append a1, a2]
  congr 2
  split <;> rfl

theorem ch_look (n : Nd) (k key v : Int) (hl : n.ks.length = n.vs.length) (hb : ∀ x ∈ n.ks, 0 ≤ x ∧ x < n.hi) (hk : k = 2 ∨ k = 3) (q : Int) : look ((chK n k key).zip (chV n k key v)) q = upd k key v (look (n.ks.zip n.vs)) q := by
  have hno : ∀ q, ¬ (0 ≤ q ∧ q < n.hi) → look (n.ks.zip n.vs) q = none := fun q hq => look_none fun x hx e => hq (by have := hb x.1 (List.of_mem_zip hx).1; rw [e] at this; exact this)
  rw [(ch_zip n k key v hl).2, look_append, look_append, look_filter (fun q => decide (0 ≤ q) && decide (q < key)), look_filter (fun q => decide (key + 1 ≤ q) && decide (q < n.hi))]
  unfold upd
  by_cases h1 : q = key
  · subst h1
    have e1 : (decide (0 ≤ q) && decide (q < q)) = false := by simp
    have e2 : (decide (q + 1 ≤ q) && decide (q < n.hi)) = false := by
      have : ¬ (q + 1 ≤ q) := by omega
      simp [this]
    simp only [e1, e2]
    rcases hk with rfl | rfl <;> simp [look]
  · rw [if_neg h1]
    have e3 : look (if k = 2 then [(key, v)] else []) q = none := by
      split
      · simp only [look]; rw [if_neg (fun e => h1 e.symm)]
      · rfl
    rw [e3, Option.or_none]
    by_cases h2 : q < key
    · have e2 : (decide (key + 1 ≤ q) && decide (q < n.hi)) = false := by
        have : ¬ (key + 1 ≤ q) := by omega
        simp [this]
      simp only [e2]
      by_cases h0 : 0 ≤ q
      · have e1 : (decide (0 ≤ q) && decide (q < key)) = true := by simp [h0, h2]
        simp [e1]
      · have e1 : (decide (0 ≤ q) && decide (q < key)) = false := by simp [h0]
        simp only [e1]
        rw [hno q (fun h => h0 h.1)]; rfl
    · have e1 : (decide (0 ≤ q) && decide (q < key)) = false := by simp [h2]
      simp only [e1]
      by_cases h3 : q < n.hi
      · have e2 : (decide (key + 1 ≤ q) && decide (q < n.hi)) = true := by
          have : key + 1 ≤ q := by omega
          simp [this, h3]
        simp [e2]
      · have e2 : (decide (key + 1 ≤ q) && decide (q < n.hi)) = false := by simp [h3]
        simp only [e2]
        rw [hno q (fun h => h3 h.2)]; rfl

theorem keysOk_pair (hi l : Int) (ks : List Int) (h : keysOk hi l ks = true) : ks.Pairwise (· < ·) := by
  induction ks generalizing l with
  | nil => exact List.Pairwise.nil
  | cons x r ih =>
    simp only [keysOk, Bool.and_eq_true, decide_eq_true_eq] at h
    refine List.pairwise_cons.2 ⟨fun y hy => ?_, ih (x + 1) h.2.2⟩
    have := keysOk_all _ _ _ h.2.2 y hy
    omega
theorem keysOk_mk (hi l : Int) (ks : List Int) (hp : ks.Pairwise (· < ·)) (hb : ∀ k ∈ ks, l ≤ k ∧ k < hi) : keysOk hi l ks = true := by
  induction ks generalizing l with
  | nil => rfl
  | cons x r ih =>
    rw [List.pairwise_cons] at hp
    have h1 := hb x (by simp)
    simp only [keysOk, Bool.and_eq_true, decide_eq_true_eq]
    exact ⟨h1.1, h1.2, ih (x + 1) hp.2 fun k hk => ⟨by have := hp.1 k hk; omega, (hb k (by simp [hk])).2⟩⟩
theorem valsOk_iff (lv : Int) (vs : List Int) : valsOk lv vs = true ↔ ∀ v ∈ vs, valOk lv v = true := by
  induction vs with
  | nil => simp [valsOk]
  | cons x r ih => simp [valsOk, ih]
theorem cnt3 (ks : List Int) (key hi : Int) : (ks.filter (fun q => decide (0 ≤ q) && decide (q < key))).length + (ks.filter (fun q => decide (key + 1 ≤ q) && decide (q < hi))).length + (ks.filter (fun q => decide (q = key))).length ≤ ks.length := by
  induction ks with
  | nil => simp
  | cons x r ih =>
    simp only [List.filter_cons, List.length_cons]
    by_cases h1 : x = key
    · have e1 : (decide (0 ≤ x) && decide (x < key)) = false := by rw [Bool.and_eq_false_iff]; right; rw [decide_eq_false_iff_not]; omega
      have e2 : (decide (key + 1 ≤ x) && decide (x < hi)) = false := by rw [Bool.and_eq_false_iff]; left; rw [decide_eq_false_iff_not]; omega
      have e3 : decide (x = key) = true := by simp [h1]
      simp only [e1, e2, e3, if_true, Bool.false_eq_true, if_false, List.length_cons]; omega
    · have e3 : decide (x = key) = false := by simp [h1]
      simp only [e3, Bool.false_eq_true, if_false]
      by_cases h2 : x < key
      · have e2 : (decide (key + 1 ≤ x) && decide (x < hi)) = false := by rw [Bool.and_eq_false_iff]; left; rw [decide_eq_false_iff_not]; omega
        simp only [e2, Bool.false_eq_true, if_false]
        split <;> (try simp only [List.length_cons]) <;> omega
      · have e1 : (decide (0 ≤ x) && decide (x < key)) = false := by simp [h2]
        simp only [e1, Bool.false_eq_true, if_false]
        split <;> (try simp only [List.length_cons]) <;> omega

theorem chK_eq (n : Nd) (k key v : Int) (hl : n.ks.length = n.vs.length) : chK n k key = n.ks.filter (fun q => decide (0 ≤ q) && decide (q < key)) ++ (if k = 2 then [key] else []) ++ n.ks.filter (fun q => decide (key + 1 ≤ q) && decide (q < n.hi)) := by
  obtain ⟨h1, h2⟩ := ch_zip n k key v hl
  have h3 := congrArg (List.map Prod.fst) h2
  rw [List.map_fst_zip (by omega)] at h3
  rw [h3, List.map_append, List.map_append]
  have e : ∀ p : Int → Bool, ((n.ks.zip n.vs).filter (fun x => p x.1)).map Prod.fst = n.ks.filter p := fun p => by
    have : n.ks = (n.ks.zip n.vs).map Prod.fst := (List.map_fst_zip (by omega)).symm
    conv => rhs; rw [this]
    rw [List.filter_map]; rfl
  rw [e (fun q => decide (0 ≤ q) && decide (q < key)), e (fun q => decide (key + 1 ≤ q) && decide (q < n.hi))]
  congr 2
  split <;> rfl

theorem ch_right (n : Nd) (k key v : Int) (hr : rightB n = true) (hlv : n.lv = 0) (hk : k = 2 ∨ k = 3) (hv : k = 2 → 0 ≤ v ∧ v ≤ 9999) (h1 : 1 ≤ key) (h2 : key < n.hi) (h5 : k = 2 → key ∈ n.ks ∨ n.ks.length < 5) : rightB ⟨n.lv, n.lk, n.hi, chK n k key, chV n k key v⟩ = true := by
  have hb := right_bd n hr
  have hl := hb.2.2.2.1
  have hkc := chK_eq n k key v hl
  unfold rightB at hr ⊢
  simp only [Bool.and_eq_true, decide_eq_true_eq] at hr ⊢
  obtain ⟨r1, r2, r3, r4, r5, r6, r7⟩ := hr
  have hall := keysOk_all _ _ _ r6
  have hpw := keysOk_pair _ _ _ r6
  have hle : least n.lv = 1 := by rw [hlv]; rfl
  refine ⟨r1, r2, r3, (ch_zip n k key v hl).1, ?_, ?_, ?_⟩
  · have hc := cnt3 n.ks key n.hi
    have hlen : (chK n k key).length ≤ 5 := by
      rw [hkc, List.length_append, List.length_append]
      have h5' := hb.2.2.2.2.2.1 hlv
      rcases hk with rfl | rfl
      · rcases h5 rfl with hm | hm
        · have : 0 < (n.ks.filter (fun q => decide (q = key))).length := List.length_pos_of_mem (List.mem_filter.2 ⟨hm, by simp⟩)
          simp only [if_true, List.length_singleton]; omega
        · simp only [if_true, List.length_singleton]; omega
      · have : ¬ (3 : Int) = 2 := by decide
        rw [if_neg this, List.length_nil]; omega
    rw [hlv]
    unfold cntOk
    simp only [if_true, decide_eq_true_eq]
    first
      | omega
      | (simp; omega)
  · rw [hkc]
    refine keysOk_mk _ _ _ ?_ ?_
    · rw [List.pairwise_append, List.pairwise_append]
      refine ⟨⟨hpw.filter _, by split <;> simp, fun a ha b hb => ?_⟩, hpw.filter _, fun a ha b hb => ?_⟩
      · have := (List.mem_filter.1 ha).2
        simp only [Bool.and_eq_true, decide_eq_true_eq] at this
        split at hb
        · rw [List.mem_singleton] at hb; omega
        · cases hb
      · have h8 := (List.mem_filter.1 hb).2
        simp only [Bool.and_eq_true, decide_eq_true_eq] at h8
        rcases List.mem_append.1 ha with ha | ha
        · have := (List.mem_filter.1 ha).2
          simp only [Bool.and_eq_true, decide_eq_true_eq] at this
          omega
        · split at ha
          · rw [List.mem_singleton] at ha; omega
          · cases ha
    · intro q hq
      rcases List.mem_append.1 hq with hq | hq
      · rcases List.mem_append.1 hq with hq | hq
        · exact hall q (List.mem_filter.1 hq).1
        · split at hq
          · rw [List.mem_singleton] at hq; rw [hle]; omega
          · cases hq
      · exact hall q (List.mem_filter.1 hq).1
  · rw [valsOk_iff]
    intro x hx
    have hmem : ∃ q, (q, x) ∈ (chK n k key).zip (chV n k key v) := by
      obtain ⟨i, hi⟩ := List.mem_iff_getElem?.1 hx
      have hil := (List.getElem?_eq_some_iff.1 hi).1
      have hlz := (ch_zip n k key v hl).1
      exact ⟨(chK n k key)[i]'(by omega), by
        refine List.mem_iff_getElem?.2 ⟨i, ?_⟩
        rw [List.getElem?_zip_eq_some]
        exact ⟨List.getElem?_eq_getElem (by omega), hi⟩⟩
    obtain ⟨q, hq⟩ := hmem
    rw [(ch_zip n k key v hl).2] at hq
    have hvs : ∀ y ∈ n.ks.zip n.vs, valOk n.lv y.2 = true := fun y hy => (valsOk_iff _ _).1 r7 _ (List.of_mem_zip hy).2
    rcases List.mem_append.1 hq with hq | hq
    · rcases List.mem_append.1 hq with hq | hq
      · exact hvs _ (List.mem_filter.1 hq).1
      · split at hq
        next h =>
          rw [List.mem_singleton] at hq
          cases hq
          have := hv h
          rw [hlv]
          simp [valOk, this.1, this.2]
        next => cases hq
    · exact hvs _ (List.mem_filter.1 hq).1
end Go.Proofs.YtajobgmnmbnhiaaDoor.Sap

/- WHAT IS PROVED HERE: plain facts on trees of pages that are linked to the right: which pages are in the tree, from which key on each is, what holds of them (Tre.Ok), and that it goes on holding when a node is written anew, when a node is split, and when the root grows (no program's function is walked). Conditions: none but those named at each theorem. -/
namespace Go.Proofs.YtajobgmnmbnhiaaDoor.Sap
open Go.RowKit

/-- A node's keys, each with what stands for it. -/
def ent (n : Nd) : List (Int × Int) := n.ks.zip n.vs
/-- The pages as nodes; which of them are in the tree; from which key on each is. -/
structure Tre where
  nd : Nat → Nd
  inn : Nat → Prop
  low : Nat → Int
/-- A child that is for the keys from k on, a level below l. -/
def Tre.kid (t : Tre) (l : Int) (e : Int × Int) : Prop := ∃ q : Nat, e.2 = (q : Int) ∧ t.inn q ∧ t.low q = e.1 ∧ (t.nd q).lv + 1 = l
structure Tre.Ok (t : Tre) : Prop where
  rt : ∀ p, t.inn p → rightB (t.nd p) = true
  lt : ∀ p, t.inn p → p < 64
  r0 : t.inn 0
  l0 : t.low 0 = 0
  h0 : (t.nd 0).hi = 10000
  top : ∀ p, t.inn p → p ≠ 0 → (t.nd p).lv < (t.nd 0).lv
  lo : ∀ p, t.inn p → 0 ≤ t.low p ∧ t.low p < (t.nd p).hi
  ks : ∀ p, t.inn p → ∀ k ∈ (t.nd p).ks, t.low p ≤ k
  fst : ∀ p, t.inn p → 0 < (t.nd p).lv → (t.nd p).ks.head? = some (t.low p)
  lnk : ∀ p, t.inn p → (t.nd p).hi ≠ 10000 → ∃ q : Nat, (t.nd p).lk = (q : Int) ∧ t.inn q ∧ t.low q = (t.nd p).hi ∧ (t.nd q).lv = (t.nd p).lv
  chd : ∀ p, t.inn p → 0 < (t.nd p).lv → ∀ e ∈ ent (t.nd p), t.kid (t.nd p).lv e
  dis : ∀ p q, t.inn p → t.inn q → (t.nd p).lv = (t.nd q).lv → p ≠ q → (t.nd p).hi ≤ t.low q ∨ (t.nd q).hi ≤ t.low p
  prd : ∀ p, t.inn p → 0 < t.low p → ∃ q, t.inn q ∧ (t.nd q).lv = (t.nd p).lv ∧ (t.nd q).hi = t.low p

/-- What goes on holding of a page, whatever is written. -/
structure Grows (t t' : Tre) : Prop where
  inn : ∀ p, t.inn p → t'.inn p
  low : ∀ p, t.inn p → t'.low p = t.low p
  lv : ∀ p, t.inn p → (t.nd p).lv ≤ (t'.nd p).lv
  lvE : ∀ p, t.inn p → p ≠ 0 → (t'.nd p).lv = (t.nd p).lv
theorem Grows.refl (t : Tre) : Grows t t := ⟨fun _ h => h, fun _ _ => rfl, fun _ _ => Int.le_refl _, fun _ _ _ => rfl⟩
theorem Grows.trans {t t' t'' : Tre} (h : Grows t t') (k : Grows t' t'') : Grows t t'' :=
  ⟨fun p hp => k.inn p (h.inn p hp), fun p hp => (k.low p (h.inn p hp)).trans (h.low p hp), fun p hp => Int.le_trans (h.lv p hp) (k.lv p (h.inn p hp)), fun p hp h0 => (k.lvE p (h.inn p hp) h0).trans (h.lvE p hp h0)⟩

theorem right_hi (n : Nd) (h : rightB n = true) : 1 ≤ n.hi ∧ n.hi ≤ 10000 ∧ (n.hi = 10000 ↔ n.lk = -1) ∧ (n.hi ≠ 10000 → 1 ≤ n.lk ∧ n.lk ≤ 63) := by
  rcases (right_bd n h).2.2.1 with ⟨h1, h2⟩ | ⟨h1, h2, h3, h4⟩
  · exact ⟨by omega, by omega, ⟨fun _ => h2, fun _ => h1⟩, fun h => absurd h1 h⟩
  · exact ⟨by omega, by omega, ⟨fun h => by omega, fun h => by omega⟩, fun _ => ⟨h3, h4⟩⟩
theorem right_kb (n : Nd) (h : rightB n = true) : ∀ k ∈ n.ks, 0 ≤ k ∧ k < n.hi := by
  unfold rightB at h
  simp only [Bool.and_eq_true, decide_eq_true_eq] at h
  intro k hk
  have h1 := keysOk_all _ _ _ h.2.2.2.2.2.1 k hk
  refine ⟨?_, h1.2⟩
  have : 0 ≤ least n.lv := by unfold least; split <;> omega
  omega
theorem right_pw (n : Nd) (h : rightB n = true) : n.ks.Pairwise (· < ·) := by
  unfold rightB at h
  simp only [Bool.and_eq_true, decide_eq_true_eq] at h
  exact keysOk_pair _ _ _ h.2.2.2.2.2.1
theorem right_kid (n : Nd) (h : rightB n = true) (hl : 0 < n.lv) : ∀ v ∈ n.vs, 1 ≤ v ∧ v ≤ 63 := by
  unfold rightB at h
  simp only [Bool.and_eq_true, decide_eq_true_eq] at h
  intro v hv
  have h1 := (valsOk_iff _ _).1 h.2.2.2.2.2.2 v hv
  unfold valOk at h1
  rw [if_neg (by omega)] at h1
  unfold pageOk at h1
  simp only [Bool.and_eq_true, decide_eq_true_eq] at h1
  omega
theorem ent_key {n : Nd} {e : Int × Int} (h : e ∈ ent n) : e.1 ∈ n.ks ∧ e.2 ∈ n.vs := List.of_mem_zip h

/-- A node is written anew: its level, High and link stay. -/
def Tre.put (t : Tre) (p : Nat) (n : Nd) : Tre := { t with nd := fun q => if q = p then n else t.nd q }
theorem Tre.put_self (t : Tre) (p : Nat) (n : Nd) : (t.put p n).nd p = n := if_pos rfl
theorem Tre.put_ne (t : Tre) {p q : Nat} (n : Nd) (h : q ≠ p) : (t.put p n).nd q = t.nd q := if_neg h
theorem Tre.put_fld {α : Type} (f : Nd → α) (t : Tre) (p : Nat) (n : Nd) (h : f n = f (t.nd p)) (q : Nat) : f ((t.put p n).nd q) = f (t.nd q) := by
  by_cases e : q = p
  · subst e; rw [t.put_self]; exact h
  · rw [t.put_ne n e]

structure Tre.PutOk (t : Tre) (p : Nat) (n : Nd) : Prop where
  inn : t.inn p
  lv : n.lv = (t.nd p).lv
  lk : n.lk = (t.nd p).lk
  hi : n.hi = (t.nd p).hi
  rt : rightB n = true
  ks : ∀ k ∈ n.ks, t.low p ≤ k
  fst : 0 < n.lv → n.ks.head? = some (t.low p)
  chd : 0 < n.lv → ∀ e ∈ ent n, t.kid n.lv e

theorem Tre.Ok.put {t : Tre} (h : t.Ok) {p : Nat} {n : Nd} (k : t.PutOk p n) : (t.put p n).Ok ∧ Grows t (t.put p n) := by
  have elv := t.put_fld Nd.lv p n k.lv
  have ehi := t.put_fld Nd.hi p n k.hi
  have elk := t.put_fld Nd.lk p n k.lk
  have kd : ∀ l e, t.kid l e → (t.put p n).kid l e := fun l e ⟨q, h1, h2, h3, h4⟩ => ⟨q, h1, h2, h3, by rw [elv]; exact h4⟩
  refine ⟨⟨fun q hq => ?_, h.lt, h.r0, h.l0, by rw [ehi]; exact h.h0, fun q hq h0 => by rw [elv, elv]; exact h.top q hq h0, fun q hq => by rw [ehi]; exact h.lo q hq, fun q hq => ?_, fun q hq h0 => ?_, fun q hq hh => ?_, fun q hq h0 => ?_, fun a b ha hb he hne => by rw [ehi, ehi]; rw [elv, elv] at he; exact h.dis a b ha hb he hne, fun q hq hl => ?_⟩, ⟨fun _ h => h, fun _ _ => rfl, fun q _ => by rw [elv]; omega, fun q _ _ => elv q⟩⟩
  · by_cases e : q = p
    · subst e; rw [t.put_self]; exact k.rt
    · rw [t.put_ne n e]; exact h.rt q hq
  · by_cases e : q = p
    · subst e; rw [t.put_self]; exact k.ks
    · rw [t.put_ne n e]; exact h.ks q hq
  · rw [elv] at h0
    by_cases e : q = p
    · subst e; rw [t.put_self]; exact k.fst (by rw [k.lv]; exact h0)
    · rw [t.put_ne n e]; exact h.fst q hq h0
  · rw [ehi] at hh
    obtain ⟨r, h1, h2, h3, h4⟩ := h.lnk q hq hh
    exact ⟨r, by rw [elk]; exact h1, h2, by rw [ehi]; exact h3, by rw [elv, elv]; exact h4⟩
  · rw [elv] at h0
    by_cases e : q = p
    · subst e
      intro x hx
      rw [t.put_self] at hx ⊢
      exact kd _ _ (k.chd (by rw [k.lv]; exact h0) x hx)
    · intro x hx
      rw [t.put_ne n e] at hx ⊢
      exact kd _ _ (h.chd q hq h0 x hx)
  · obtain ⟨r, h1, h2, h3⟩ := h.prd q hq hl
    exact ⟨r, h1, by rw [elv, elv]; exact h2, by rw [ehi]; exact h3⟩

/-- A node is split: it stays as its left half, a new page r has the right one. -/
def Tre.split (t : Tre) (p r : Nat) (a b : Nd) (mid : Int) : Tre :=
  ⟨fun q => if q = r then b else if q = p then a else t.nd q, fun q => t.inn q ∨ q = r, fun q => if q = r then mid else t.low q⟩
structure Tre.SplitOk (t : Tre) (p r : Nat) (a b : Nd) (mid : Int) : Prop where
  p0 : p ≠ 0
  inn : t.inn p
  new : ¬ t.inn r
  r64 : r < 64
  lva : a.lv = (t.nd p).lv
  lvb : b.lv = (t.nd p).lv
  lka : a.lk = (r : Int)
  hia : a.hi = mid
  lkb : b.lk = (t.nd p).lk
  hib : b.hi = (t.nd p).hi
  m1 : t.low p < mid
  m2 : mid < (t.nd p).hi
  rta : rightB a = true
  rtb : rightB b = true
  ksa : ∀ k ∈ a.ks, t.low p ≤ k
  ksb : ∀ k ∈ b.ks, mid ≤ k
  fsa : 0 < a.lv → a.ks.head? = some (t.low p)
  fsb : 0 < b.lv → b.ks.head? = some mid
  cha : 0 < a.lv → ∀ e ∈ ent a, t.kid a.lv e
  chb : 0 < b.lv → ∀ e ∈ ent b, t.kid b.lv e

theorem Tre.Ok.split {t : Tre} (h : t.Ok) {p r : Nat} {a b : Nd} {mid : Int} (k : t.SplitOk p r a b mid) : (t.split p r a b mid).Ok ∧ Grows t (t.split p r a b mid) := by
  have hrp : r ≠ p := fun e => k.new (e ▸ k.inn)
  have nr : (t.split p r a b mid).nd r = b := if_pos rfl
  have np : (t.split p r a b mid).nd p = a := by show (if p = r then b else if p = p then a else t.nd p) = a; rw [if_neg (fun e => hrp e.symm), if_pos rfl]
  have no : ∀ q, q ≠ r → q ≠ p → (t.split p r a b mid).nd q = t.nd q := fun q h1 h2 => by show (if q = r then b else if q = p then a else t.nd q) = t.nd q; rw [if_neg h1, if_neg h2]
  have lr : (t.split p r a b mid).low r = mid := if_pos rfl
  have lno : ∀ q, q ≠ r → (t.split p r a b mid).low q = t.low q := fun q h1 => if_neg h1
  have ne : ∀ q, t.inn q → q ≠ r := fun q hq e => k.new (e ▸ hq)
  have r0 : r ≠ 0 := fun e => k.new (e ▸ h.r0)
  have elv : ∀ q, t.inn q → ((t.split p r a b mid).nd q).lv = (t.nd q).lv := fun q hq => by
    by_cases e : q = p
    · subst e; rw [np, k.lva]
    · rw [no q (ne q hq) e]
  have n0 : (t.split p r a b mid).nd 0 = t.nd 0 := no 0 (Ne.symm r0) (Ne.symm k.p0)
  have kd : ∀ l e, t.kid l e → (t.split p r a b mid).kid l e := fun l e ⟨q, h1, h2, h3, h4⟩ => ⟨q, h1, Or.inl h2, by rw [lno q (ne q h2)]; exact h3, by rw [elv q h2]; exact h4⟩
  have hlo := h.lo p k.inn
  have hm1 := k.m1
  have hm2 := k.m2
  refine ⟨⟨fun q hq => ?_, fun q hq => ?_, Or.inl h.r0, ?_, by rw [n0]; exact h.h0, fun q hq h0 => ?_, fun q hq => ?_, fun q hq => ?_, fun q hq h0 => ?_, fun q hq hh => ?_, fun q hq h0 => ?_, fun x y hx hy he hne => ?_, fun q hq hl => ?_⟩, ⟨fun _ h => Or.inl h, fun q hq => lno q (ne q hq), fun q hq => by rw [elv q hq]; omega, fun q hq _ => elv q hq⟩⟩
  · rcases hq with hq | rfl
    · by_cases e : q = p
      · subst e; rw [np]; exact k.rta
      · rw [no q (ne q hq) e]; exact h.rt q hq
    · rw [nr]; exact k.rtb
  · rcases hq with hq | rfl
    · exact h.lt q hq
    · exact k.r64
  · rw [lno 0 (Ne.symm r0)]; exact h.l0
  · rw [n0]
    rcases hq with hq | rfl
    · rw [elv q hq]; exact h.top q hq h0
    · rw [nr, k.lvb]; exact h.top p k.inn k.p0
  · rcases hq with hq | rfl
    · rw [lno q (ne q hq)]
      by_cases e : q = p
      · subst e; rw [np, k.hia]; exact ⟨hlo.1, k.m1⟩
      · rw [no q (ne q hq) e]; exact h.lo q hq
    · rw [nr, lr, k.hib]; omega
  · rcases hq with hq | rfl
    · rw [lno q (ne q hq)]
      by_cases e : q = p
      · subst e; rw [np]; exact k.ksa
      · rw [no q (ne q hq) e]; exact h.ks q hq
    · rw [nr, lr]; exact k.ksb
  · rcases hq with hq | rfl
    · rw [elv q hq] at h0
      rw [lno q (ne q hq)]
      by_cases e : q = p
      · subst e; rw [np]; exact k.fsa (by rw [k.lva]; exact h0)
      · rw [no q (ne q hq) e]; exact h.fst q hq h0
    · rw [nr] at h0 ⊢; rw [lr]; exact k.fsb h0
  · rcases hq with hq | rfl
    · by_cases e : q = p
      · subst e
        exact ⟨r, by rw [np]; exact k.lka, Or.inr rfl, by rw [lr, np, k.hia], by rw [nr, np, k.lva, k.lvb]⟩
      · rw [no q (ne q hq) e] at hh ⊢
        obtain ⟨s, h1, h2, h3, h4⟩ := h.lnk q hq hh
        exact ⟨s, h1, Or.inl h2, by rw [lno s (ne s h2)]; exact h3, by rw [elv s h2]; exact h4⟩
    · rw [nr] at hh ⊢
      rw [k.hib] at hh
      obtain ⟨s, h1, h2, h3, h4⟩ := h.lnk p k.inn hh
      exact ⟨s, by rw [k.lkb]; exact h1, Or.inl h2, by rw [lno s (ne s h2), k.hib]; exact h3, by rw [elv s h2, k.lvb]; exact h4⟩
  · rcases hq with hq | rfl
    · rw [elv q hq] at h0
      intro x hx
      by_cases e : q = p
      · subst e; rw [np] at hx ⊢; exact kd _ _ (k.cha (by rw [k.lva]; exact h0) x hx)
      · rw [no q (ne q hq) e] at hx ⊢; exact kd _ _ (h.chd q hq h0 x hx)
    · intro x hx
      rw [nr] at h0 hx ⊢
      exact kd _ _ (k.chb h0 x hx)
  · -- two nodes of a level do not meet
    have key : ∀ x, t.inn x → x ≠ p → (t.nd x).lv = (t.nd p).lv → (t.nd x).hi ≤ t.low p ∨ (t.nd p).hi ≤ t.low x := fun x hx e he => h.dis x p hx k.inn he e
    rcases hx with hx | rfl
    · rcases hy with hy | rfl
      · rw [elv x hx, elv y hy] at he
        rw [lno x (ne x hx), lno y (ne y hy)]
        by_cases e1 : x = p
        · subst e1
          rw [np, k.hia, no y (ne y hy) (Ne.symm hne)]
          rcases key y hy (Ne.symm hne) he.symm with h1 | h1
          · right; exact h1
          · left; omega
        · rw [no x (ne x hx) e1]
          by_cases e2 : y = p
          · subst e2
            rw [np, k.hia]
            rcases key x hx e1 he with h1 | h1
            · left; exact h1
            · right; omega
          · rw [no y (ne y hy) e2]
            exact h.dis x y hx hy he hne
      · rw [elv x hx, nr, k.lvb] at he
        rw [lno x (ne x hx), lr, nr, k.hib]
        by_cases e1 : x = p
        · subst e1; rw [np, k.hia]; left; omega
        · rw [no x (ne x hx) e1]
          rcases key x hx e1 he with h1 | h1
          · left; omega
          · right; exact h1
    · rcases hy with hy | rfl
      · rw [elv y hy, nr, k.lvb] at he
        rw [lno y (ne y hy), lr, nr, k.hib]
        by_cases e1 : y = p
        · subst e1; rw [np, k.hia]; right; omega
        · rw [no y (ne y hy) e1]
          rcases key y hy e1 he.symm with h1 | h1
          · right; omega
          · left; exact h1
      · exact absurd rfl hne
  · rcases hq with hq | rfl
    · rw [lno q (ne q hq)] at hl ⊢
      obtain ⟨s, h1, h2, h3⟩ := h.prd q hq hl
      by_cases e : s = p
      · subst e
        exact ⟨r, Or.inr rfl, by rw [nr, k.lvb, elv q hq]; exact h2, by rw [nr, k.hib]; exact h3⟩
      · exact ⟨s, Or.inl h1, by rw [elv s h1, elv q hq]; exact h2, by rw [no s (ne s h1) e]; exact h3⟩
    · exact ⟨p, Or.inl k.inn, by rw [np, nr, k.lva, k.lvb], by rw [np, lr, k.hia]⟩

/-- The root is set a level higher, over a page l that has what it had. -/
def Tre.lift (t : Tre) (l : Nat) : Tre :=
  ⟨fun q => if q = l then t.nd 0 else if q = 0 then ⟨(t.nd 0).lv + 1, -1, 10000, [0], [(l : Int)]⟩ else t.nd q, fun q => t.inn q ∨ q = l, fun q => if q = l then 0 else t.low q⟩
theorem Tre.Ok.lift {t : Tre} (h : t.Ok) {l : Nat} (hl : ¬ t.inn l) (l64 : l < 64) (h9 : (t.nd 0).lv < 9) : (t.lift l).Ok ∧ Grows t (t.lift l) := by
  have l0 : l ≠ 0 := fun e => hl (e ▸ h.r0)
  have ne : ∀ q, t.inn q → q ≠ l := fun q hq e => hl (e ▸ hq)
  have nl : (t.lift l).nd l = t.nd 0 := if_pos rfl
  have n0 : (t.lift l).nd 0 = ⟨(t.nd 0).lv + 1, -1, 10000, [0], [(l : Int)]⟩ := by show (if 0 = l then _ else if 0 = 0 then _ else _) = _; rw [if_neg (Ne.symm l0), if_pos rfl]
  have no : ∀ q, q ≠ l → q ≠ 0 → (t.lift l).nd q = t.nd q := fun q h1 h2 => by show (if q = l then _ else if q = 0 then _ else t.nd q) = _; rw [if_neg h1, if_neg h2]
  have ll : (t.lift l).low l = 0 := if_pos rfl
  have lno : ∀ q, q ≠ l → (t.lift l).low q = t.low q := fun q h1 => if_neg h1
  have lv0 : ((t.lift l).nd 0).lv = (t.nd 0).lv + 1 := by rw [n0]
  have elv : ∀ q, t.inn q → q ≠ 0 → ((t.lift l).nd q).lv = (t.nd q).lv := fun q hq e => by rw [no q (ne q hq) e]
  have hr0 := right_bd (t.nd 0) (h.rt 0 h.r0)
  have ne0 : ∀ q, t.inn q → (t.nd q).lv < (t.nd 0).lv → q ≠ 0 := fun q _ h1 e => by subst e; omega
  have kd : ∀ li e, li ≤ (t.nd 0).lv → t.kid li e → (t.lift l).kid li e := fun li e hle ⟨q, h1, h2, h3, h4⟩ => by
    have hq0 : q ≠ 0 := ne0 q h2 (by omega)
    exact ⟨q, h1, Or.inl h2, by rw [lno q (ne q h2)]; exact h3, by rw [elv q h2 hq0]; exact h4⟩
  have lvle : ∀ q, t.inn q → (t.nd q).lv ≤ (t.nd 0).lv := fun q hq => by
    by_cases e : q = 0
    · subst e; omega
    · have := h.top q hq e; omega
  refine ⟨⟨fun q hq => ?_, fun q hq => ?_, Or.inl h.r0, ?_, by rw [n0], fun q hq h0 => ?_, fun q hq => ?_, fun q hq => ?_, fun q hq h0 => ?_, fun q hq hh => ?_, fun q hq h0 => ?_, fun x y hx hy he hne => ?_, fun q hq hlo => ?_⟩, ⟨fun _ h => Or.inl h, fun q hq => lno q (ne q hq), fun q hq => ?_, fun q hq h0 => elv q hq h0⟩⟩
  · rcases hq with hq | rfl
    · by_cases e : q = 0
      · subst e
        rw [n0]
        have hlv := hr0.1
        unfold rightB endOk cntOk
        have e1 : ¬ ((t.nd 0).lv + 1 = 0) := by omega
        simp only [if_neg e1, keysOk, valsOk, valOk, pageOk, least]
        simp
        omega
      · rw [no q (ne q hq) e]; exact h.rt q hq
    · rw [nl]; exact h.rt 0 h.r0
  · rcases hq with hq | rfl
    · exact h.lt q hq
    · exact l64
  · rw [lno 0 (Ne.symm l0)]; exact h.l0
  · rw [lv0]
    rcases hq with hq | rfl
    · rw [elv q hq h0]; have := h.top q hq h0; omega
    · rw [nl]; omega
  · rcases hq with hq | rfl
    · rw [lno q (ne q hq)]
      by_cases e : q = 0
      · subst e; rw [n0, h.l0]; exact ⟨Int.le_refl _, show (0 : Int) < 10000 by decide⟩
      · rw [no q (ne q hq) e]; exact h.lo q hq
    · rw [nl, ll]; have := h.lo 0 h.r0; rw [h.l0] at this; exact this
  · rcases hq with hq | rfl
    · rw [lno q (ne q hq)]
      by_cases e : q = 0
      · subst e; rw [n0, h.l0]; intro k hk; rw [List.mem_singleton] at hk; omega
      · rw [no q (ne q hq) e]; exact h.ks q hq
    · rw [nl, ll]; have := h.ks 0 h.r0; rw [h.l0] at this; exact this
  · rcases hq with hq | rfl
    · rw [lno q (ne q hq)]
      by_cases e : q = 0
      · subst e; rw [n0, h.l0]; rfl
      · rw [no q (ne q hq) e] at h0 ⊢; exact h.fst q hq h0
    · rw [nl] at h0 ⊢; rw [ll]; have := h.fst 0 h.r0 h0; rw [h.l0] at this; exact this
  · rcases hq with hq | rfl
    · by_cases e : q = 0
      · subst e; rw [n0] at hh; exact absurd rfl hh
      · rw [no q (ne q hq) e] at hh ⊢
        obtain ⟨s, h1, h2, h3, h4⟩ := h.lnk q hq hh
        have hs0 : s ≠ 0 := ne0 s h2 (by have := h.top q hq e; omega)
        exact ⟨s, h1, Or.inl h2, by rw [lno s (ne s h2)]; exact h3, by rw [elv s h2 hs0]; exact h4⟩
    · rw [nl, h.h0] at hh; exact absurd rfl hh
  · rcases hq with hq | rfl
    · by_cases e : q = 0
      · subst e
        intro x hx
        rw [n0] at hx ⊢
        have hx2 : x = (0, (l : Int)) := by simpa [ent] using hx
        subst hx2
        exact ⟨l, rfl, Or.inr rfl, ll, by rw [nl]⟩
      · rw [elv q hq e] at h0
        intro x hx
        rw [no q (ne q hq) e] at hx ⊢
        exact kd _ _ (lvle q hq) (h.chd q hq h0 x hx)
    · intro x hx
      rw [nl] at h0 hx ⊢
      exact kd _ _ (Int.le_refl _) (h.chd 0 h.r0 h0 x hx)
  · have hz : ∀ y, t.inn y → y ≠ 0 → ((t.lift l).nd y).lv = (t.nd 0).lv → False := fun y hy e he => by rw [elv y hy e] at he; have := h.top y hy e; omega
    have hz2 : ∀ y, (t.inn y ∨ y = l) → y ≠ 0 → ((t.lift l).nd y).lv = (t.nd 0).lv + 1 → False := fun y hy e he => by
      rcases hy with hy | rfl
      · rw [elv y hy e] at he; have := h.top y hy e; omega
      · rw [nl] at he; omega
    by_cases ex : x = 0
    · subst ex
      rw [lv0] at he
      exact absurd he.symm (fun e => hz2 y hy (Ne.symm hne) e)
    · by_cases ey : y = 0
      · subst ey
        rw [lv0] at he
        exact absurd he (fun e => hz2 x hx ex e)
      · rcases hx with hx | rfl
        · rcases hy with hy | rfl
          · rw [elv x hx ex, elv y hy ey] at he
            rw [lno x (ne x hx), lno y (ne y hy), no x (ne x hx) ex, no y (ne y hy) ey]
            exact h.dis x y hx hy he hne
          · rw [nl] at he; exact absurd he (fun e => hz x hx ex e)
        · rcases hy with hy | rfl
          · rw [nl] at he; exact absurd he.symm (fun e => hz y hy ey e)
          · exact absurd rfl hne
  · rcases hq with hq | rfl
    · rw [lno q (ne q hq)] at hlo ⊢
      have hq0 : q ≠ 0 := fun e => by subst e; rw [h.l0] at hlo; omega
      obtain ⟨s, h1, h2, h3⟩ := h.prd q hq hlo
      have hs0 : s ≠ 0 := ne0 s h1 (by have := h.top q hq hq0; omega)
      exact ⟨s, Or.inl h1, by rw [elv s h1 hs0, elv q hq hq0]; exact h2, by rw [no s (ne s h1) hs0]; exact h3⟩
    · rw [ll] at hlo; omega
  · by_cases e : q = 0
    · subst e; rw [lv0]; omega
    · rw [elv q hq e]; omega

/-- Only the pages that are in the tree matter. -/
theorem Tre.Ok.congr {t t' : Tre} (h : t.Ok) (h1 : ∀ p, t'.inn p ↔ t.inn p) (h2 : ∀ p, t.inn p → t'.nd p = t.nd p) (h3 : ∀ p, t.inn p → t'.low p = t.low p) : t'.Ok ∧ Grows t t' := by
  have kd : ∀ l e, t.kid l e → t'.kid l e := fun l e ⟨q, a, b, c, d⟩ => ⟨q, a, (h1 q).2 b, by rw [h3 q b]; exact c, by rw [h2 q b]; exact d⟩
  refine ⟨⟨fun p hp => ?_, fun p hp => h.lt p ((h1 p).1 hp), (h1 0).2 h.r0, by rw [h3 0 h.r0]; exact h.l0, by rw [h2 0 h.r0]; exact h.h0, fun p hp e => ?_, fun p hp => ?_, fun p hp => ?_, fun p hp => ?_, fun p hp => ?_, fun p hp => ?_, fun p q hp hq => ?_, fun p hp => ?_⟩, ⟨fun p hp => (h1 p).2 hp, h3, fun p hp => by rw [h2 p hp]; omega, fun p hp _ => by rw [h2 p hp]⟩⟩
  · have hp := (h1 p).1 hp; rw [h2 p hp]; exact h.rt p hp
  · have hp := (h1 p).1 hp; rw [h2 p hp, h2 0 h.r0]; exact h.top p hp e
  · have hp := (h1 p).1 hp; rw [h2 p hp, h3 p hp]; exact h.lo p hp
  · have hp := (h1 p).1 hp; rw [h2 p hp, h3 p hp]; exact h.ks p hp
  · have hp := (h1 p).1 hp; rw [h2 p hp, h3 p hp]; exact h.fst p hp
  · have hp := (h1 p).1 hp
    rw [h2 p hp]
    intro hh
    obtain ⟨q, a, b, c, d⟩ := h.lnk p hp hh
    exact ⟨q, a, (h1 q).2 b, by rw [h3 q b]; exact c, by rw [h2 q b]; exact d⟩
  · have hp := (h1 p).1 hp
    rw [h2 p hp]
    exact fun h0 e he => kd _ _ (h.chd p hp h0 e he)
  · have hp := (h1 p).1 hp
    have hq := (h1 q).1 hq
    rw [h2 p hp, h2 q hq, h3 p hp, h3 q hq]; exact h.dis p q hp hq
  · have hp := (h1 p).1 hp
    rw [h3 p hp]
    intro hl
    obtain ⟨q, a, b, c⟩ := h.prd p hp hl
    exact ⟨q, (h1 q).2 a, by rw [h2 q a, h2 p hp]; exact b, by rw [h2 q a]; exact c⟩
end Go.Proofs.YtajobgmnmbnhiaaDoor.Sap

/- WHAT IS PROVED HERE: plain facts: a way through the tree to a key: it is kept by whatever is written, and it leads on, by a child or by a link (no program's function is walked). Conditions: none but those named at each theorem. -/
namespace Go.Proofs.YtajobgmnmbnhiaaDoor.Sap
open Go.RowKit

/-- A page from which on a key is found at a level. -/
structure Way (t : Tre) (p : Nat) (l key : Int) : Prop where
  inn : t.inn p
  lv : l ≤ (t.nd p).lv
  lo : t.low p ≤ key
theorem Way.mono {t t' : Tre} {p : Nat} {l key : Int} (h : Way t p l key) (k : Grows t t') : Way t' p l key :=
  ⟨k.inn p h.inn, Int.le_trans h.lv (k.lv p h.inn), by rw [k.low p h.inn]; exact h.lo⟩
theorem Way.root {t : Tre} (h : t.Ok) {l key : Int} (hl : l ≤ (t.nd 0).lv) (hk : 0 ≤ key) : Way t 0 l key := ⟨h.r0, hl, by rw [h.l0]; exact hk⟩

/-- The child for a key is the one of an entry. -/
theorem chl_ent (ks vs : List Int) (key : Int) (hl : ks.length = vs.length) (k : Nat) (hk : k ≤ ks.length) (hh : ∃ x, ks.head? = some x ∧ x ≤ key) (h0 : 0 < k) :
    ∃ e ∈ ks.zip vs, chl ks vs key k = e.2 ∧ e.1 ≤ key := by
  induction k with
  | zero => omega
  | succ k ih =>
    have hk1 : k < ks.length := by omega
    have e1 : ks[k]?.getD 0 = ks[k] := by rw [List.getElem?_eq_getElem hk1]; rfl
    have e2 : vs[k]?.getD 0 = vs[k]'(by omega) := by rw [List.getElem?_eq_getElem (by omega)]; rfl
    unfold chl
    rw [e1, e2]
    by_cases hc : ks[k] ≤ key
    · rw [if_pos hc]
      exact ⟨(ks[k], vs[k]'(by omega)), List.mem_iff_getElem.2 ⟨k, by simp; omega, by simp⟩, rfl, hc⟩
    · rw [if_neg hc]
      rcases Nat.eq_zero_or_pos k with rfl | hp
      · obtain ⟨x, hx, hxk⟩ := hh
        rw [List.head?_eq_getElem?, List.getElem?_eq_getElem hk1] at hx
        have := Option.some.inj hx
        omega
      · exact ih (by omega) hp

/-- By the link, where the key is the node's High or more. -/
theorem Way.link {t : Tre} (h : t.Ok) {p : Nat} {l key : Int} (w : Way t p l key) (hk : key ≤ 9999) (hh : (t.nd p).hi ≤ key) : ∃ q : Nat, (t.nd p).lk = (q : Int) ∧ Way t q l key ∧ (t.nd q).lv = (t.nd p).lv ∧ t.low q = (t.nd p).hi := by
  obtain ⟨q, h1, h2, h3, h4⟩ := h.lnk p w.inn (by omega)
  exact ⟨q, h1, ⟨h2, by rw [h4]; exact w.lv, by rw [h3]; exact hh⟩, h4, h3⟩
/-- By the child, where the node is of a higher level. -/
theorem Way.child {t : Tre} (h : t.Ok) {p : Nat} {l key : Int} (w : Way t p l key) (hl0 : 0 ≤ l) (hl : l < (t.nd p).lv) : ∃ q : Nat, chl (t.nd p).ks (t.nd p).vs key (t.nd p).ks.length = (q : Int) ∧ Way t q l key ∧ (t.nd q).lv + 1 = (t.nd p).lv := by
  have hlv : 0 < (t.nd p).lv := by omega
  have hb := right_bd _ (h.rt p w.inn)
  have hf := h.fst p w.inn hlv
  have hpos : 0 < (t.nd p).ks.length := by
    cases hks : (t.nd p).ks with
    | nil => rw [hks] at hf; cases hf
    | cons _ _ => simp
  obtain ⟨e, he, hc, hek⟩ := chl_ent (t.nd p).ks (t.nd p).vs key hb.2.2.2.1 _ (Nat.le_refl _) ⟨_, hf, w.lo⟩ hpos
  obtain ⟨q, h1, h2, h3, h4⟩ := h.chd p w.inn hlv e he
  exact ⟨q, by rw [hc]; exact h1, ⟨h2, by omega, by rw [h3]; exact hek⟩, h4⟩
/-- Wherever tree.onward leads. -/
theorem Way.onw {t : Tre} (h : t.Ok) {p : Nat} {l key : Int} (w : Way t p l key) (hl0 : 0 ≤ l) (hk : key ≤ 9999) (hgo : l < (t.nd p).lv ∨ (t.nd p).hi ≤ key) :
    ∃ q : Nat, onwV (t.nd p) key = (q : Int) ∧ Way t q l key ∧ q < 64 ∧ ((t.nd q).lv < (t.nd p).lv ∨ ((t.nd q).lv = (t.nd p).lv ∧ t.low p < t.low q)) := by
  unfold onwV
  by_cases hh : (t.nd p).hi ≤ key
  · obtain ⟨q, h1, h2, h3, h4⟩ := w.link h hk hh
    rw [if_pos hh]
    exact ⟨q, h1, h2, h.lt q h2.inn, Or.inr ⟨h3, by rw [h4]; exact (h.lo p w.inn).2⟩⟩
  · rw [if_neg hh]
    obtain ⟨q, h1, h2, h3⟩ := w.child h hl0 (by rcases hgo with h | h; exact h; exact absurd h hh)
    exact ⟨q, h1, h2, h.lt q h2.inn, Or.inl (by omega)⟩
end Go.Proofs.YtajobgmnmbnhiaaDoor.Sap
