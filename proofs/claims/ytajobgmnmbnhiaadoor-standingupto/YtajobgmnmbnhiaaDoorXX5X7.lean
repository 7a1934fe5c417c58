/- WHAT IS PROVED HERE: plain facts: the node behind a change, and the halves of one that is crowded (no program's function is walked). Conditions: none but those named at each theorem. -/
import Derived.Test.YtajobgmnmbnhiaaDoorXK4K5
import Derived.Test.YtajobgmnmbnhiaaDoorXV2V4
import Derived.Test.YtajobgmnmbnhiaaDoorXX3X4
namespace Go.Proofs.YtajobgmnmbnhiaaDoor.Sap
open Go.RowKit

/-- The node behind a Put or a Drop of a key. -/
def cg (n : Nd) (k key v : Int) : Nd := ⟨n.lv, n.lk, n.hi, chK n k key, chV n k key v⟩
structure ChI (n : Nd) (k key v : Int) : Prop where
  rt : rightB n = true
  kd : k = 2 ∨ k = 3
  k1 : 1 ≤ key
  kh : key < n.hi
  v0 : n.lv = 0 → k = 2 → 0 ≤ v ∧ v ≤ 9999
  v1 : 0 < n.lv → k = 2 ∧ 1 ≤ v ∧ v ≤ 63

theorem head_min {l : List Int} {a : Int} (hp : l.Pairwise (· < ·)) (ha : a ∈ l) (hm : ∀ x ∈ l, a ≤ x) : l.head? = some a := by
  cases l with
  | nil => cases ha
  | cons x r =>
    rcases List.mem_cons.1 ha with rfl | h
    · rfl
    · have h1 := (List.pairwise_cons.1 hp).1 a h
      have h2 := hm x (by simp)
      omega
theorem right_least (n : Nd) (h : rightB n = true) : ∀ k ∈ n.ks, least n.lv ≤ k ∧ k < n.hi := by
  unfold rightB at h
  simp only [Bool.and_eq_true, decide_eq_true_eq] at h
  exact keysOk_all _ _ _ h.2.2.2.2.2.1

theorem cg_len {n : Nd} {k key v : Int} (h : ChI n k key v) : (cg n k key v).ks.length = (cg n k key v).vs.length := (ch_zip n k key v (right_bd n h.rt).2.2.2.1).1
theorem cg_ent {n : Nd} {k key v : Int} (h : ChI n k key v) {e : Int × Int} (he : e ∈ ent (cg n k key v)) : e ∈ ent n ∨ (k = 2 ∧ e = (key, v)) := by
  unfold ent cg at he
  simp only at he
  rw [(ch_zip n k key v (right_bd n h.rt).2.2.2.1).2] at he
  rcases List.mem_append.1 he with he | he
  · rcases List.mem_append.1 he with he | he
    · exact Or.inl (List.mem_filter.1 he).1
    · split at he
      · rename_i hk; rw [List.mem_singleton] at he; exact Or.inr ⟨hk, he⟩
      · cases he
  · exact Or.inl (List.mem_filter.1 he).1
theorem cg_ks {n : Nd} {k key v : Int} (h : ChI n k key v) (q : Int) : q ∈ (cg n k key v).ks ↔ (q ∈ n.ks ∧ q ≠ key) ∨ (k = 2 ∧ q = key) := by
  have hb := right_kb n h.rt
  show q ∈ chK n k key ↔ _
  rw [chK_eq n k key v (right_bd n h.rt).2.2.2.1, List.mem_append, List.mem_append, List.mem_filter, List.mem_filter]
  simp only [Bool.and_eq_true, decide_eq_true_eq]
  constructor
  · rintro ((⟨h1, h2⟩ | h1) | ⟨h1, h2⟩)
    · exact Or.inl ⟨h1, by omega⟩
    · split at h1
      · rename_i hk; rw [List.mem_singleton] at h1; exact Or.inr ⟨hk, h1⟩
      · cases h1
    · exact Or.inl ⟨h1, by omega⟩
  · rintro (⟨h1, h2⟩ | ⟨h1, h2⟩)
    · have := hb q h1
      by_cases hq : q < key
      · exact Or.inl (Or.inl ⟨h1, by omega⟩)
      · exact Or.inr ⟨h1, by omega⟩
    · exact Or.inl (Or.inr (by rw [if_pos h1]; simp [h2]))
theorem cg_pw {n : Nd} {k key v : Int} (h : ChI n k key v) : (cg n k key v).ks.Pairwise (· < ·) := by
  have hpw := right_pw n h.rt
  show (chK n k key).Pairwise _
  rw [chK_eq n k key v (right_bd n h.rt).2.2.2.1, List.pairwise_append, List.pairwise_append]
  refine ⟨⟨hpw.filter _, by split <;> simp, fun a ha b hb => ?_⟩, hpw.filter _, fun a ha b hb => ?_⟩
  · have := (List.mem_filter.1 ha).2
    simp only [Bool.and_eq_true, decide_eq_true_eq] at this
    split at hb
    · rw [List.mem_singleton] at hb; omega
    · cases hb
  · have h8 := (List.mem_filter.1 hb).2
    simp only [Bool.and_eq_true, decide_eq_true_eq] at h8
    rcases List.mem_append.1 ha with ha | ha
    · have := (List.mem_filter.1 ha).2
      simp only [Bool.and_eq_true, decide_eq_true_eq] at this
      omega
    · split at ha
      · rw [List.mem_singleton] at ha; omega
      · cases ha
theorem cg_count {n : Nd} {k key v : Int} (h : ChI n k key v) : (cg n k key v).ks.length ≤ n.ks.length + 1 ∧ (key ∈ n.ks ∨ k = 3 → (cg n k key v).ks.length ≤ n.ks.length) := by
  have hc := cnt3 n.ks key n.hi
  show (chK n k key).length ≤ _ ∧ (_ → (chK n k key).length ≤ _)
  rw [chK_eq n k key v (right_bd n h.rt).2.2.2.1, List.length_append, List.length_append]
  have h1 : (if k = 2 then [key] else []).length ≤ 1 := by split <;> simp
  refine ⟨by omega, fun hh => ?_⟩
  rcases hh with hm | hk
  · have : 0 < (n.ks.filter (fun q => decide (q = key))).length := List.length_pos_of_mem (List.mem_filter.2 ⟨hm, by simp⟩)
    omega
  · have : (if k = 2 then [key] else []).length = 0 := by rw [if_neg (by omega)]; rfl
    omega
theorem cg_bd {n : Nd} {k key v : Int} (h : ChI n k key v) : ∀ q ∈ (cg n k key v).ks, least n.lv ≤ q ∧ q < n.hi := by
  intro q hq
  have h1 := h.k1
  have h2 := h.kh
  have h3 : least n.lv ≤ 1 := by unfold least; split <;> omega
  rcases (cg_ks h q).1 hq with ⟨h4, -⟩ | ⟨-, rfl⟩
  · exact right_least n h.rt q h4
  · omega
theorem right_vals (n : Nd) (h : rightB n = true) : ∀ x ∈ n.vs, valOk n.lv x = true := by
  unfold rightB at h
  simp only [Bool.and_eq_true, decide_eq_true_eq] at h
  exact (valsOk_iff _ _).1 h.2.2.2.2.2.2
theorem zip_val {ks vs : List Int} (hl : ks.length = vs.length) {x : Int} (hx : x ∈ vs) : ∃ q, (q, x) ∈ ks.zip vs := by
  obtain ⟨i, hi, rfl⟩ := List.mem_iff_getElem.1 hx
  exact ⟨ks[i]'(by omega), List.mem_iff_getElem.2 ⟨i, by simp; omega, by simp⟩⟩
theorem cg_val {n : Nd} {k key v : Int} (h : ChI n k key v) {e : Int × Int} (he : e ∈ ent (cg n k key v)) : valOk n.lv e.2 = true := by
  rcases cg_ent h he with h1 | ⟨hk, rfl⟩
  · exact right_vals n h.rt _ (ent_key h1).2
  · unfold valOk
    have hl0 := (right_bd n h.rt).1
    split
    · rename_i h0
      have := h.v0 h0 hk
      simp; omega
    · rename_i h0
      have := h.v1 (by omega)
      unfold pageOk
      simp; omega
/-- A node is right: what is to be shown. -/
theorem right_mk {n : Nd} (h0 : 0 ≤ n.lv) (h9 : n.lv ≤ 9) (he : endOk n.lk n.hi = true) (hl : n.ks.length = n.vs.length) (hc : cntOk n.lv n.ks.length = true) (hp : n.ks.Pairwise (· < ·)) (hb : ∀ q ∈ n.ks, least n.lv ≤ q ∧ q < n.hi) (hv : ∀ e ∈ ent n, valOk n.lv e.2 = true) : rightB n = true := by
  unfold rightB
  simp only [Bool.and_eq_true, decide_eq_true_eq]
  refine ⟨h0, h9, he, hl, hc, keysOk_mk _ _ _ hp hb, (valsOk_iff _ _).2 fun x hx => ?_⟩
  obtain ⟨q, hq⟩ := zip_val hl hx
  exact hv (q, x) hq
theorem right_end (n : Nd) (h : rightB n = true) : endOk n.lk n.hi = true := by
  unfold rightB at h
  simp only [Bool.and_eq_true, decide_eq_true_eq] at h
  exact h.2.2.1
theorem cg_right {n : Nd} {k key v : Int} (h : ChI n k key v) (hc : crowd n.lv (cg n k key v).ks.length = false) : rightB (cg n k key v) = true := by
  have hb := right_bd n h.rt
  refine right_mk hb.1 hb.2.1 (right_end n h.rt) (cg_len h) ?_ (cg_pw h) (cg_bd h) fun e he => cg_val h he
  show cntOk n.lv ((cg n k key v).ks.length : Int) = true
  unfold crowd at hc
  unfold cntOk
  by_cases h0 : n.lv = 0
  · rw [if_pos h0] at hc ⊢
    have := of_decide_eq_false hc
    simp; omega
  · rw [if_neg h0] at hc ⊢
    have := of_decide_eq_false hc
    have hv := h.v1 (by omega)
    have : 0 < (cg n k key v).ks.length := List.length_pos_of_mem ((cg_ks h key).2 (Or.inr ⟨hv.1, rfl⟩))
    simp; omega
theorem cg_look {n : Nd} {k key v : Int} (h : ChI n k key v) (q : Int) : lmap (cg n k key v) q = upd k key v (lmap n) q :=
  ch_look n k key v (right_bd n h.rt).2.2.2.1 (right_kb n h.rt) h.kd q

theorem crowd_len {n : Nd} {k key v : Int} (h : ChI n k key v) (hc : crowd n.lv (cg n k key v).ks.length = true) : (n.lv = 0 → (cg n k key v).ks.length = 6) ∧ (n.lv ≠ 0 → (cg n k key v).ks.length = 7) ∧ key ∉ n.ks ∧ k = 2 := by
  have h1 := cg_count h
  have hb := right_bd n h.rt
  unfold crowd at hc
  have key' : ∀ m, m < (cg n k key v).ks.length → n.ks.length ≤ m → key ∉ n.ks ∧ k = 2 := fun m h2 h3 => by
    refine ⟨fun h4 => ?_, ?_⟩
    · have := h1.2 (Or.inl h4); omega
    · rcases h.kd with h4 | h4
      · exact h4
      · have := h1.2 (Or.inr h4); omega
  by_cases h0 : n.lv = 0
  · rw [if_pos h0] at hc
    have h2 := of_decide_eq_true hc
    have h3 := hb.2.2.2.2.2.1 h0
    exact ⟨fun _ => by omega, fun h4 => absurd h0 h4, key' 5 h2 h3⟩
  · rw [if_neg h0] at hc
    have h2 := of_decide_eq_true hc
    have h3 := hb.2.2.2.2.1
    exact ⟨fun h4 => absurd h4 h0, fun _ => by omega, key' 6 h2 h3⟩

/-- The halves. -/
theorem tk_ks (ks vs : List Int) (l h : Int) (hl : ks.length = vs.length) : tkK ks l h [] ks.length = ks.filter (fun q => decide (l ≤ q) && decide (q < h)) := by
  obtain ⟨h1, h2⟩ := tk_zip ks vs l h [] [] rfl hl ks.length (Nat.le_refl _)
  have h3 := congrArg (List.map Prod.fst) h2
  rw [List.map_fst_zip (by omega), List.take_of_length_le (by simp; omega)] at h3
  rw [h3]
  simp only [List.zip_nil_left, List.nil_append]
  have : ks = (ks.zip vs).map Prod.fst := (List.map_fst_zip (by omega)).symm
  conv => rhs; rw [this]
  rw [List.filter_map]; rfl
theorem tk_en (ks vs : List Int) (l h : Int) (hl : ks.length = vs.length) : (tkK ks l h [] ks.length).length = (tkV ks vs l h [] ks.length).length ∧ (tkK ks l h [] ks.length).zip (tkV ks vs l h [] ks.length) = (ks.zip vs).filter (fun x => (fun q => decide (l ≤ q) && decide (q < h)) x.1) := by
  obtain ⟨h1, h2⟩ := tk_zip ks vs l h [] [] rfl hl ks.length (Nat.le_refl _)
  rw [List.take_of_length_le (by simp; omega)] at h2
  exact ⟨h1, by simpa using h2⟩
theorem filter_lt {l : List Int} {P : Int → Bool} {a : Int} (ha : a ∈ l) (hp : P a = false) : (l.filter P).length < l.length := by
  rcases Nat.lt_or_ge (l.filter P).length l.length with h | h
  · exact h
  · have h1 : l.filter P = l := List.filter_sublist.eq_of_length_le h
    have h2 := List.filter_eq_self.1 h1 a ha
    rw [hp] at h2; cases h2
structure Halves (n : Nd) (k key v low : Int) : Prop where
  i : ChI n k key v
  cr : crowd n.lv (cg n k key v).ks.length = true
  lw : ∃ j, 0 < j ∧ (cg n k key v).ks[j]? = some low
theorem Halves.mem {n : Nd} {k key v low : Int} (h : Halves n k key v low) : low ∈ (cg n k key v).ks ∧ (∃ a ∈ (cg n k key v).ks, a < low) ∧ 1 ≤ low ∧ low < n.hi := by
  obtain ⟨j, hj, hl⟩ := h.lw
  obtain ⟨hj1, hj2⟩ := List.getElem?_eq_some_iff.1 hl
  have h0 := List.pairwise_iff_getElem.1 (cg_pw h.i) 0 j (by omega) hj1 hj
  rw [hj2] at h0
  have h1 : (cg n k key v).ks[0]'(by omega) ∈ (cg n k key v).ks := List.getElem_mem _
  have h2 := cg_bd h.i _ h1
  have hm : low ∈ (cg n k key v).ks := List.mem_of_getElem? hl
  have h3 := cg_bd h.i _ hm
  have h4 : 0 ≤ least n.lv := by unfold least; split <;> omega
  exact ⟨hm, ⟨_, h1, h0⟩, by omega, h3.2⟩
theorem Halves.cnt {n : Nd} {k key v low : Int} (h : Halves n k key v low) {P : Int → Bool} {a b : Int} (ha : a ∈ (cg n k key v).ks) (hpa : P a = false) (hb : b ∈ (cg n k key v).ks) (hpb : P b = true) : cntOk n.lv (((cg n k key v).ks.filter P).length : Int) = true := by
  have h1 := filter_lt ha hpa
  have h2 : 0 < ((cg n k key v).ks.filter P).length := List.length_pos_of_mem (List.mem_filter.2 ⟨hb, hpb⟩)
  obtain ⟨h3, h4, -⟩ := crowd_len h.i h.cr
  unfold cntOk
  by_cases h0 : n.lv = 0
  · rw [if_pos h0]; have := h3 h0; simp; omega
  · rw [if_neg h0]; have := h4 h0; simp; omega
theorem Halves.ksR {n : Nd} {k key v low : Int} (h : Halves n k key v low) : (rgtN (cg n k key v) low).ks = (cg n k key v).ks.filter (fun q => decide (low ≤ q) && decide (q < n.hi)) := tk_ks _ _ _ _ (cg_len h.i)
theorem Halves.ksL {n : Nd} {k key v low : Int} (h : Halves n k key v low) (r : Int) : (lftN (cg n k key v) low r).ks = (cg n k key v).ks.filter (fun q => decide (0 ≤ q) && decide (q < low)) := tk_ks _ _ _ _ (cg_len h.i)
theorem Halves.enR {n : Nd} {k key v low : Int} (h : Halves n k key v low) : ent (rgtN (cg n k key v) low) = (ent (cg n k key v)).filter (fun x => (fun q => decide (low ≤ q) && decide (q < n.hi)) x.1) := (tk_en _ _ _ _ (cg_len h.i)).2
theorem Halves.enL {n : Nd} {k key v low : Int} (h : Halves n k key v low) (r : Int) : ent (lftN (cg n k key v) low r) = (ent (cg n k key v)).filter (fun x => (fun q => decide (0 ≤ q) && decide (q < low)) x.1) := (tk_en _ _ _ _ (cg_len h.i)).2
theorem Halves.rtR {n : Nd} {k key v low : Int} (h : Halves n k key v low) : rightB (rgtN (cg n k key v) low) = true := by
  have hb := right_bd n h.i.rt
  obtain ⟨hm, ⟨a, ha, hal⟩, h1, h2⟩ := h.mem
  refine right_mk hb.1 hb.2.1 (right_end n h.i.rt) (tk_en _ _ _ _ (cg_len h.i)).1 ?_ ?_ ?_ fun e he => ?_
  · rw [h.ksR]
    refine h.cnt ha ?_ hm ?_
    · simp; omega
    · simp; omega
  · rw [h.ksR]; exact (cg_pw h.i).filter _
  · rw [h.ksR]; exact fun q hq => cg_bd h.i q (List.mem_filter.1 hq).1
  · rw [h.enR] at he
    exact cg_val h.i (List.mem_filter.1 he).1
theorem Halves.rtL {n : Nd} {k key v low : Int} (h : Halves n k key v low) {r : Int} (hr1 : 1 ≤ r) (hr2 : r ≤ 63) : rightB (lftN (cg n k key v) low r) = true := by
  have hb := right_bd n h.i.rt
  obtain ⟨hm, ⟨a, ha, hal⟩, h1, h2⟩ := h.mem
  have hh := right_hi n h.i.rt
  have ha0 := cg_bd h.i a ha
  have h4 : 0 ≤ least n.lv := by unfold least; split <;> omega
  refine right_mk hb.1 hb.2.1 ?_ (tk_en _ _ _ _ (cg_len h.i)).1 ?_ ?_ ?_ fun e he => ?_
  · show endOk r low = true
    unfold endOk pageOk
    rw [if_neg (by omega)]
    simp; omega
  · rw [h.ksL]
    refine h.cnt hm ?_ ha ?_
    · simp
    · simp; omega
  · rw [h.ksL]; exact (cg_pw h.i).filter _
  · rw [h.ksL]
    intro q hq
    obtain ⟨h5, h6⟩ := List.mem_filter.1 hq
    simp only [Bool.and_eq_true, decide_eq_true_eq] at h6
    exact ⟨(cg_bd h.i q h5).1, h6.2⟩
  · rw [h.enL] at he
    exact cg_val h.i (List.mem_filter.1 he).1
theorem Halves.rtT {n : Nd} {k key v low : Int} (h : Halves n k key v low) (h9 : n.lv < 9) {l r : Int} (hl1 : 1 ≤ l) (hl2 : l ≤ 63) (hr1 : 1 ≤ r) (hr2 : r ≤ 63) : rightB (topN (cg n k key v) low l r) = true := by
  have hb := right_bd n h.i.rt
  obtain ⟨hm, -, h1, h2⟩ := h.mem
  have hh := right_hi n h.i.rt
  have hlv : (topN (cg n k key v) low l r).lv = n.lv + 1 := rfl
  have hle : least (n.lv + 1) = 0 := by unfold least; rw [if_neg (by omega)]
  refine right_mk (by rw [hlv]; omega) (by rw [hlv]; omega) rfl rfl ?_ ?_ ?_ fun e he => ?_
  · show cntOk (n.lv + 1) 2 = true
    unfold cntOk; rw [if_neg (by omega)]; rfl
  · show [0, low].Pairwise _
    simp; omega
  · show ∀ q ∈ [0, low], least (n.lv + 1) ≤ q ∧ q < 10000
    rw [hle]
    intro q hq
    simp at hq
    omega
  · show valOk (n.lv + 1) e.2 = true
    have he2 : e ∈ [(0, l), (low, r)] := he
    unfold valOk pageOk
    rw [if_neg (by omega)]
    simp at he2
    rcases he2 with rfl | rfl <;> simp <;> omega
theorem Halves.lkR {n : Nd} {k key v low : Int} (h : Halves n k key v low) (q : Int) (hq : low ≤ q) : lmap (rgtN (cg n k key v) low) q = upd k key v (lmap n) q := by
  rw [← cg_look h.i]
  show look (ent (rgtN (cg n k key v) low)) q = look (ent (cg n k key v)) q
  rw [h.enR, look_filter (fun q => decide (low ≤ q) && decide (q < n.hi))]
  by_cases hh : q < n.hi
  · rw [if_pos (by simp; omega)]
  · rw [if_neg (by simp; omega)]
    exact (look_none fun x hx e => hh (by rw [← e]; exact (cg_bd h.i _ (ent_key hx).1).2)).symm
theorem Halves.lkL {n : Nd} {k key v low : Int} (h : Halves n k key v low) (r : Int) (q : Int) (hq : q < low) : lmap (lftN (cg n k key v) low r) q = upd k key v (lmap n) q := by
  rw [← cg_look h.i]
  show look (ent (lftN (cg n k key v) low r)) q = look (ent (cg n k key v)) q
  rw [h.enL, look_filter (fun q => decide (0 ≤ q) && decide (q < low))]
  by_cases hh : 0 ≤ q
  · rw [if_pos (by simp; omega)]
  · rw [if_neg (by simp; omega)]
    refine (look_none fun x hx e => hh ?_).symm
    have h4 : 0 ≤ least n.lv := by unfold least; split <;> omega
    have := (cg_bd h.i _ (ent_key hx).1).1
    omega

/-- The change at a page of the tree. -/
structure CgAt (t : Tre) (p : Nat) (k key v : Int) : Prop where
  inn : t.inn p
  i : ChI (t.nd p) k key v
  lo : t.low p ≤ key
  kid : 0 < (t.nd p).lv → t.kid (t.nd p).lv (key, v)
theorem CgAt.ge {t : Tre} {p : Nat} {k key v : Int} (h : CgAt t p k key v) (T : t.Ok) : ∀ q ∈ (cg (t.nd p) k key v).ks, t.low p ≤ q := fun q hq => by
  rcases (cg_ks h.i q).1 hq with ⟨h1, -⟩ | ⟨-, rfl⟩
  · exact T.ks p h.inn q h1
  · exact h.lo
theorem CgAt.fst {t : Tre} {p : Nat} {k key v : Int} (h : CgAt t p k key v) (T : t.Ok) (h0 : 0 < (t.nd p).lv) : t.low p ∈ (cg (t.nd p) k key v).ks := by
  have h1 := T.fst p h.inn h0
  have h2 : t.low p ∈ (t.nd p).ks := List.mem_of_head? h1
  rw [cg_ks h.i]
  by_cases e : t.low p = key
  · exact Or.inr ⟨(h.i.v1 h0).1, e⟩
  · exact Or.inl ⟨h2, e⟩
theorem CgAt.chd {t : Tre} {p : Nat} {k key v : Int} (h : CgAt t p k key v) (T : t.Ok) (h0 : 0 < (t.nd p).lv) : ∀ e ∈ ent (cg (t.nd p) k key v), t.kid (t.nd p).lv e := fun e he => by
  rcases cg_ent h.i he with h1 | ⟨-, rfl⟩
  · exact T.chd p h.inn h0 e h1
  · exact h.kid h0
theorem CgAt.putOk {t : Tre} {p : Nat} {k key v : Int} (h : CgAt t p k key v) (T : t.Ok) (hc : crowd (t.nd p).lv (cg (t.nd p) k key v).ks.length = false) : t.PutOk p (cg (t.nd p) k key v) :=
  ⟨h.inn, rfl, rfl, rfl, cg_right h.i hc, h.ge T, fun h0 => head_min (cg_pw h.i) (h.fst T h0) (h.ge T), h.chd T⟩
theorem CgAt.splitOk {t : Tre} {p r : Nat} {k key v low : Int} (h : CgAt t p k key v) (T : t.Ok) (hv : Halves (t.nd p) k key v low) (p0 : p ≠ 0) (hr : ¬ t.inn r) (r1 : 1 ≤ r) (r64 : r < 64) : t.SplitOk p r (lftN (cg (t.nd p) k key v) low r) (rgtN (cg (t.nd p) k key v) low) low := by
  obtain ⟨hm, ⟨a, ha, hal⟩, h1, h2⟩ := hv.mem
  have hla := h.ge T a ha
  have hl0 := (T.lo p h.inn).1
  refine ⟨p0, h.inn, hr, r64, rfl, rfl, rfl, rfl, rfl, rfl, by omega, h2, hv.rtL (by omega) (by omega), hv.rtR, fun q hq => ?_, fun q hq => ?_, fun h0 => ?_, fun h0 => ?_, fun h0 e he => ?_, fun h0 e he => ?_⟩
  · rw [hv.ksL] at hq; exact h.ge T q (List.mem_filter.1 hq).1
  · rw [hv.ksR] at hq
    have := (List.mem_filter.1 hq).2
    simp only [Bool.and_eq_true, decide_eq_true_eq] at this
    exact this.1
  · rw [hv.ksL]
    refine head_min ((cg_pw h.i).filter _) (List.mem_filter.2 ⟨h.fst T h0, by simp; omega⟩) fun x hx => h.ge T x (List.mem_filter.1 hx).1
  · rw [hv.ksR]
    refine head_min ((cg_pw h.i).filter _) (List.mem_filter.2 ⟨hm, by simp; omega⟩) fun x hx => ?_
    have := (List.mem_filter.1 hx).2
    simp only [Bool.and_eq_true, decide_eq_true_eq] at this
    exact this.1
  · rw [hv.enL] at he
    exact h.chd T h0 e (List.mem_filter.1 he).1
  · rw [hv.enR] at he
    exact h.chd T h0 e (List.mem_filter.1 he).1
end Go.Proofs.YtajobgmnmbnhiaaDoor.Sap

/- WHAT IS PROVED HERE: plain facts: what a Swap that is done makes of the tree: a node written anew, a node split, the root split (no program's function is walked). Conditions: none but those named at each theorem. -/
namespace Go.Proofs.YtajobgmnmbnhiaaDoor.Sap
open Go.RowKit

/-- What the leaves have behind a change at a level. -/
def aft (lv k key v : Int) (mp : Int → Option Int) : Int → Option Int := if lv = 0 then upd k key v mp else mp
/-- What is known of the tree behind a change at page p, by which the pages of N came in. -/
structure Turn (t t' : Tre) (p : Nat) (n : Nd) (N : Nat → Nd → Prop) (mp mp' : Int → Option Int) : Prop where
  ok : t'.Ok
  gr : Grows t t'
  lf : Leafs t mp → Leafs t' mp'
  at_ : t'.nd p = n
  old : ∀ q, t.inn q → q ≠ p → t'.nd q = t.nd q
  new : ∀ q, t'.inn q → t.inn q ∨ N q (t'.nd q)
  lvp : p ≠ 0 → n.lv = (t.nd p).lv

theorem turn_put {t : Tre} {p : Nat} {k key v : Int} (h : CgAt t p k key v) (T : t.Ok) (hc : crowd (t.nd p).lv (cg (t.nd p) k key v).ks.length = false) (mp : Int → Option Int) :
    Turn t (t.put p (cg (t.nd p) k key v)) p (cg (t.nd p) k key v) (fun _ _ => False) mp (aft (t.nd p).lv k key v mp) := by
  obtain ⟨h1, h2⟩ := T.put (h.putOk T hc)
  refine ⟨h1, h2, fun L => ?_, t.put_self _ _, fun q _ hq => t.put_ne _ hq, fun q hq => Or.inl hq, fun _ => rfl⟩
  unfold aft
  split
  · rename_i h0
    exact L.put T h.inn rfl rfl h0 (cg_look h.i) h.lo h.i.kh
  · rename_i h0
    exact L.putN rfl h0
theorem turn_split {t : Tre} {p r : Nat} {k key v low : Int} (h : CgAt t p k key v) (T : t.Ok) (hv : Halves (t.nd p) k key v low) (p0 : p ≠ 0) (hr : ¬ t.inn r) (r1 : 1 ≤ r) (r64 : r < 64) (mp : Int → Option Int) :
    Turn t (t.split p r (lftN (cg (t.nd p) k key v) low r) (rgtN (cg (t.nd p) k key v) low) low) p (lftN (cg (t.nd p) k key v) low r) (fun q n => q = r ∧ n = rgtN (cg (t.nd p) k key v) low) mp (aft (t.nd p).lv k key v mp) := by
  have S := h.splitOk T hv p0 hr r1 r64
  obtain ⟨h1, h2⟩ := T.split S
  have hrp : r ≠ p := fun e => hr (e ▸ h.inn)
  refine ⟨h1, h2, fun L => ?_, ?_, fun q hq hqp => ?_, fun q hq => ?_, fun _ => rfl⟩
  · unfold aft
    split
    · rename_i h0
      exact L.split T S h0 (fun q hq => hv.lkL _ q hq) (fun q hq => hv.lkR q hq) h.lo h.i.kh
    · rename_i h0
      exact L.splitN S h0
  · show (if p = r then _ else if p = p then _ else t.nd p) = _
    rw [if_neg (Ne.symm hrp), if_pos rfl]
  · show (if q = r then _ else if q = p then _ else t.nd q) = _
    rw [if_neg (show q ≠ r from fun e => hr (e ▸ hq)), if_neg hqp]
  · by_cases e : q = r
    · refine Or.inr ⟨e, ?_⟩
      show (if q = r then _ else if q = p then _ else t.nd q) = _
      rw [if_pos e]
    · rcases hq with hq | hq
      · exact Or.inl hq
      · exact absurd hq e

/-- The root's growth. -/
theorem lift_cg {t : Tre} {l : Nat} {k key v : Int} (h : CgAt t 0 k key v) (hl : ¬ t.inn l) : CgAt (t.lift l) l k key v := by
  have nl : (t.lift l).nd l = t.nd 0 := if_pos rfl
  have ll : (t.lift l).low l = 0 := if_pos rfl
  refine ⟨Or.inr rfl, by rw [nl]; exact h.i, by rw [ll]; have := h.i.k1; omega, ?_⟩
  rw [nl]
  intro h0
  obtain ⟨q, h1, h2, h3, h4⟩ := h.kid h0
  have hql : q ≠ l := fun e => hl (e ▸ h2)
  have hq0 : q ≠ 0 := fun e => by subst e; omega
  refine ⟨q, h1, Or.inl h2, ?_, ?_⟩
  · show (if q = l then (0 : Int) else t.low q) = _
    rw [if_neg hql]; exact h3
  · show (if q = l then t.nd 0 else if q = 0 then _ else t.nd q : Nd).lv + 1 = _
    rw [if_neg hql, if_neg hq0]; exact h4
/-- The tree behind the root's split. -/
def Tre.grow (t : Tre) (l r : Nat) (k key v low : Int) : Tre :=
  ((t.lift l).split l r (lftN (cg (t.nd 0) k key v) low r) (rgtN (cg (t.nd 0) k key v) low) low).put 0 (topN (cg (t.nd 0) k key v) low l r)
theorem turn_grow {t : Tre} {l r : Nat} {k key v low : Int} (h : CgAt t 0 k key v) (T : t.Ok) (hv : Halves (t.nd 0) k key v low) (hr : ¬ t.inn r) (r1 : 1 ≤ r) (r64 : r < 64) (hl : ¬ t.inn l) (l1 : 1 ≤ l) (l64 : l < 64) (hlr : l ≠ r) (h9 : (t.nd 0).lv < 9) (mp : Int → Option Int) :
    Turn t (t.grow l r k key v low) 0 (topN (cg (t.nd 0) k key v) low l r) (fun q n => (q = r ∧ n = rgtN (cg (t.nd 0) k key v) low) ∨ (q = l ∧ n = lftN (cg (t.nd 0) k key v) low r)) mp (aft (t.nd 0).lv k key v mp) := by
  obtain ⟨A1, A2⟩ := T.lift hl l64 h9
  have nl : (t.lift l).nd l = t.nd 0 := if_pos rfl
  have C := lift_cg h hl
  have hr1 : ¬ (t.lift l).inn r := fun e => by
    rcases e with e | e
    · exact hr e
    · exact hlr e.symm
  have B := turn_split C A1 (by rw [nl]; exact hv) (by omega) hr1 r1 r64 mp
  rw [nl] at B
  obtain ⟨t2, ht2⟩ : ∃ t2, (t.lift l).split l r (lftN (cg (t.nd 0) k key v) low r) (rgtN (cg (t.nd 0) k key v) low) low = t2 := ⟨_, rfl⟩
  have hg : t.grow l r k key v low = t2.put 0 (topN (cg (t.nd 0) k key v) low l r) := by unfold Tre.grow; rw [ht2]
  have l0 : (0 : Nat) ≠ l := by omega
  have r0 : (0 : Nat) ≠ r := by omega
  have n0 : t2.nd 0 = ⟨(t.nd 0).lv + 1, -1, 10000, [0], [(l : Int)]⟩ := by
    rw [← ht2]
    show (if 0 = r then _ else if 0 = l then _ else (t.lift l).nd 0) = _
    rw [if_neg r0, if_neg l0]
    show (if 0 = l then _ else if 0 = 0 then _ else _) = _
    rw [if_neg l0, if_pos rfl]
  have n2l : t2.nd l = lftN (cg (t.nd 0) k key v) low r := by rw [← ht2]; exact B.at_
  have n2r : t2.nd r = rgtN (cg (t.nd 0) k key v) low := by rw [← ht2]; exact if_pos rfl
  have i2l : t2.inn l := by rw [← ht2]; exact Or.inl (Or.inr rfl)
  have i2r : t2.inn r := by rw [← ht2]; exact Or.inr rfl
  have w2l : t2.low l = 0 := by
    rw [← ht2]
    show (if l = r then low else (t.lift l).low l) = 0
    rw [if_neg hlr]; exact if_pos rfl
  have w2r : t2.low r = low := by rw [← ht2]; exact if_pos rfl
  have w20 : t2.low 0 = 0 := by
    rw [← ht2]
    show (if 0 = r then low else (t.lift l).low 0) = 0
    rw [if_neg r0]
    show (if 0 = l then 0 else t.low 0) = 0
    rw [if_neg l0]; exact T.l0
  have i2 : ∀ q, t2.inn q ↔ (t.inn q ∨ q = l) ∨ q = r := fun q => by rw [← ht2]; exact Iff.rfl
  rw [ht2] at B
  obtain ⟨hm, -, hm1, hm2⟩ := hv.mem
  have P : t2.PutOk 0 (topN (cg (t.nd 0) k key v) low l r) := by
    refine ⟨(i2 0).2 (Or.inl (Or.inl T.r0)), by rw [n0]; rfl, by rw [n0]; rfl, by rw [n0]; rfl, hv.rtT h9 (by omega) (by omega) (by omega) (by omega), fun q hq => ?_, fun _ => ?_, fun _ e he => ?_⟩
    · replace hq : q ∈ [0, low] := hq
      rw [w20]
      simp at hq
      omega
    · rw [w20]; rfl
    · replace he : e ∈ [((0 : Int), (l : Int)), (low, (r : Int))] := he
      simp at he
      rcases he with rfl | rfl
      · exact ⟨l, rfl, i2l, w2l, by rw [n2l]; rfl⟩
      · exact ⟨r, rfl, i2r, w2r, by rw [n2r]; rfl⟩
  obtain ⟨Q1, Q2⟩ := B.ok.put P
  rw [hg]
  refine ⟨Q1, (A2.trans B.gr).trans Q2, fun L => ?_, t2.put_self _ _, fun q hq hq0 => ?_, fun q hq => ?_, fun e => absurd rfl e⟩
  · have L2 := B.lf (L.lift T hl)
    exact L2.putN (by rw [n0]; rfl) (by rw [n0]; have := (right_bd _ (T.rt 0 T.r0)).1; show (t.nd 0).lv + 1 ≠ 0; omega)
  · rw [t2.put_ne _ hq0]
    have hql : q ≠ l := fun e => hl (e ▸ hq)
    have hqr : q ≠ r := fun e => hr (e ▸ hq)
    rw [← ht2]
    show (if q = r then _ else if q = l then _ else (t.lift l).nd q) = _
    rw [if_neg hqr, if_neg hql]
    show (if q = l then _ else if q = 0 then _ else t.nd q) = _
    rw [if_neg hql, if_neg hq0]
  · replace hq : t2.inn q := hq
    rcases (i2 q).1 hq with (h1 | rfl) | rfl
    · exact Or.inl h1
    · refine Or.inr (Or.inr ⟨rfl, ?_⟩)
      rw [t2.put_ne _ (by omega)]; exact n2l
    · refine Or.inr (Or.inl ⟨rfl, ?_⟩)
      rw [t2.put_ne _ (by omega)]; exact n2r
end Go.Proofs.YtajobgmnmbnhiaaDoor.Sap

/- WHAT IS PROVED HERE: plain facts: what saplingkeep's table has, made by the operations in their order, is a map; a list in the order of its times, no two of them one, is the only such (no program's function is walked). Conditions: none but those named at each theorem. -/
namespace Go.Proofs.YtajobgmnmbnhiaaDoor.Sap
open Go.RowKit

/-- The map that operations make, in their order. -/
def mapO (l : List Dn) : Int → Option Int := l.foldl (fun m d => upd d.k d.key d.v m) (fun _ => none)
theorem mapO_snoc (l : List Dn) (d : Dn) : mapO (l ++ [d]) = upd d.k d.key d.v (mapO l) := by simp [mapO]

theorem look_eq {P P' : List (Int × Int)} (hn : (P.map Prod.fst).Nodup) (hn' : (P'.map Prod.fst).Nodup) {q : Int} (h : ∀ v, (q, v) ∈ P' ↔ (q, v) ∈ P) : look P' q = look P q := by
  cases h1 : look P q with
  | some v => exact look_mem hn' ((h v).2 (mem_look h1))
  | none =>
    cases h2 : look P' q with
    | none => rfl
    | some v =>
      have := look_mem hn ((h v).1 (mem_look h2))
      rw [h1] at this; cases this

theorem zip_set (K V : List Int) (i : Nat) (a b : Int) : (K.set i a).zip (V.set i b) = (K.zip V).set i (a, b) := by
  induction K generalizing V i with
  | nil => simp
  | cons x r ih =>
    cases V with
    | nil => simp
    | cons y s =>
      cases i with
      | zero => simp
      | succ i => simp [ih]
theorem zip_take (K V : List Int) (m : Nat) : (K.take m).zip (V.take m) = (K.zip V).take m := by
  induction K generalizing V m with
  | nil => simp
  | cons x r ih =>
    cases V with
    | nil => simp
    | cons y s =>
      cases m with
      | zero => simp
      | succ m => simp [ih]

/-- The last is laid at the place of the one that goes. -/
theorem swap_last {α : Type} (l : List α) (i : Nat) (z : α) (hi : i < l.length) (hz : l[l.length - 1]? = some z) : ((l.set i z).take (l.length - 1)).Perm (l.eraseIdx i) := by
  obtain ⟨m, hm⟩ : ∃ m, l.length = m + 1 := ⟨l.length - 1, by omega⟩
  rw [hm, Nat.add_sub_cancel] at hz ⊢
  have hl : l = l.take m ++ [z] := by
    have h1 : l.take (m + 1) = l := List.take_of_length_le (by omega)
    rw [List.take_add_one, hz] at h1
    exact h1.symm
  by_cases he : i = m
  · subst he
    have : l.set i z = l := by
      rw [List.set_eq_take_append_cons_drop, if_pos hi, List.drop_of_length_le (by omega)]
      exact hl.symm
    rw [this, List.eraseIdx_eq_take_drop_succ, List.drop_of_length_le (by omega), List.append_nil]
  · have him : i < m := by omega
    rw [List.eraseIdx_eq_take_drop_succ, List.set_eq_take_append_cons_drop, if_pos hi]
    have hd : l.drop (i + 1) = (l.drop (i + 1)).take (m - (i + 1)) ++ [z] := by
      conv => lhs; rw [hl]
      rw [List.drop_append_of_le_length (by rw [List.length_take]; omega), List.drop_take]
    have ht : (l.take i ++ z :: l.drop (i + 1)).take m = l.take i ++ z :: (l.drop (i + 1)).take (m - (i + 1)) := by
      rw [List.take_append, List.length_take, Nat.min_eq_left (by omega), List.take_of_length_le (by rw [List.length_take]; omega)]
      congr 1
      rw [show m - i = (m - (i + 1)) + 1 by omega, List.take_succ_cons]
    rw [ht]
    conv => rhs; rw [hd]
    exact List.Perm.append_left _ (List.perm_append_comm (l₁ := [z]))

theorem nodup_inj {K : List Int} (hn : K.Nodup) {i j : Nat} (hi : i < K.length) (hj : j < K.length) (h : K[i] = K[j]) : i = j := by
  rcases Nat.lt_trichotomy i j with hlt | he | hlt
  · exact absurd h (List.pairwise_iff_getElem.1 hn i j hi hj hlt)
  · exact he
  · exact absurd h.symm (List.pairwise_iff_getElem.1 hn j i hj hi hlt)
theorem fst_zip {K V : List Int} (h : K.length = V.length) : (K.zip V).map Prod.fst = K := List.map_fst_zip (by omega)

theorem tdo_look (kd key v : Int) (K V : List Int) (hn : K.Nodup) (hl : K.length = V.length) (hk : kd = 2 ∨ kd = 3) : (tdo kd key v K V).1.Nodup ∧ (tdo kd key v K V).1.length = (tdo kd key v K V).2.length ∧ ∀ q, look ((tdo kd key v K V).1.zip (tdo kd key v K V).2) q = upd kd key v (look (K.zip V)) q := by
  have hlen := (tdo_len kd key v K V hl).1
  have hnz : ((K.zip V).map Prod.fst).Nodup := by rw [fst_zip hl]; exact hn
  unfold tdo at hlen ⊢
  by_cases hm : key ∈ K
  · obtain ⟨i, hi, hki⟩ : ∃ i, ∃ h : i < K.length, K[i] = key := ⟨K.idxOf key, List.idxOf_lt_length_of_mem hm, List.getElem_idxOf _⟩
    have hii : K.idxOf key = i := by
      rw [← hki]
      exact List.Nodup.idxOf_getElem hn i hi
    rw [if_pos hm, hii] at hlen
    rw [if_pos hm, hii]
    clear hii
    have hzi : (K.zip V)[i]? = some (key, V[i]'(by omega)) := by
      rw [List.getElem?_zip_eq_some]
      exact ⟨by rw [List.getElem?_eq_getElem hi, hki], List.getElem?_eq_getElem (by omega)⟩
    rcases hk with rfl | rfl
    · rw [if_pos rfl] at hlen ⊢
      refine ⟨hn, hlen, fun q => ?_⟩
      have hz : K.zip (V.set i v) = (K.zip V).set i (key, v) := by
        have := zip_set K V i key v
        rw [← hki, List.set_getElem_self] at this
        rw [← hki]; exact this
      have hn' : ((K.zip (V.set i v)).map Prod.fst).Nodup := by rw [fst_zip (by simpa using hl)]; exact hn
      show look (K.zip (V.set i v)) q = _
      unfold upd
      by_cases hq : q = key
      · rw [if_pos hq, if_pos rfl, hq]
        refine look_mem hn' ?_
        rw [hz]
        exact List.mem_iff_getElem?.2 ⟨i, by rw [List.getElem?_set_self (by simp; omega)]⟩
      · rw [if_neg hq]
        refine look_eq hnz hn' fun u => ?_
        rw [hz]
        constructor
        · intro h
          obtain ⟨j, hj⟩ := List.mem_iff_getElem?.1 h
          by_cases e : i = j
          · subst e
            rw [List.getElem?_set_self (by simp; omega)] at hj
            cases hj; exact absurd rfl hq
          · rw [List.getElem?_set_ne e] at hj
            exact List.mem_iff_getElem?.2 ⟨j, hj⟩
        · intro h
          obtain ⟨j, hj⟩ := List.mem_iff_getElem?.1 h
          by_cases e : i = j
          · subst e
            rw [hzi] at hj
            cases hj; exact absurd rfl hq
          · exact List.mem_iff_getElem?.2 ⟨j, by rw [List.getElem?_set_ne e]; exact hj⟩
    · rw [if_neg (by decide), if_pos rfl] at hlen ⊢
      have hp : K.length - 1 < K.length := by omega
      have hzl : (K.zip V)[(K.zip V).length - 1]? = some (K[K.length - 1]?.getD 0, V[K.length - 1]?.getD 0) := by
        have e : (K.zip V).length - 1 = K.length - 1 := by rw [List.length_zip]; omega
        rw [e, List.getElem?_zip_eq_some, List.getElem?_eq_getElem hp, List.getElem?_eq_getElem (show K.length - 1 < V.length by omega)]
        exact ⟨rfl, rfl⟩
      have hz : ((K.set i (K[K.length - 1]?.getD 0)).take (K.length - 1)).zip ((V.set i (V[K.length - 1]?.getD 0)).take (K.length - 1)) = ((K.zip V).set i (K[K.length - 1]?.getD 0, V[K.length - 1]?.getD 0)).take ((K.zip V).length - 1) := by
        rw [zip_take, zip_set, List.length_zip]
        congr 1
        omega
      have hpm := swap_last (K.zip V) i _ (by rw [List.length_zip]; omega) hzl
      rw [← hz] at hpm
      have hsub : ((K.zip V).eraseIdx i).Sublist (K.zip V) := List.eraseIdx_sublist _ _
      have hne : (((K.zip V).eraseIdx i).map Prod.fst).Nodup := (hsub.map Prod.fst).nodup hnz
      have hn' : ((((K.set i (K[K.length - 1]?.getD 0)).take (K.length - 1)).zip ((V.set i (V[K.length - 1]?.getD 0)).take (K.length - 1))).map Prod.fst).Nodup := (hpm.map Prod.fst).nodup_iff.2 hne
      refine ⟨?_, hlen, fun q => ?_⟩
      · rw [fst_zip hlen] at hn'; exact hn'
      · show look (((K.set i (K[K.length - 1]?.getD 0)).take (K.length - 1)).zip ((V.set i (V[K.length - 1]?.getD 0)).take (K.length - 1))) q = _
        unfold upd
        have hmem : ∀ u, (q, u) ∈ ((K.set i (K[K.length - 1]?.getD 0)).take (K.length - 1)).zip ((V.set i (V[K.length - 1]?.getD 0)).take (K.length - 1)) ↔ ((q, u) ∈ K.zip V ∧ q ≠ key) := fun u => by
          rw [hpm.mem_iff, List.mem_eraseIdx_iff_getElem?]
          constructor
          · rintro ⟨j, hj, hje⟩
            refine ⟨List.mem_iff_getElem?.2 ⟨j, hje⟩, fun e => hj ?_⟩
            subst e
            rw [List.getElem?_zip_eq_some] at hje
            have hjl := (List.getElem?_eq_some_iff.1 hje.1).1
            have h1 : K[j]'hjl = K[i]'hi := by rw [hki]; exact (List.getElem?_eq_some_iff.1 hje.1).2
            exact nodup_inj hn hjl hi h1
          · rintro ⟨h, hq⟩
            obtain ⟨j, hj⟩ := List.mem_iff_getElem?.1 h
            refine ⟨j, fun e => hq ?_, hj⟩
            subst e
            rw [hzi] at hj; cases hj; rfl
        by_cases hq : q = key
        · rw [if_pos hq, if_neg (by decide), if_pos rfl]
          cases hlk : look (((K.set i (K[K.length - 1]?.getD 0)).take (K.length - 1)).zip ((V.set i (V[K.length - 1]?.getD 0)).take (K.length - 1))) q with
          | none => rfl
          | some u => exact absurd hq ((hmem u).1 (mem_look hlk)).2
        · rw [if_neg hq]
          exact look_eq hnz hn' fun u => ⟨fun h => ((hmem u).1 h).1, fun h => (hmem u).2 ⟨h, hq⟩⟩
  · rw [if_neg hm] at hlen ⊢
    have hno : look (K.zip V) key = none := look_none fun x hx e => hm (by rw [← e]; exact (List.of_mem_zip hx).1)
    rcases hk with rfl | rfl
    · rw [if_pos rfl] at hlen ⊢
      refine ⟨?_, hlen, fun q => ?_⟩
      · show (K ++ [key]).Nodup
        rw [List.nodup_append]
        exact ⟨hn, by simp, fun a ha b hb => by rw [List.mem_singleton] at hb; subst hb; exact fun e => hm (e ▸ ha)⟩
      · show look ((K ++ [key]).zip (V ++ [v])) q = _
        rw [List.zip_append hl, look_append]
        unfold upd
        by_cases hq : q = key
        · rw [if_pos hq, if_pos rfl, hq, hno]; simp [look]
        · rw [if_neg hq]
          have : look ([key].zip [v]) q = none := by simp only [List.zip_cons_cons, look]; rw [if_neg (fun e => hq e.symm)]; rfl
          rw [this, Option.or_none]
    · rw [if_neg (by decide)] at hlen ⊢
      refine ⟨hn, hlen, fun q => ?_⟩
      unfold upd
      by_cases hq : q = key
      · rw [if_pos hq, if_neg (by decide), if_pos rfl, hq]; exact hno
      · rw [if_neg hq]

theorem tabO_snoc (l : List Dn) (d : Dn) : tabO (l ++ [d]) = tdo d.k d.key d.v (tabO l).1 (tabO l).2 := by simp [tabO]
/-- The table that operations make, in their order, has what the map has. -/
theorem tabO_look (l : List Dn) (hk : ∀ d ∈ l, d.k = 2 ∨ d.k = 3) : (tabO l).1.Nodup ∧ (tabO l).1.length = (tabO l).2.length ∧ ∀ q, look ((tabO l).1.zip (tabO l).2) q = mapO l q := by
  obtain ⟨r, hr⟩ : ∃ r, l = r.reverse := ⟨l.reverse, by simp⟩
  induction r generalizing l with
  | nil => subst hr; exact ⟨by simp [tabO], by simp [tabO], fun q => by simp [tabO, mapO, look]⟩
  | cons d r ih =>
    rw [List.reverse_cons] at hr
    subst hr
    obtain ⟨h1, h2, h3⟩ := ih r.reverse (fun x hx => hk x (by simp at hx ⊢; exact Or.inl hx)) rfl
    rw [tabO_snoc, mapO_snoc]
    obtain ⟨a1, a2, a3⟩ := tdo_look d.k d.key d.v _ _ h1 h2 (hk d (by simp))
    refine ⟨a1, a2, fun q => ?_⟩
    rw [a3]
    unfold upd
    rw [h3]
theorem valR_look {K V : List Int} (hn : K.Nodup) (hl : K.length = V.length) {q : Int} {fd : Bool} {v : Int} (h : ValR K V q fd v) : fd = (look (K.zip V) q).isSome ∧ v = (look (K.zip V) q).getD 0 := by
  have hnz : ((K.zip V).map Prod.fst).Nodup := by rw [fst_zip hl]; exact hn
  rcases h with ⟨h1, h2, h3⟩ | ⟨i, h1, h2, h3, -⟩
  · have hno : look (K.zip V) q = none := look_none fun x hx e => h3 (by rw [← e]; exact (List.of_mem_zip hx).1)
    rw [hno]; exact ⟨h1, h2⟩
  · have := look_mem hnz (List.mem_iff_getElem?.2 ⟨i, (List.getElem?_zip_eq_some (l₁ := K) (l₂ := V) (z := (q, v))).2 ⟨h2, h3⟩⟩)
    rw [this]; exact ⟨h1, rfl⟩

/-- A list in the strict order of its times is the only one that has the same in the order of times. -/
theorem srt_uniq (o o' : List Dn) (hs : o.Pairwise fun a b => a.t < b.t) (hp : o'.Perm o) (hs' : Srt o') : o' = o := by
  induction o generalizing o' with
  | nil => exact hp.eq_nil
  | cons d r ih =>
    cases o' with
    | nil => exact absurd hp.symm.eq_nil (by simp)
    | cons e r' =>
      have hs1 := List.pairwise_cons.1 hs
      have hs2 := List.pairwise_cons.1 hs'
      have hed : e = d := by
        have he : e ∈ d :: r := hp.mem_iff.1 (by simp)
        have hd : d ∈ e :: r' := hp.mem_iff.2 (by simp)
        rcases List.mem_cons.1 he with h | h
        · exact h
        · rcases List.mem_cons.1 hd with k | k
          · exact k.symm
          · have := hs1.1 e h
            have := hs2.1 d k
            omega
      subst hed
      rw [ih r' hs1.2 hp.cons_inv hs2.2]

theorem ahead_snoc (o : List Dn) (d : Dn) (time : Int) (h : time ≤ d.t) : ahead (o ++ [d]) time = ahead o time := by
  unfold ahead
  induction o with
  | nil =>
    have : ¬ d.t < time := by omega
    simp [this]
  | cons x r ih =>
    simp only [List.cons_append, List.takeWhile_cons]
    split
    · rw [ih]
    · rfl
theorem ahead_all (o : List Dn) (time : Int) (h : ∀ d ∈ o, d.t < time) : ahead o time = o := by
  unfold ahead
  induction o with
  | nil => rfl
  | cons x r ih =>
    rw [List.takeWhile_cons, if_pos (by simpa using h x (by simp)), ih fun d hd => h d (by simp [hd])]
end Go.Proofs.YtajobgmnmbnhiaaDoor.Sap
