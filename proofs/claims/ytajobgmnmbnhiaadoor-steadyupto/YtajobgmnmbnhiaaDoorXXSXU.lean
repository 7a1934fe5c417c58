/- WHAT IS PROVED HERE: plain facts: the nodes of a level, from the first on by links, are a row that has them all (no program's function is walked). Conditions: none but those named at each theorem. -/
import Derived.Test.YtajobgmnmbnhiaaDoorXXBXD
import Derived.Test.YtajobgmnmbnhiaaDoorXXEXG
namespace Go.Proofs.YtajobgmnmbnhiaaDoor.Sap
open Go.RowKit

/-- The nodes of a level from p on, by links. -/
structure RowF (t : Tre) (l : Int) (p : Nat) (ps : List Nat) : Prop where
  hd : ps[0]? = some p
  inn : ∀ q ∈ ps, t.inn q ∧ (t.nd q).lv = l
  lk : ∀ (i q : Nat), ps[i]? = some q → (t.nd q).lk = (ps[i + 1]?.map Int.ofNat).getD (-1)
  nx : ∀ (i q r : Nat), ps[i]? = some q → ps[i + 1]? = some r → t.low r = (t.nd q).hi
  ge : ∀ q ∈ ps, t.low p ≤ t.low q
  pw : ps.Pairwise fun a b => t.low a < t.low b
  all : ∀ q, t.inn q → (t.nd q).lv = l → t.low p ≤ t.low q → q ∈ ps
theorem row_ex {t : Tre} (h : t.Ok) : ∀ (n : Nat) (p : Nat) (m : Nat → Nat), (∀ p q, t.inn q → Nearer t q p → m q < m p) → m p ≤ n → t.inn p → ∃ ps, RowF t (t.nd p).lv p ps := by
  intro n
  induction n using Nat.strongRecOn with
  | ind n ih =>
    intro p m hm hn hp
    have hlo := h.lo p hp
    by_cases hh : (t.nd p).hi = 10000
    · refine ⟨[p], rfl, fun q hq => ?_, fun i q hi => ?_, fun i q r hi hj => ?_, fun q hq => ?_, by simp, fun q hq hl hlq => ?_⟩
      · rw [List.mem_singleton] at hq; subst hq; exact ⟨hp, rfl⟩
      · cases i with
        | zero =>
          have e : p = q := Option.some.inj hi
          subst e
          exact ((right_hi _ (h.rt p hp)).2.2.1).1 hh
        | succ i => simp at hi
      · simp at hj
      · rw [List.mem_singleton] at hq; subst hq; exact Int.le_refl _
      · rw [List.mem_singleton]
        rcases Nat.decEq q p with hne | he
        · have h2 := h.lo q hq
          have h3 := right_hi _ (h.rt q hq)
          rcases h.dis q p hq hp hl hne with h4 | h4 <;> omega
        · exact he
    · obtain ⟨r, r1, r2, r3, r4⟩ := h.lnk p hp hh
      have hnr : Nearer t r p := Or.inr ⟨r4, by rw [r3]; exact hlo.2⟩
      have hmr := hm p r r2 hnr
      obtain ⟨ps, R⟩ := ih (m r) (by omega) r m hm (Nat.le_refl _) r2
      rw [r4] at R
      refine ⟨p :: ps, rfl, fun q hq => ?_, fun i q hi => ?_, fun i q s hi hj => ?_, fun q hq => ?_, ?_, fun q hq hl hlq => ?_⟩
      · rcases List.mem_cons.1 hq with rfl | hq
        · exact ⟨hp, rfl⟩
        · exact R.inn q hq
      · cases i with
        | zero =>
          have e : p = q := Option.some.inj hi
          subst e
          show _ = (ps[0]?.map Int.ofNat).getD (-1)
          rw [R.hd, r1]; rfl
        | succ i => exact R.lk i q hi
      · cases i with
        | zero =>
          have e : p = q := Option.some.inj hi
          subst e
          have e2 : ps[0]? = some s := hj
          rw [R.hd] at e2
          have e3 := Option.some.inj e2
          subst e3
          exact r3
        | succ i => exact R.nx i q s hi hj
      · rcases List.mem_cons.1 hq with rfl | hq
        · exact Int.le_refl _
        · have := R.ge q hq; omega
      · refine List.pairwise_cons.2 ⟨fun q hq => ?_, R.pw⟩
        have := R.ge q hq; omega
      · rcases Nat.decEq q p with hne | he
        · refine List.mem_cons_of_mem _ (R.all q hq hl ?_)
          have h2 := h.lo q hq
          rcases h.dis q p hq hp hl hne with h4 | h4 <;> omega
        · exact List.mem_cons.2 (Or.inl he)
/-- The whole row of a level whose first node is known. -/
theorem row_all {t : Tre} (h : t.Ok) {p : Nat} (hp : t.inn p) (h0 : t.low p = 0) : ∃ ps, RowF t (t.nd p).lv p ps ∧ ps.length ≤ 64 ∧ ps.Nodup ∧ ∀ q, t.inn q → (t.nd q).lv = (t.nd p).lv → q ∈ ps := by
  obtain ⟨m, -, hm⟩ := rank_ex t h
  obtain ⟨ps, R⟩ := row_ex h _ p m hm (Nat.le_refl _) hp
  have hnd : ps.Nodup := R.pw.imp fun hlt e => by rw [e] at hlt; omega
  refine ⟨ps, R, ?_, hnd, fun q hq hl => R.all q hq hl (by rw [h0]; exact (h.lo q hq).1)⟩
  exact nodup_le 64 ps hnd fun a ha => h.lt a (R.inn a ha).1
/-- The first child of the first node of a level is the first of the level below. -/
theorem first_child {t : Tre} (h : t.Ok) {p : Nat} (hp : t.inn p) (h0 : t.low p = 0) (hl : 0 < (t.nd p).lv) : ∃ q : Nat, (t.nd p).vs[0]? = some (q : Int) ∧ t.inn q ∧ t.low q = 0 ∧ (t.nd q).lv + 1 = (t.nd p).lv := by
  have hf := h.fst p hp hl
  have hb := right_bd _ (h.rt p hp)
  cases hks : (t.nd p).ks with
  | nil => rw [hks] at hf; cases hf
  | cons a r =>
    rw [hks] at hf
    have ea : a = t.low p := Option.some.inj hf
    cases hvs : (t.nd p).vs with
    | nil => have := hb.2.2.2.1; rw [hks, hvs] at this; cases this
    | cons b s =>
      obtain ⟨q, q1, q2, q3, q4⟩ := h.chd p hp hl (a, b) (by unfold ent; rw [hks, hvs]; simp)
      refine ⟨q, ?_, q2, ?_, q4⟩
      · show some b = _
        rw [show b = (q : Int) from q1]
      · have : t.low q = a := q3
        omega
theorem sorted_idx {ks : List Int} (hp : ks.Pairwise (· < ·)) (a : Int) : ∀ (j : Nat) (hj : j < ks.length), ks[j] < a ↔ j < (ks.filter fun q => decide (q < a)).length := by
  induction ks with
  | nil => intro j hj; cases hj
  | cons x r ih =>
    obtain ⟨h1, h2⟩ := List.pairwise_cons.1 hp
    intro j hj
    by_cases hx : x < a
    · rw [List.filter_cons, if_pos (by simpa using hx), List.length_cons]
      cases j with
      | zero => simpa using hx
      | succ j =>
        have := ih h2 j (by simpa using hj)
        simp only [List.getElem_cons_succ]
        omega
    · have hno : r.filter (fun q => decide (q < a)) = [] := List.filter_eq_nil_iff.2 fun y hy => by have := h1 y hy; simp; omega
      rw [List.filter_cons, if_neg (by simpa using hx), hno]
      simp only [List.length_nil, Nat.not_lt_zero, iff_false]
      cases j with
      | zero => simpa using hx
      | succ j =>
        simp only [List.getElem_cons_succ]
        have := h1 _ (List.getElem_mem (show j < r.length by simpa using hj))
        omega
end Go.Proofs.YtajobgmnmbnhiaaDoor.Sap

/- WHAT IS PROVED HERE: plain facts: which nodes are entered in the level above (Up), that nodes above the leaves have three entries and the root two (Ct), and what a Swap that is done makes of both; with 64 pages the root's level is at most 3 (no program's function is walked). Conditions: none but those named at each theorem. -/
namespace Go.Proofs.YtajobgmnmbnhiaaDoor.Sap
open Go.RowKit

/-- A node that is entered in the level above. -/
def Up (t : Tre) (q : Nat) : Prop := ∃ p, t.inn p ∧ (t.nd p).lv = (t.nd q).lv + 1 ∧ (t.low q, (q : Int)) ∈ ent (t.nd p)
/-- How many entries a node above the leaves has at least. -/
structure Ct (t : Tre) : Prop where
  top : 0 < (t.nd 0).lv → 2 ≤ (t.nd 0).ks.length
  mid : ∀ p, t.inn p → p ≠ 0 → 0 < (t.nd p).lv → 3 ≤ (t.nd p).ks.length

theorem cg_in {n : Nd} {k key v : Int} (h : ChI n k key v) {e : Int × Int} (he : e ∈ ent n) (hne : e.1 ≠ key) : e ∈ ent (cg n k key v) := by
  have hb := right_kb n h.rt e.1 (ent_key he).1
  unfold ent cg
  simp only
  rw [(ch_zip n k key v (right_bd n h.rt).2.2.2.1).2, List.mem_append, List.mem_append, List.mem_filter, List.mem_filter]
  simp only [Bool.and_eq_true, decide_eq_true_eq]
  by_cases hq : e.1 < key
  · exact Or.inl (Or.inl ⟨he, by omega, hq⟩)
  · exact Or.inr ⟨he, by omega, hb.2⟩
theorem cg_new {n : Nd} {k key v : Int} (h : ChI n k key v) (hk : k = 2) : (key, v) ∈ ent (cg n k key v) := by
  unfold ent cg
  simp only
  rw [(ch_zip n k key v (right_bd n h.rt).2.2.2.1).2, List.mem_append, List.mem_append]
  exact Or.inl (Or.inr (by rw [if_pos hk]; simp))
theorem nodup_sub {l l' : List Int} (hn : l.Nodup) (h : ∀ a ∈ l, a ∈ l') : l.length ≤ l'.length := by
  induction l generalizing l' with
  | nil => exact Nat.zero_le _
  | cons a r ih =>
    obtain ⟨h1, h2⟩ := List.nodup_cons.1 hn
    have ha := h a (by simp)
    have h3 := ih (l' := l'.erase a) h2 fun b hb => (List.mem_erase_of_ne (show b ≠ a from fun e => h1 (e ▸ hb))).2 (h b (by simp [hb]))
    rw [List.length_erase, if_pos ha] at h3
    have := List.length_pos_of_mem ha
    rw [List.length_cons]; omega
theorem cg_more {n : Nd} {k key v : Int} (h : ChI n k key v) (hk : k = 2) : n.ks.length ≤ (cg n k key v).ks.length :=
  nodup_sub ((right_pw n h.rt).imp fun h e => by omega) fun a ha => (cg_ks h a).2 (by
    by_cases e : a = key
    · exact Or.inr ⟨hk, e⟩
    · exact Or.inl ⟨ha, e⟩)
theorem flt2 (ks : List Int) (low hi : Int) (h : ∀ q ∈ ks, 0 ≤ q ∧ q < hi) : (ks.filter fun q => decide (0 ≤ q) && decide (q < low)).length + (ks.filter fun q => decide (low ≤ q) && decide (q < hi)).length = ks.length := by
  induction ks with
  | nil => rfl
  | cons x r ih =>
    have hx := h x (by simp)
    have ih := ih fun q hq => h q (by simp [hq])
    rw [List.filter_cons, List.filter_cons]
    by_cases h1 : x < low
    · rw [if_pos (show (decide (0 ≤ x) && decide (x < low)) = true by simp; omega), if_neg (show ¬ (decide (low ≤ x) && decide (x < hi)) = true by simp; omega), List.length_cons, List.length_cons]
      omega
    · rw [if_neg (show ¬ (decide (0 ≤ x) && decide (x < low)) = true by simp; omega), if_pos (show (decide (low ≤ x) && decide (x < hi)) = true by simp; omega), List.length_cons, List.length_cons]
      omega
/-- The halves of a node above the leaves have four entries and three. -/
theorem half_cnt {n : Nd} {s : St} (H : Halves n s.kd (wantV s) (entV s) (lowV n s)) (hl : n.lv ≠ 0) (r : Int) : 3 ≤ (lftN (chgN n s) (lowV n s) r).ks.length ∧ 3 ≤ (rgtN (chgN n s) (lowV n s)).ks.length := by
  have hlen : (chgN n s).ks.length = 7 := (crowd_len H.i H.cr).2.1 hl
  obtain ⟨-, -, hm1, hm2⟩ := H.mem
  have hmid : midV n s = 4 := by unfold midV; rw [hlen]
  have hlow : (chgN n s).ks[4]? = some (lowV n s) := by
    have hc : crwB n s = true := H.cr
    unfold lowV
    rw [if_pos hc, hmid, List.getElem?_eq_getElem (by omega)]; rfl
  obtain ⟨h4, h4e⟩ := List.getElem?_eq_some_iff.1 hlow
  have hp := cg_pw H.i
  have hbd := cg_bd H.i
  have h0l : 0 ≤ least n.lv := by unfold least; split <;> omega
  have hb : ∀ q ∈ (chgN n s).ks, 0 ≤ q ∧ q < n.hi := fun q hq => by have := hbd q hq; omega
  have hsum := flt2 (chgN n s).ks (lowV n s) n.hi hb
  have e1 : (chgN n s).ks.filter (fun q => decide (0 ≤ q) && decide (q < lowV n s)) = (chgN n s).ks.filter (fun q => decide (q < lowV n s)) := List.filter_congr fun q hq => by have := hb q hq; simp; omega
  have k3 := (sorted_idx hp (lowV n s) 3 (show 3 < (chgN n s).ks.length by omega)).1 (by
    have := List.pairwise_iff_getElem.1 hp 3 4 (show 3 < (chgN n s).ks.length by omega) h4 (by omega)
    have e : (cg n s.kd (wantV s) (entV s)).ks[4]'h4 = lowV n s := h4e
    rw [e] at this
    exact this)
  have k4 : ¬ 4 < ((chgN n s).ks.filter fun q => decide (q < lowV n s)).length := fun hlt => by
    have := (sorted_idx hp (lowV n s) 4 h4).2 hlt
    have e : (cg n s.kd (wantV s) (entV s)).ks[4]'h4 = lowV n s := h4e
    rw [e] at this
    omega
  have eL : (lftN (chgN n s) (lowV n s) r).ks = (chgN n s).ks.filter (fun q => decide (0 ≤ q) && decide (q < lowV n s)) := H.ksL r
  have eR : (rgtN (chgN n s) (lowV n s)).ks = (chgN n s).ks.filter (fun q => decide (lowV n s ≤ q) && decide (q < n.hi)) := H.ksR
  have k3' : 3 < ((chgN n s).ks.filter fun q => decide (q < lowV n s)).length := k3
  rw [eL, eR]
  rw [e1] at hsum ⊢
  omega

theorem same_kid {t : Tre} (h : t.Ok) {a b : Nat} (ha : t.inn a) (hb : t.inn b) (hl : (t.nd a).lv = (t.nd b).lv) (hlo : t.low a = t.low b) : a = b := by
  have h1 := h.lo a ha
  have h2 := h.lo b hb
  exact h.alone (key := t.low a) ha hb hl (Int.le_refl _) h1.2 (by omega) (by omega)
theorem half_ent {n : Nd} {k key v low : Int} (H : Halves n k key v low) (r : Int) {e : Int × Int} (he : e ∈ ent (cg n k key v)) : e ∈ ent (lftN (cg n k key v) low r) ∨ e ∈ ent (rgtN (cg n k key v) low) := by
  have hb := cg_bd H.i e.1 (ent_key he).1
  have h0l : 0 ≤ least n.lv := by unfold least; split <;> omega
  by_cases hl : e.1 < low
  · refine Or.inl ?_
    rw [H.enL, List.mem_filter]
    exact ⟨he, by simp; omega⟩
  · refine Or.inr ?_
    rw [H.enR, List.mem_filter]
    exact ⟨he, by simp; omega⟩
/-- Where the entries of the changed node are behind the Swap. -/
theorem Swd.star {x : Wd} {t t' : Tre} {s : St} {p : Nat} {N : Nat → Nd → Prop} {o : List Dn} (A : Swd x t t' s p N o) (C : CgAt t p s.kd (wantV s) (entV s)) {e : Int × Int} (he : e ∈ ent (cg (t.nd p) s.kd (wantV s) (entV s))) : ∃ p', t'.inn p' ∧ (t'.nd p').lv = (t.nd p).lv ∧ e ∈ ent (t'.nd p') := by
  rcases A.sh with ⟨-, rfl⟩ | ⟨H, hp0, r, -, hr, rfl⟩ | ⟨H, rfl, -, l, r, hl, hr, l1, r1, hlr, rfl⟩
  · exact ⟨p, C.inn, by rw [t.put_self]; rfl, by rw [t.put_self]; exact he⟩
  · have hrp : p ≠ r := fun e => hr (e ▸ C.inn)
    rcases half_ent H r he with h1 | h1
    · refine ⟨p, Or.inl C.inn, ?_, ?_⟩
      · show (if p = r then _ else if p = p then _ else t.nd p : Nd).lv = _
        rw [if_neg hrp, if_pos rfl]; rfl
      · show e ∈ ent (if p = r then _ else if p = p then _ else t.nd p : Nd)
        rw [if_neg hrp, if_pos rfl]; exact h1
    · refine ⟨r, Or.inr rfl, ?_, ?_⟩
      · show (if r = r then _ else _ : Nd).lv = _
        rw [if_pos rfl]; rfl
      · show e ∈ ent (if r = r then _ else _ : Nd)
        rw [if_pos rfl]; exact h1
  · rcases half_ent H r he with h1 | h1
    · have e1 : (t.grow l r s.kd (wantV s) (entV s) (lowV (t.nd 0) s)).nd l = lftN (cg (t.nd 0) s.kd (wantV s) (entV s)) (lowV (t.nd 0) s) r := by
        show (if l = 0 then _ else if l = r then _ else if l = l then _ else _ : Nd) = _
        rw [if_neg (by omega), if_neg hlr, if_pos rfl]
      exact ⟨l, Or.inl (Or.inr rfl), by rw [e1]; rfl, by rw [e1]; exact h1⟩
    · have e1 : (t.grow l r s.kd (wantV s) (entV s) (lowV (t.nd 0) s)).nd r = rgtN (cg (t.nd 0) s.kd (wantV s) (entV s)) (lowV (t.nd 0) s) := by
        show (if r = 0 then _ else if r = r then _ else _ : Nd) = _
        rw [if_neg (by omega), if_pos rfl]
      exact ⟨r, Or.inr rfl, by rw [e1]; rfl, by rw [e1]; exact h1⟩
theorem Swd.keep {x : Wd} {t t' : Tre} {s : St} {p : Nat} {N : Nat → Nd → Prop} {o : List Dn} (A : Swd x t t' s p N o) (C : CgAt t p s.kd (wantV s) (entV s)) (h : t.Ok) {q : Nat} (hq : t.inn q) (h0 : q ≠ 0) (hu : Up t q) : Up t' q := by
  obtain ⟨p0, a1, a2, a3⟩ := hu
  have el := A.tu.gr.low q hq
  have ev := A.tu.gr.lvE q hq h0
  by_cases e : p0 = p
  · subst e
    have hlv : 0 < (t.nd p0).lv := by have := (right_bd _ (h.rt q hq)).1; omega
    have hm : (t.low q, (q : Int)) ∈ ent (cg (t.nd p0) s.kd (wantV s) (entV s)) := by
      by_cases hk : t.low q = wantV s
      · obtain ⟨c, c1, c2, c3, c4⟩ := C.kid hlv
        have hc : q = c := same_kid h hq c2 (by omega) (by rw [hk]; exact c3.symm)
        have := cg_new C.i (C.i.v1 hlv).1
        rw [show entV s = (c : Int) from c1] at this ⊢
        rw [hk, hc]; exact this
      · exact cg_in C.i a3 hk
    obtain ⟨p', b1, b2, b3⟩ := A.star C hm
    exact ⟨p', b1, by rw [b2, ev]; exact a2, by rw [el]; exact b3⟩
  · have en := A.tu.old p0 a1 e
    exact ⟨p0, A.tu.gr.inn p0 a1, by rw [en, ev]; exact a2, by rw [en, el]; exact a3⟩
/-- The node that was entered. -/
theorem Swd.ent {x : Wd} {t t' : Tre} {s : St} {p : Nat} {N : Nat → Nd → Prop} {o : List Dn} (A : Swd x t t' s p N o) (C : CgAt t p s.kd (wantV s) (entV s)) (hlv : (t.nd p).lv = s.lv) (hl : 0 < s.lv) : ∃ c : Nat, s.ch = (c : Int) ∧ Up t' c := by
  obtain ⟨c, c1, c2, c3, c4⟩ := C.kid (by omega)
  have e2 : entV s = s.ch := by unfold entV; rw [if_pos hl]
  have c0 : c ≠ 0 := fun e => by have h1 := (C.i.v1 (by omega)).2.1; have h2 : entV s = (c : Int) := c1; omega
  have := cg_new C.i (C.i.v1 (by omega)).1
  obtain ⟨p', b1, b2, b3⟩ := A.star C this
  refine ⟨c, by rw [← e2]; exact c1, p', b1, by rw [b2, A.tu.gr.lvE c c2 c0]; exact c4.symm, ?_⟩
  rw [A.tu.gr.low c c2]
  rw [show entV s = (c : Int) from c1] at b3
  rw [show t.low c = wantV s from c3]
  exact b3
/-- A node that came in. -/
theorem Swd.came {x : Wd} {t t' : Tre} {s : St} {p : Nat} {N : Nat → Nd → Prop} {o : List Dn} (A : Swd x t t' s p N o) {q : Nat} (hq : t'.inn q) (hn : ¬ t.inn q) : Up t' q ∨ (pgsN (t.nd p) s = 1 → s.sp[0]? = some (q : Int)) := by
  rcases A.sh with ⟨-, e⟩ | ⟨H, hp0, r, hr1, hr, e⟩ | ⟨H, rfl, hpg, l, r, hl, hr, l1, r1, hlr, e⟩
  · rw [e] at hq; exact absurd hq hn
  · rw [e] at hq
    refine Or.inr fun _ => ?_
    rcases hq with hq | hq
    · exact absurd hq hn
    · rw [hq]; exact hr1
  · refine Or.inr fun e1 => absurd e1 hpg
theorem Swd.came2 {x : Wd} {t t' : Tre} {s : St} {p : Nat} {N : Nat → Nd → Prop} {o : List Dn} (A : Swd x t t' s p N o) (hpg : pgsN (t.nd p) s ≠ 1) (hpg2 : crwB (t.nd p) s = true → p = 0) {q : Nat} (hq : t'.inn q) (hn : ¬ t.inn q) : Up t' q := by
  rcases A.sh with ⟨-, e⟩ | ⟨H, hp0, r, hr1, hr, e⟩ | ⟨H, rfl, -, l, r, hl, hr, l1, r1, hlr, rfl⟩
  · rw [e] at hq; exact absurd hq hn
  · exact absurd (hpg2 H.cr) hp0
  · have n0 : (t.grow l r s.kd (wantV s) (entV s) (lowV (t.nd 0) s)).nd 0 = topN (cg (t.nd 0) s.kd (wantV s) (entV s)) (lowV (t.nd 0) s) l r := Tre.put_self _ _ _
    have nl : (t.grow l r s.kd (wantV s) (entV s) (lowV (t.nd 0) s)).nd l = lftN (cg (t.nd 0) s.kd (wantV s) (entV s)) (lowV (t.nd 0) s) r := by
      show (if l = 0 then _ else if l = r then _ else if l = l then _ else _ : Nd) = _
      rw [if_neg (by omega), if_neg hlr, if_pos rfl]
    have nr : (t.grow l r s.kd (wantV s) (entV s) (lowV (t.nd 0) s)).nd r = rgtN (cg (t.nd 0) s.kd (wantV s) (entV s)) (lowV (t.nd 0) s) := by
      show (if r = 0 then _ else if r = r then _ else _ : Nd) = _
      rw [if_neg (by omega), if_pos rfl]
    have wl : (t.grow l r s.kd (wantV s) (entV s) (lowV (t.nd 0) s)).low l = 0 := by
      show (if l = r then _ else if l = l then (0 : Int) else _) = 0
      rw [if_neg hlr, if_pos rfl]
    have wr : (t.grow l r s.kd (wantV s) (entV s) (lowV (t.nd 0) s)).low r = lowV (t.nd 0) s := if_pos rfl
    have i0 := A.tu.ok.r0
    rcases hq with (hq | rfl) | rfl
    · exact absurd hq hn
    · refine ⟨0, i0, by rw [n0, nl]; rfl, ?_⟩
      rw [n0, wl]
      show ((0 : Int), (q : Int)) ∈ [((0 : Int), (q : Int)), (lowV (t.nd 0) s, (r : Int))]
      simp
    · refine ⟨0, i0, by rw [n0, nr]; rfl, ?_⟩
      rw [n0, wr]
      show (lowV (t.nd 0) s, (q : Int)) ∈ [((0 : Int), (l : Int)), (lowV (t.nd 0) s, (q : Int))]
      simp
theorem Swd.ct {x : Wd} {t t' : Tre} {s : St} {p : Nat} {N : Nat → Nd → Prop} {o : List Dn} (A : Swd x t t' s p N o) (C : CgAt t p s.kd (wantV s) (entV s)) (h : Ct t) : Ct t' := by
  have put : ∀ n : Nd, n = cg (t.nd p) s.kd (wantV s) (entV s) → 0 < n.lv → (t.nd p).ks.length ≤ n.ks.length := fun n e hl => by subst e; exact cg_more C.i (C.i.v1 hl).1
  rcases A.sh with ⟨-, rfl⟩ | ⟨H, hp0, r, -, hr, rfl⟩ | ⟨H, rfl, -, l, r, hl, hr, l1, r1, hlr, rfl⟩
  · have hle : ∀ q, 0 < ((t.put p (chgN (t.nd p) s)).nd q).lv → 0 < (t.nd q).lv ∧ (t.nd q).ks.length ≤ ((t.put p (chgN (t.nd p) s)).nd q).ks.length := fun q hq => by
      by_cases e : q = p
      · subst e; rw [t.put_self] at hq ⊢; exact ⟨hq, put _ rfl hq⟩
      · rw [t.put_ne _ e] at hq ⊢; exact ⟨hq, Nat.le_refl _⟩
    exact ⟨fun h0 => by have h1 := hle 0 h0; have := h.top h1.1; omega, fun q hq hq0 hl => by have h1 := hle q hl; have := h.mid q hq hq0 h1.1; omega⟩
  · have hrp : p ≠ r := fun e => hr (e ▸ C.inn)
    have np : (t.split p r (lftN (chgN (t.nd p) s) (lowV (t.nd p) s) r) (rgtN (chgN (t.nd p) s) (lowV (t.nd p) s)) (lowV (t.nd p) s)).nd p = lftN (chgN (t.nd p) s) (lowV (t.nd p) s) r := by
      show (if p = r then _ else if p = p then _ else t.nd p : Nd) = _
      rw [if_neg hrp, if_pos rfl]
    have nr : (t.split p r (lftN (chgN (t.nd p) s) (lowV (t.nd p) s) r) (rgtN (chgN (t.nd p) s) (lowV (t.nd p) s)) (lowV (t.nd p) s)).nd r = rgtN (chgN (t.nd p) s) (lowV (t.nd p) s) := if_pos rfl
    have no : ∀ q, q ≠ r → q ≠ p → (t.split p r (lftN (chgN (t.nd p) s) (lowV (t.nd p) s) r) (rgtN (chgN (t.nd p) s) (lowV (t.nd p) s)) (lowV (t.nd p) s)).nd q = t.nd q := fun q h1 h2 => by
      show (if q = r then _ else if q = p then _ else t.nd q : Nd) = _
      rw [if_neg h1, if_neg h2]
    refine ⟨fun h0 => ?_, fun q hq hq0 hl => ?_⟩
    · have e := A.tu.old 0 
      by_cases h0r : 0 = r
      · have := A.tu.ok.h0
        subst h0r
        rw [nr] at h0 ⊢
        have := half_cnt H (show (t.nd p).lv ≠ 0 by have h1 : 0 < (t.nd p).lv := h0; omega) 0
        omega
      · rw [no 0 h0r (Ne.symm hp0)] at h0 ⊢; exact h.top h0
    · by_cases e : q = r
      · subst e
        rw [nr] at hl ⊢
        exact (half_cnt H (show (t.nd p).lv ≠ 0 by have h1 : 0 < (t.nd p).lv := hl; omega) 0).2
      · by_cases e2 : q = p
        · subst e2
          rw [np] at hl ⊢
          exact (half_cnt H (show (t.nd q).lv ≠ 0 by have h1 : 0 < (t.nd q).lv := hl; omega) r).1
        · rw [no q e e2] at hl ⊢
          rcases hq with hq | hq
          · exact h.mid q hq hq0 hl
          · exact absurd hq e
  · have n0 : (t.grow l r s.kd (wantV s) (entV s) (lowV (t.nd 0) s)).nd 0 = topN (cg (t.nd 0) s.kd (wantV s) (entV s)) (lowV (t.nd 0) s) l r := Tre.put_self _ _ _
    have nl : (t.grow l r s.kd (wantV s) (entV s) (lowV (t.nd 0) s)).nd l = lftN (cg (t.nd 0) s.kd (wantV s) (entV s)) (lowV (t.nd 0) s) r := by
      show (if l = 0 then _ else if l = r then _ else if l = l then _ else _ : Nd) = _
      rw [if_neg (by omega), if_neg hlr, if_pos rfl]
    have nr : (t.grow l r s.kd (wantV s) (entV s) (lowV (t.nd 0) s)).nd r = rgtN (cg (t.nd 0) s.kd (wantV s) (entV s)) (lowV (t.nd 0) s) := by
      show (if r = 0 then _ else if r = r then _ else _ : Nd) = _
      rw [if_neg (by omega), if_pos rfl]
    refine ⟨fun _ => by rw [n0]; exact Nat.le_refl _, fun q hq hq0 hlq => ?_⟩
    rcases hq with (hq | rfl) | rfl
    · have e := A.tu.old q hq hq0
      rw [e] at hlq ⊢
      exact h.mid q hq hq0 hlq
    · rw [nl] at hlq ⊢
      exact (half_cnt H (show (t.nd 0).lv ≠ 0 by have h1 : 0 < (t.nd 0).lv := hlq; omega) r).1
    · rw [nr] at hlq ⊢
      exact (half_cnt H (show (t.nd 0).lv ≠ 0 by have h1 : 0 < (t.nd 0).lv := hlq; omega) 0).2
end Go.Proofs.YtajobgmnmbnhiaaDoor.Sap

/- WHAT IS PROVED HERE: plain facts: with 64 pages the root's level is at most 3; which nodes are not entered yet (Entd), and that accesses keep it (no program's function is walked). Conditions: none but those named at each theorem. -/
namespace Go.Proofs.YtajobgmnmbnhiaaDoor.Sap
open Go.RowKit

structure Lay (t : Tre) (l : Int) (A : List Nat) : Prop where
  nd : A.Nodup
  inn : ∀ p ∈ A, t.inn p ∧ (t.nd p).lv = l
theorem kid_at {t : Tre} (h : t.Ok) {p : Nat} (hp : t.inn p) (hl : 0 < (t.nd p).lv) {x : Nat} (hx : x ∈ (t.nd p).vs.map Int.toNat) : ∃ k, (k, (x : Int)) ∈ ent (t.nd p) ∧ t.inn x ∧ t.low x = k ∧ (t.nd x).lv + 1 = (t.nd p).lv ∧ t.low p ≤ k ∧ k < (t.nd p).hi := by
  obtain ⟨v, hv, rfl⟩ := List.mem_map.1 hx
  have hb := right_bd _ (h.rt p hp)
  obtain ⟨k, hk⟩ := zip_val hb.2.2.2.1 hv
  obtain ⟨q, q1, q2, q3, q4⟩ := h.chd p hp hl (k, v) hk
  have e : v.toNat = q := by have : v = (q : Int) := q1; omega
  rw [e]
  have hkk := (ent_key (n := t.nd p) hk).1
  exact ⟨k, by have : v = (q : Int) := q1; rw [← this]; exact hk, q2, q3, q4, h.ks p hp k hkk, (right_kb _ (h.rt p hp) k hkk).2⟩
theorem Lay.down {t : Tre} (h : t.Ok) {l : Int} {A : List Nat} (L : Lay t l A) (hl : 0 < l) (c : Nat) (hc : ∀ p ∈ A, c ≤ (t.nd p).ks.length) : ∃ B, Lay t (l - 1) B ∧ c * A.length ≤ B.length := by
  refine ⟨A.flatMap fun p => (t.nd p).vs.map Int.toNat, ⟨?_, fun x hx => ?_⟩, ?_⟩
  · refine List.pairwise_flatMap.2 ⟨fun p hp => ?_, ?_⟩
    · obtain ⟨hpi, hpl⟩ := L.inn p hp
      have hb := right_bd _ (h.rt p hpi)
      rw [List.pairwise_map, List.pairwise_iff_getElem]
      intro i j hi hj hij e
      have hks := hb.2.2.2.1
      have hpw := List.pairwise_iff_getElem.1 (right_pw _ (h.rt p hpi)) i j (by omega) (by omega) hij
      have ei : ((t.nd p).ks[i]'(by omega), (t.nd p).vs[i]) ∈ ent (t.nd p) := List.mem_iff_getElem.2 ⟨i, by unfold ent; rw [List.length_zip]; omega, by simp [ent]⟩
      have ej : ((t.nd p).ks[j]'(by omega), (t.nd p).vs[j]) ∈ ent (t.nd p) := List.mem_iff_getElem.2 ⟨j, by unfold ent; rw [List.length_zip]; omega, by simp [ent]⟩
      obtain ⟨q, q1, q2, q3, -⟩ := h.chd p hpi (by omega) _ ei
      obtain ⟨r, r1, r2, r3, -⟩ := h.chd p hpi (by omega) _ ej
      have k1 : (t.nd p).vs[i] = (q : Int) := q1
      have k2 : (t.nd p).vs[j] = (r : Int) := r1
      have k3 : t.low q = (t.nd p).ks[i]'(by omega) := q3
      have k4 : t.low r = (t.nd p).ks[j]'(by omega) := r3
      have : q = r := by omega
      subst this
      omega
    · refine List.Pairwise.imp_of_mem (fun {a b} ha hb hab x hx y hy e => ?_) L.nd
      obtain ⟨hai, hal⟩ := L.inn a ha
      obtain ⟨hbi, hbl⟩ := L.inn b hb
      obtain ⟨k, -, -, k2, -, k4, k5⟩ := kid_at h hai (by omega) hx
      obtain ⟨k', -, -, m2, -, m4, m5⟩ := kid_at h hbi (by omega) hy
      subst e
      rcases h.dis a b hai hbi (by omega) hab with h1 | h1 <;> omega
  · obtain ⟨p, hp, hx⟩ := List.mem_flatMap.1 hx
    obtain ⟨hpi, hpl⟩ := L.inn p hp
    obtain ⟨k, -, k1, -, k3, -⟩ := kid_at h hpi (by omega) hx
    exact ⟨k1, by omega⟩
  · have key : ∀ A : List Nat, (∀ p ∈ A, t.inn p ∧ c ≤ (t.nd p).ks.length) → c * A.length ≤ (A.flatMap fun p => (t.nd p).vs.map Int.toNat).length := fun A => by
      induction A with
      | nil => intro _; exact Nat.le_refl _
      | cons a r ih =>
        intro hA
        have h1 := ih fun p hp => hA p (by simp [hp])
        have h2 := hA a (by simp)
        have h3 := (right_bd _ (h.rt a h2.1)).2.2.2.1
        rw [List.flatMap_cons, List.length_append, List.length_map, List.length_cons, Nat.mul_succ]
        omega
    exact key A fun p hp => ⟨(L.inn p hp).1, hc p hp⟩
theorem root_lv {t : Tre} (h : t.Ok) (C : Ct t) : (t.nd 0).lv ≤ 3 := by
  by_cases hlt : 3 < (t.nd 0).lv
  · have L0 : Lay t (t.nd 0).lv [0] := ⟨by simp, fun p hp => by rw [List.mem_singleton] at hp; subst hp; exact ⟨h.r0, rfl⟩⟩
    have low : ∀ {l : Int} {A : List Nat}, Lay t l A → l < (t.nd 0).lv → 0 < l → ∀ p ∈ A, 3 ≤ (t.nd p).ks.length := fun {l A} L hl h0 p hp => by
      obtain ⟨h1, h2⟩ := L.inn p hp
      exact C.mid p h1 (fun e => by subst e; omega) (by omega)
    obtain ⟨B1, L1, n1⟩ := L0.down h (by omega) 2 fun p hp => by rw [List.mem_singleton] at hp; subst hp; exact C.top (by omega)
    obtain ⟨B2, L2, n2⟩ := L1.down h (by omega) 3 (low L1 (by omega) (by omega))
    obtain ⟨B3, L3, n3⟩ := L2.down h (by omega) 3 (low L2 (by omega) (by omega))
    obtain ⟨B4, L4, n4⟩ := L3.down h (by omega) 3 (low L3 (by omega) (by omega))
    have hn : (B3 ++ B4).Nodup := by
      rw [List.nodup_append]
      refine ⟨L3.nd, L4.nd, fun a ha b hb e => ?_⟩
      subst e
      have := (L3.inn a ha).2
      have := (L4.inn a hb).2
      omega
    have hle := nodup_le 64 (B3 ++ B4) hn fun a ha => by
      rcases List.mem_append.1 ha with h1 | h1
      · exact h.lt a (L3.inn a h1).1
      · exact h.lt a (L4.inn a h1).1
    rw [List.length_append] at hle
    have : ([0] : List Nat).length = 1 := rfl
    omega
  · omega
theorem no_nine {t : Tre} (h : t.Ok) (C : Ct t) {p : Nat} (hp : t.inn p) : (t.nd p).lv ≠ 9 := fun e => by
  have h1 := root_lv h C
  by_cases h0 : p = 0
  · subst h0; omega
  · have := h.top p hp h0; omega

/-- Each node but the root is entered above, or an operation is on its way to do so; or a page was refused. -/
def Entd (x : Wd) (t : Tre) (S : Nat → St) : Prop := x.rf = true ∨ ∀ q, t.inn q → q ≠ 0 → Up t q ∨ ∃ (i : Nat) (d : Dd), x.ds[i]? = some d ∧ d.en = false ∧ 0 < (S i).lv ∧ (S i).ch = (q : Int)
/-- What is known besides. -/
structure Xtr (x : Wd) (t : Tre) (S : Nat → St) : Prop where
  ct : Ct t
  en : Entd x t S
theorem xtr_on {wt : Bool} {gw : Nat} {x x' : Wd} {t t' : Tre} {S : Nat → St} {o : List Dn} {c i : Nat} {d d' : Dd} {s' : St} (h : Mov wt gw x t S o c i d) (X : Xtr x t S) {U' : List Bool} {o' : List Dn} (E : EvOn x t t' (S i) s' d U' o o') (hds : x'.ds = x.ds.set i d') (hen : d'.en = false) (hrf : x.rf = true → x'.rf = true) : Xtr x' t' (upS S i s') := by
  have hi := (List.getElem?_eq_some_iff.1 h.ds).1
  have wit : ∀ (q : Nat), (∃ (j : Nat) (e : Dd), x.ds[j]? = some e ∧ e.en = false ∧ 0 < (S j).lv ∧ (S j).ch = (q : Int)) → (∃ (j : Nat) (e : Dd), j ≠ i ∧ x'.ds[j]? = some e ∧ e.en = false ∧ 0 < (upS S i s' j).lv ∧ (upS S i s' j).ch = (q : Int)) ∨ (0 < (S i).lv ∧ (S i).ch = (q : Int)) := fun q ⟨j, e, h1, h2, h3, h4⟩ => by
    by_cases e0 : j = i
    · subst e0; exact Or.inr ⟨h3, h4⟩
    · have eu : upS S i s' j = S j := if_neg e0
      exact Or.inl ⟨j, e, e0, by rw [hds, List.getElem?_set_ne (Ne.symm e0)]; exact h1, h2, by rw [eu]; exact h3, by rw [eu]; exact h4⟩
  have own : x'.ds[i]? = some d' := by rw [hds]; exact List.getElem?_set_self hi
  have ui : upS S i s' i = s' := if_pos rfl
  rcases E.2 with ⟨rfl, e1, e2, -⟩ | ⟨p, N, A, C, hlv, hpg, rfl, -⟩
  · refine ⟨X.ct, ?_⟩
    rcases X.en with hr | hE
    · exact Or.inl (hrf hr)
    · refine Or.inr fun q hq h0 => ?_
      rcases hE q hq h0 with h1 | h1
      · exact Or.inl h1
      · rcases wit q h1 with ⟨j, e, -, h2⟩ | ⟨h2, h3⟩
        · exact Or.inr ⟨j, e, h2⟩
        · exact Or.inr ⟨i, d', own, hen, by rw [ui, e1]; exact h2, by rw [ui, e2]; exact h3⟩
  · refine ⟨A.ct C X.ct, ?_⟩
    rcases X.en with hr | hE
    · exact Or.inl (hrf hr)
    · refine Or.inr fun q hq h0 => ?_
      by_cases hqi : t.inn q
      · rcases hE q hqi h0 with h1 | h1
        · exact Or.inl (A.keep C h.inv.tok hqi h0 h1)
        · rcases wit q h1 with ⟨j, e, -, h2⟩ | ⟨h2, h3⟩
          · exact Or.inr ⟨j, e, h2⟩
          · obtain ⟨cc, c1, c2⟩ := A.ent C hlv h2
            have : cc = q := by rw [h3] at c1; omega
            subst this
            exact Or.inl c2
      · rcases A.came hq hqi with h1 | h1
        · exact Or.inl h1
        · have h2 := h1 hpg
          refine Or.inr ⟨i, d', own, hen, ?_, ?_⟩
          · rw [ui]
            show 0 < (S i).lv + 1
            have := h.live.ok.lvb
            omega
          · rw [ui]
            show (S i).sp[0]?.getD 0 = (q : Int)
            rw [h2]; rfl
theorem xtr_fin {wt : Bool} {gw : Nat} {x x' : Wd} {t t' : Tre} {S : Nat → St} {o : List Dn} {c i : Nat} {d d' : Dd} {rf1 : Bool} (h : Mov wt gw x t S o c i d) (X : Xtr x t S) {er : Int} {U' : List Bool} {o' : List Dn} (E : EvFin x t t' (S i) d rf1 er U' o o') (hds : x'.ds = x.ds.set i d') (hrf : x.rf = true → x'.rf = true) (hrf1 : rf1 = true → x'.rf = true) : Xtr x' t' (upS S i (S i)) := by
  have uS : ∀ j, upS S i (S i) j = S j := fun j => by
    unfold upS
    split
    · rename_i e; rw [e]
    · rfl
  have wit : ∀ (q : Nat), (∃ (j : Nat) (e : Dd), x.ds[j]? = some e ∧ e.en = false ∧ 0 < (S j).lv ∧ (S j).ch = (q : Int)) → (∃ (j : Nat) (e : Dd), x'.ds[j]? = some e ∧ e.en = false ∧ 0 < (upS S i (S i) j).lv ∧ (upS S i (S i) j).ch = (q : Int)) ∨ (0 < (S i).lv ∧ (S i).ch = (q : Int)) := fun q ⟨j, e, h1, h2, h3, h4⟩ => by
    by_cases e0 : j = i
    · subst e0; exact Or.inr ⟨h3, h4⟩
    · exact Or.inl ⟨j, e, by rw [hds, List.getElem?_set_ne (Ne.symm e0)]; exact h1, h2, by rw [uS]; exact h3, by rw [uS]; exact h4⟩
  rcases E.2.2 with ⟨rfl, E, -⟩ | ⟨p, N, A, C, hlv, hpp, hpg, -⟩
  · refine ⟨X.ct, ?_⟩
    rcases X.en with hr | hE
    · exact Or.inl (hrf hr)
    · rcases E with e0 | e0 | ⟨p, p1, p2⟩
      · refine Or.inr fun q hq h0 => ?_
        rcases hE q hq h0 with h1 | h1
        · exact Or.inl h1
        · rcases wit q h1 with h2 | ⟨h2, -⟩
          · exact Or.inr h2
          · omega
      · exact Or.inl (hrf1 e0)
      · exact absurd p2 (no_nine h.inv.tok X.ct p1)
  · refine ⟨A.ct C X.ct, ?_⟩
    rcases X.en with hr | hE
    · exact Or.inl (hrf hr)
    · refine Or.inr fun q hq h0 => ?_
      by_cases hqi : t.inn q
      · rcases hE q hqi h0 with h1 | h1
        · exact Or.inl (A.keep C h.inv.tok hqi h0 h1)
        · rcases wit q h1 with h2 | ⟨h2, h3⟩
          · exact Or.inr h2
          · obtain ⟨cc, c1, c2⟩ := A.ent C hlv h2
            have : cc = q := by rw [h3] at c1; omega
            subst this
            exact Or.inl c2
      · refine Or.inl (A.came2 hpg (fun hc => ?_) hq hqi)
        have hv := (pgsN_le (t.nd p) (S i)).2.2.2 hc
        have hpgS : (S i).pg = 0 := by
          rcases Int.decEq (S i).pg 0 with e | e
          · rw [if_neg e] at hv; exact absurd hv hpg
          · exact e
        omega
theorem Xtr.begun {x : Wd} {t : Tre} {S : Nat → St} (X : Xtr x t S) (x' : Wd) (d : Dd) (s : St) (hds : x'.ds = x.ds ++ [d]) (hrf : x'.rf = x.rf) : Xtr x' t (upS S x.ds.length s) := by
  refine ⟨X.ct, ?_⟩
  rcases X.en with hr | hE
  · exact Or.inl (by rw [hrf]; exact hr)
  · refine Or.inr fun q hq h0 => ?_
    rcases hE q hq h0 with h1 | ⟨i, e, h1, h2, h3, h4⟩
    · exact Or.inl h1
    · have hi := (List.getElem?_eq_some_iff.1 h1).1
      have eu : upS S x.ds.length s i = S i := if_neg (by omega)
      exact Or.inr ⟨i, e, by rw [hds, List.getElem?_append_left hi]; exact h1, h2, by rw [eu]; exact h3, by rw [eu]; exact h4⟩
theorem Xtr.first (x : Wd) (S : Nat → St) : Xtr x Tre.one S := by
  refine ⟨⟨fun h0 => ?_, fun p hp h0 => absurd hp h0⟩, Or.inr fun q hq h0 => absurd hq h0⟩
  have : (0 : Int) < 0 := h0
  omega
/-- Nobody is under way, and no page was refused: every node is entered above. -/
theorem Xtr.quiet {wt : Bool} {gw : Nat} {x : Wd} {t : Tre} {S : Nat → St} {o : List Dn} (h : Inv wt gw x t S o) (X : Xtr x t S) (hid : ∀ c, c < 64 → x.bs[c]? = some (-1)) : x.rf = true ∨ ∀ q, t.inn q → q ≠ 0 → Up t q := by
  rcases X.en with hr | hE
  · exact Or.inl hr
  · refine Or.inr fun q hq h0 => ?_
    rcases hE q hq h0 with h1 | ⟨i, e, h1, h2, -⟩
    · exact h1
    · obtain ⟨c, hc, hb⟩ := h.own i e h1 h2
      rw [hid c hc] at hb
      have := Option.some.inj hb
      omega
/-- The child for a key is that of the last entry that is not above it. -/
theorem chl_last (ks vs : List Int) (key : Int) (hl : ks.length = vs.length) (hp : ks.Pairwise (· < ·)) (k : Nat) (hk : k ≤ ks.length) (hh : ∃ x, ks.head? = some x ∧ x ≤ key) (h0 : 0 < k) :
    ∃ e ∈ ks.zip vs, chl ks vs key k = e.2 ∧ e.1 ≤ key ∧ ∀ (j : Nat) (hj : j < k), ks[j]'(by omega) ≤ key → ks[j]'(by omega) ≤ e.1 := by
  induction k with
  | zero => omega
  | succ k ih =>
    have hk1 : k < ks.length := by omega
    have e1 : ks[k]?.getD 0 = ks[k] := by rw [List.getElem?_eq_getElem hk1]; rfl
    have e2 : vs[k]?.getD 0 = vs[k]'(by omega) := by rw [List.getElem?_eq_getElem (by omega)]; rfl
    unfold chl
    rw [e1, e2]
    by_cases hc : ks[k] ≤ key
    · rw [if_pos hc]
      refine ⟨(ks[k], vs[k]'(by omega)), List.mem_iff_getElem.2 ⟨k, by simp; omega, by simp⟩, rfl, hc, fun j hj _ => ?_⟩
      show ks[j]'(by omega) ≤ ks[k]
      rcases Nat.lt_or_ge j k with h1 | h1
      · have := List.pairwise_iff_getElem.1 hp j k (by omega) hk1 h1
        omega
      · have : j = k := by omega
        subst this
        exact Int.le_refl _
    · rw [if_neg hc]
      rcases Nat.eq_zero_or_pos k with rfl | hp0
      · obtain ⟨x, hx, hxk⟩ := hh
        rw [List.head?_eq_getElem?, List.getElem?_eq_getElem hk1] at hx
        have := Option.some.inj hx
        omega
      · obtain ⟨e, a1, a2, a3, a4⟩ := ih (by omega) hp0
        refine ⟨e, a1, a2, a3, fun j hj hjk => ?_⟩
        rcases Nat.lt_or_ge j k with h1 | h1
        · exact a4 j h1 hjk
        · have : j = k := by omega
          subst this
          exact absurd hjk hc
/-- Where every node is entered above, the child for a key has the key. -/
theorem no_link {t : Tre} (h : t.Ok) (hup : ∀ q, t.inn q → q ≠ 0 → Up t q) {p : Nat} {key : Int} (hp : t.inn p) (h1 : t.low p ≤ key) (h2 : key < (t.nd p).hi) (h9 : key ≤ 9999) (hl : 0 < (t.nd p).lv) {q : Nat} (hq : chl (t.nd p).ks (t.nd p).vs key (t.nd p).ks.length = (q : Int)) : key < (t.nd q).hi := by
  have hb := right_bd _ (h.rt p hp)
  have hf := h.fst p hp hl
  have hpos : 0 < (t.nd p).ks.length := by
    cases hks : (t.nd p).ks with
    | nil => rw [hks] at hf; cases hf
    | cons _ _ => simp
  obtain ⟨e, a1, a2, a3, a4⟩ := chl_last (t.nd p).ks (t.nd p).vs key hb.2.2.2.1 (right_pw _ (h.rt p hp)) _ (Nat.le_refl _) ⟨_, hf, h1⟩ hpos
  obtain ⟨q', q1, q2, q3, q4⟩ := h.chd p hp hl e a1
  obtain rfl : q = q' := by omega
  rcases Int.decLt key (t.nd q).hi with hlt | hlt
  · obtain ⟨r, r1, r2, r3, r4⟩ := h.lnk q q2 (by omega)
    have hr0 : r ≠ 0 := fun e0 => by
      subst e0
      have := h.lo q q2
      rw [h.l0] at r3
      omega
    obtain ⟨p', b1, b2, b3⟩ := hup r r2 hr0
    have hk := ent_key b3
    have hk1 := h.ks p' b1 _ hk.1
    have hk2 := (right_kb _ (h.rt p' b1) _ hk.1).2
    have hlo := h.lo q q2
    have hke := h.ks p hp _ (ent_key (n := t.nd p) a1).1
    have hk1' : t.low p' ≤ t.low r := hk1
    have hk2' : t.low r < (t.nd p').hi := hk2
    obtain rfl : p = p' := h.alone (key := t.low r) hp b1 (by omega) (by omega) (by omega) hk1' hk2'
    obtain ⟨j, hj, hje⟩ := List.mem_iff_getElem.1 hk.1
    have := a4 j hj (by rw [hje]; show t.low r ≤ key; omega)
    rw [hje] at this
    have h5 : t.low r ≤ e.1 := this
    omega
  · exact hlt
end Go.Proofs.YtajobgmnmbnhiaaDoor.Sap
