/- WHAT IS PROVED HERE: plain facts: with 64 pages the root's level is at most 3; which nodes are not entered yet (Entd), and that accesses keep it (no program's function is walked). Conditions: none but those named at each theorem. -/
import Derived.Test.YtajobgmnmbnhiaaGreatDoorPt41
namespace Go.Proofs.YtajobgmnmbnhiaaGreatDoor.Sap
open Go.RowKit
structure Lay (t : Tre) (l : Int) (A : List Nat) : Prop where
  nd : A.Nodup
  inn : ∀ p ∈ A, t.inn p ∧ (t.nd p).lv = l
theorem kid_at {t : Tre} (h : t.Ok) {p : Nat} (hp : t.inn p) (hl : 0 < (t.nd p).lv) {x : Nat} (hx : x ∈ (t.nd p).vs.map Int.toNat) : ∃ k, (k, (x : Int)) ∈ ent (t.nd p) ∧ t.inn x ∧ t.low x = k ∧ (t.nd x).lv + 1 = (t.nd p).lv ∧ t.low p ≤ k ∧ k < (t.nd p).hi := by
  obtain ⟨v, hv, rfl⟩ := List.mem_map.1 hx
  have hb := right_bd _ (h.rt p hp)
  obtain ⟨k, hk⟩ := zip_val hb.2.2.2.1 hv
  obtain ⟨q, q1, q2, q3, q4⟩ := h.chd p hp hl (k, v) hk
  have e : v.toNat = q := by have : v = (q : Int) := q1; omega
  rw [e]
  have hkk := (ent_key (n := t.nd p) hk).1
  exact ⟨k, by have : v = (q : Int) := q1; rw [← this]; exact hk, q2, q3, q4, h.ks p hp k hkk, (right_kb _ (h.rt p hp) k hkk).2⟩
theorem Lay.down {t : Tre} (h : t.Ok) {l : Int} {A : List Nat} (L : Lay t l A) (hl : 0 < l) (c : Nat) (hc : ∀ p ∈ A, c ≤ (t.nd p).ks.length) : ∃ B, Lay t (l - 1) B ∧ c * A.length ≤ B.length := by
  refine ⟨A.flatMap fun p => (t.nd p).vs.map Int.toNat, ⟨?_, fun x hx => ?_⟩, ?_⟩
  · refine List.pairwise_flatMap.2 ⟨fun p hp => ?_, ?_⟩
    · obtain ⟨hpi, hpl⟩ := L.inn p hp
      have hb := right_bd _ (h.rt p hpi)
      rw [List.pairwise_map, List.pairwise_iff_getElem]
      intro i j hi hj hij e
      have hks := hb.2.2.2.1
      have hpw := List.pairwise_iff_getElem.1 (right_pw _ (h.rt p hpi)) i j (by omega) (by omega) hij
      have ei : ((t.nd p).ks[i]'(by omega), (t.nd p).vs[i]) ∈ ent (t.nd p) := List.mem_iff_getElem.2 ⟨i, by unfold ent; rw [List.length_zip]; omega, by simp [ent]⟩
      have ej : ((t.nd p).ks[j]'(by omega), (t.nd p).vs[j]) ∈ ent (t.nd p) := List.mem_iff_getElem.2 ⟨j, by unfold ent; rw [List.length_zip]; omega, by simp [ent]⟩
      obtain ⟨q, q1, q2, q3, -⟩ := h.chd p hpi (by omega) _ ei
      obtain ⟨r, r1, r2, r3, -⟩ := h.chd p hpi (by omega) _ ej
      have k1 : (t.nd p).vs[i] = (q : Int) := q1
      have k2 : (t.nd p).vs[j] = (r : Int) := r1
      have k3 : t.low q = (t.nd p).ks[i]'(by omega) := q3
      have k4 : t.low r = (t.nd p).ks[j]'(by omega) := r3
      have : q = r := by omega
      subst this
      omega
    · refine List.Pairwise.imp_of_mem (fun {a b} ha hb hab x hx y hy e => ?_) L.nd
      obtain ⟨hai, hal⟩ := L.inn a ha
      obtain ⟨hbi, hbl⟩ := L.inn b hb
      obtain ⟨k, -, -, k2, -, k4, k5⟩ := kid_at h hai (by omega) hx
      obtain ⟨k', -, -, m2, -, m4, m5⟩ := kid_at h hbi (by omega) hy
      subst e
      rcases h.dis a b hai hbi (by omega) hab with h1 | h1 <;> omega
  · obtain ⟨p, hp, hx⟩ := List.mem_flatMap.1 hx
    obtain ⟨hpi, hpl⟩ := L.inn p hp
    obtain ⟨k, -, k1, -, k3, -⟩ := kid_at h hpi (by omega) hx
    exact ⟨k1, by omega⟩
  · have key : ∀ A : List Nat, (∀ p ∈ A, t.inn p ∧ c ≤ (t.nd p).ks.length) → c * A.length ≤ (A.flatMap fun p => (t.nd p).vs.map Int.toNat).length := fun A => by
      induction A with
      | nil => intro _; exact Nat.le_refl _
      | cons a r ih =>
        intro hA
        have h1 := ih fun p hp => hA p (by simp [hp])
        have h2 := hA a (by simp)
        have h3 := (right_bd _ (h.rt a h2.1)).2.2.2.1
        rw [List.flatMap_cons, List.length_append, List.length_map, List.length_cons, Nat.mul_succ]
        omega
    exact key A fun p hp => ⟨(L.inn p hp).1, hc p hp⟩
theorem root_lv {t : Tre} (h : t.Ok) (C : Ct t) : (t.nd 0).lv ≤ 3 := by
  by_cases hlt : 3 < (t.nd 0).lv
  · have L0 : Lay t (t.nd 0).lv [0] := ⟨by simp, fun p hp => by rw [List.mem_singleton] at hp; subst hp; exact ⟨h.r0, rfl⟩⟩
    have low : ∀ {l : Int} {A : List Nat}, Lay t l A → l < (t.nd 0).lv → 0 < l → ∀ p ∈ A, 3 ≤ (t.nd p).ks.length := fun {l A} L hl h0 p hp => by
      obtain ⟨h1, h2⟩ := L.inn p hp
      exact C.mid p h1 (fun e => by subst e; omega) (by omega)
    obtain ⟨B1, L1, n1⟩ := L0.down h (by omega) 2 fun p hp => by rw [List.mem_singleton] at hp; subst hp; exact C.top (by omega)
    obtain ⟨B2, L2, n2⟩ := L1.down h (by omega) 3 (low L1 (by omega) (by omega))
    obtain ⟨B3, L3, n3⟩ := L2.down h (by omega) 3 (low L2 (by omega) (by omega))
    obtain ⟨B4, L4, n4⟩ := L3.down h (by omega) 3 (low L3 (by omega) (by omega))
    have hn : (B3 ++ B4).Nodup := by
      rw [List.nodup_append]
      refine ⟨L3.nd, L4.nd, fun a ha b hb e => ?_⟩
      subst e
      have := (L3.inn a ha).2
      have := (L4.inn a hb).2
      omega
    have hle := nodup_le 64 (B3 ++ B4) hn fun a ha => by
      rcases List.mem_append.1 ha with h1 | h1
      · exact h.lt a (L3.inn a h1).1
      · exact h.lt a (L4.inn a h1).1
    rw [List.length_append] at hle
    have : ([0] : List Nat).length = 1 := rfl
    omega
  · omega
theorem no_nine {t : Tre} (h : t.Ok) (C : Ct t) {p : Nat} (hp : t.inn p) : (t.nd p).lv ≠ 9 := fun e => by
  have h1 := root_lv h C
  by_cases h0 : p = 0
  · subst h0; omega
  · have := h.top p hp h0; omega
def Entd (x : Wd) (t : Tre) (S : Nat → St) : Prop := x.rf = true ∨ ∀ q, t.inn q → q ≠ 0 → Up t q ∨ ∃ (i : Nat) (d : Dd), x.ds[i]? = some d ∧ d.en = false ∧ 0 < (S i).lv ∧ (S i).ch = (q : Int)
structure Xtr (x : Wd) (t : Tre) (S : Nat → St) : Prop where
  ct : Ct t
  en : Entd x t S
theorem xtr_on {wt : Bool} {gw : Nat} {x x' : Wd} {t t' : Tre} {S : Nat → St} {o : List Dn} {c i : Nat} {d d' : Dd} {s' : St} (h : Mov wt gw x t S o c i d) (X : Xtr x t S) {U' : List Bool} {o' : List Dn} (E : EvOn x t t' (S i) s' d U' o o') (hds : x'.ds = x.ds.set i d') (hen : d'.en = false) (hrf : x.rf = true → x'.rf = true) : Xtr x' t' (upS S i s') := by
  have hi := (List.getElem?_eq_some_iff.1 h.ds).1
  have wit : ∀ (q : Nat), (∃ (j : Nat) (e : Dd), x.ds[j]? = some e ∧ e.en = false ∧ 0 < (S j).lv ∧ (S j).ch = (q : Int)) → (∃ (j : Nat) (e : Dd), j ≠ i ∧ x'.ds[j]? = some e ∧ e.en = false ∧ 0 < (upS S i s' j).lv ∧ (upS S i s' j).ch = (q : Int)) ∨ (0 < (S i).lv ∧ (S i).ch = (q : Int)) := fun q ⟨j, e, h1, h2, h3, h4⟩ => by
    by_cases e0 : j = i
    · subst e0; exact Or.inr ⟨h3, h4⟩
    · have eu : upS S i s' j = S j := if_neg e0
      exact Or.inl ⟨j, e, e0, by rw [hds, List.getElem?_set_ne (Ne.symm e0)]; exact h1, h2, by rw [eu]; exact h3, by rw [eu]; exact h4⟩
  have own : x'.ds[i]? = some d' := by rw [hds]; exact List.getElem?_set_self hi
  have ui : upS S i s' i = s' := if_pos rfl
  rcases E.2 with ⟨rfl, e1, e2, -⟩ | ⟨p, N, A, C, hlv, hpg, rfl, -⟩
  · refine ⟨X.ct, ?_⟩
    rcases X.en with hr | hE
    · exact Or.inl (hrf hr)
    · refine Or.inr fun q hq h0 => ?_
      rcases hE q hq h0 with h1 | h1
      · exact Or.inl h1
      · rcases wit q h1 with ⟨j, e, -, h2⟩ | ⟨h2, h3⟩
        · exact Or.inr ⟨j, e, h2⟩
        · exact Or.inr ⟨i, d', own, hen, by rw [ui, e1]; exact h2, by rw [ui, e2]; exact h3⟩
  · refine ⟨A.ct C X.ct, ?_⟩
    rcases X.en with hr | hE
    · exact Or.inl (hrf hr)
    · refine Or.inr fun q hq h0 => ?_
      by_cases hqi : t.inn q
      · rcases hE q hqi h0 with h1 | h1
        · exact Or.inl (A.keep C h.inv.tok hqi h0 h1)
        · rcases wit q h1 with ⟨j, e, -, h2⟩ | ⟨h2, h3⟩
          · exact Or.inr ⟨j, e, h2⟩
          · obtain ⟨cc, c1, c2⟩ := A.ent C hlv h2
            have : cc = q := by rw [h3] at c1; omega
            subst this
            exact Or.inl c2
      · rcases A.came hq hqi with h1 | h1
        · exact Or.inl h1
        · have h2 := h1 hpg
          refine Or.inr ⟨i, d', own, hen, ?_, ?_⟩
          · rw [ui]
            show 0 < (S i).lv + 1
            have := h.live.ok.lvb
            omega
          · rw [ui]
            show (S i).sp[0]?.getD 0 = (q : Int)
            rw [h2]; rfl
theorem xtr_fin {wt : Bool} {gw : Nat} {x x' : Wd} {t t' : Tre} {S : Nat → St} {o : List Dn} {c i : Nat} {d d' : Dd} {rf1 : Bool} (h : Mov wt gw x t S o c i d) (X : Xtr x t S) {er : Int} {U' : List Bool} {o' : List Dn} (E : EvFin x t t' (S i) d rf1 er U' o o') (hds : x'.ds = x.ds.set i d') (hrf : x.rf = true → x'.rf = true) (hrf1 : rf1 = true → x'.rf = true) : Xtr x' t' (upS S i (S i)) := by
  have uS : ∀ j, upS S i (S i) j = S j := fun j => by
    unfold upS
    split
    · rename_i e; rw [e]
    · rfl
  have wit : ∀ (q : Nat), (∃ (j : Nat) (e : Dd), x.ds[j]? = some e ∧ e.en = false ∧ 0 < (S j).lv ∧ (S j).ch = (q : Int)) → (∃ (j : Nat) (e : Dd), x'.ds[j]? = some e ∧ e.en = false ∧ 0 < (upS S i (S i) j).lv ∧ (upS S i (S i) j).ch = (q : Int)) ∨ (0 < (S i).lv ∧ (S i).ch = (q : Int)) := fun q ⟨j, e, h1, h2, h3, h4⟩ => by
    by_cases e0 : j = i
    · subst e0; exact Or.inr ⟨h3, h4⟩
    · exact Or.inl ⟨j, e, by rw [hds, List.getElem?_set_ne (Ne.symm e0)]; exact h1, h2, by rw [uS]; exact h3, by rw [uS]; exact h4⟩
  rcases E.2.2 with ⟨rfl, E, -⟩ | ⟨p, N, A, C, hlv, hpp, hpg, -⟩
  · refine ⟨X.ct, ?_⟩
    rcases X.en with hr | hE
    · exact Or.inl (hrf hr)
    · rcases E with e0 | e0 | ⟨p, p1, p2⟩
      · refine Or.inr fun q hq h0 => ?_
        rcases hE q hq h0 with h1 | h1
        · exact Or.inl h1
        · rcases wit q h1 with h2 | ⟨h2, -⟩
          · exact Or.inr h2
          · omega
      · exact Or.inl (hrf1 e0)
      · exact absurd p2 (no_nine h.inv.tok X.ct p1)
  · refine ⟨A.ct C X.ct, ?_⟩
    rcases X.en with hr | hE
    · exact Or.inl (hrf hr)
    · refine Or.inr fun q hq h0 => ?_
      by_cases hqi : t.inn q
      · rcases hE q hqi h0 with h1 | h1
        · exact Or.inl (A.keep C h.inv.tok hqi h0 h1)
        · rcases wit q h1 with h2 | ⟨h2, h3⟩
          · exact Or.inr h2
          · obtain ⟨cc, c1, c2⟩ := A.ent C hlv h2
            have : cc = q := by rw [h3] at c1; omega
            subst this
            exact Or.inl c2
      · refine Or.inl (A.came2 hpg (fun hc => ?_) hq hqi)
        have hv := (pgsN_le (t.nd p) (S i)).2.2.2 hc
        have hpgS : (S i).pg = 0 := by
          rcases Int.decEq (S i).pg 0 with e | e
          · rw [if_neg e] at hv; exact absurd hv hpg
          · exact e
        omega
theorem Xtr.begun {x : Wd} {t : Tre} {S : Nat → St} (X : Xtr x t S) (x' : Wd) (d : Dd) (s : St) (hds : x'.ds = x.ds ++ [d]) (hrf : x'.rf = x.rf) : Xtr x' t (upS S x.ds.length s) := by
  refine ⟨X.ct, ?_⟩
  rcases X.en with hr | hE
  · exact Or.inl (by rw [hrf]; exact hr)
  · refine Or.inr fun q hq h0 => ?_
    rcases hE q hq h0 with h1 | ⟨i, e, h1, h2, h3, h4⟩
    · exact Or.inl h1
    · have hi := (List.getElem?_eq_some_iff.1 h1).1
      have eu : upS S x.ds.length s i = S i := if_neg (by omega)
      exact Or.inr ⟨i, e, by rw [hds, List.getElem?_append_left hi]; exact h1, h2, by rw [eu]; exact h3, by rw [eu]; exact h4⟩
theorem Xtr.first (x : Wd) (S : Nat → St) : Xtr x Tre.one S := by
  refine ⟨⟨fun h0 => ?_, fun p hp h0 => absurd hp h0⟩, Or.inr fun q hq h0 => absurd hq h0⟩
  have : (0 : Int) < 0 := h0
  omega
def sumN (f : Nat → Nat) : Nat → Nat
  | 0 => 0
  | n + 1 => sumN f n + f n
theorem sumN_congr {f g : Nat → Nat} {n : Nat} (h : ∀ q, q < n → f q = g q) : sumN f n = sumN g n := by
  induction n with
  | zero => rfl
  | succ n ih => unfold sumN; rw [ih fun q hq => h q (by omega), h n (by omega)]
theorem sumN_upd (f : Nat → Nat) (p v n : Nat) (hp : p < n) : sumN (fun q => if q = p then v else f q) n + f p = sumN f n + v := by
  induction n with
  | zero => omega
  | succ n ih =>
    unfold sumN
    by_cases e : p = n
    · subst e
      rw [sumN_congr (g := f) fun q hq => if_neg (by omega), if_pos rfl]
      omega
    · have := ih (by omega)
      rw [if_neg (show ¬ n = p from fun e2 => e e2.symm)]
      omega
theorem sumN_count {f : Nat → Nat} {A : List Nat} {n c : Nat} (hn : A.Nodup) (h : ∀ p ∈ A, p < n ∧ c ≤ f p) : c * A.length ≤ sumN f n := by
  induction A generalizing f with
  | nil => exact Nat.zero_le _
  | cons a r ih =>
    obtain ⟨h1, h2⟩ := List.nodup_cons.1 hn
    have ha := h a (by simp)
    have hs := sumN_upd f a 0 n ha.1
    have := ih (f := fun q => if q = a then 0 else f q) h2 fun p hp => by
      have hpa : p ≠ a := fun e => h1 (e ▸ hp)
      have := h p (by simp [hp])
      exact ⟨this.1, by rw [if_neg hpa]; exact this.2⟩
    rw [List.length_cons, Nat.mul_succ]
    omega
def wgt (n : Nd) : Nat := 3 + (if n.lv = 0 then 2 * (n.ks.length - 3) else 4 * (n.ks.length - 4))
def Pot (t : Tre) (B : Nat) : Prop := ∃ P : Nat → Nat, (∀ p, t.inn p → wgt (t.nd p) ≤ P p) ∧ sumN P 64 ≤ B
theorem Pot.mono {t : Tre} {B B' : Nat} (h : Pot t B) (hb : B ≤ B') : Pot t B' := by
  obtain ⟨P, h1, h2⟩ := h
  exact ⟨P, h1, by omega⟩
theorem Pot.pages {t : Tre} {B : Nat} (ht : t.Ok) (h : Pot t B) {A : List Nat} (hn : A.Nodup) (hA : ∀ p ∈ A, t.inn p) : 3 * A.length ≤ B := by
  obtain ⟨P, h1, h2⟩ := h
  have := sumN_count (c := 3) hn fun p hp => ⟨ht.lt p (hA p hp), Nat.le_trans (by unfold wgt; omega) (h1 p (hA p hp))⟩
  omega
theorem Pot.set {t t' : Tre} {B B' p : Nat} (ht : t.Ok) (h : Pot t B) (hp : t.inn p) (hi : ∀ q, t'.inn q → t.inn q) (hn : ∀ q, t.inn q → q ≠ p → t'.nd q = t.nd q) (hb : B + wgt (t'.nd p) ≤ B' + wgt (t.nd p)) : Pot t' B' := by
  obtain ⟨P, h1, h2⟩ := h
  have hs := sumN_upd P p (P p + wgt (t'.nd p) - wgt (t.nd p)) 64 (ht.lt p hp)
  have hpp := h1 p hp
  refine ⟨fun q => if q = p then P p + wgt (t'.nd p) - wgt (t.nd p) else P q, fun q hq => ?_, by omega⟩
  dsimp only
  by_cases e : q = p
  · subst e
    rw [if_pos rfl]
    omega
  · rw [if_neg e, hn q (hi q hq) e]; exact h1 q (hi q hq)
theorem Pot.new {t t' : Tre} {B B' r : Nat} (h : Pot t B) (r64 : r < 64) (hi : ∀ q, t'.inn q → t.inn q ∨ q = r) (hn : ∀ q, t.inn q → q ≠ r → t'.nd q = t.nd q) (hb : B + wgt (t'.nd r) ≤ B') : Pot t' B' := by
  obtain ⟨P, h1, h2⟩ := h
  have hs := sumN_upd P r (wgt (t'.nd r)) 64 r64
  refine ⟨fun q => if q = r then wgt (t'.nd r) else P q, fun q hq => ?_, by omega⟩
  dsimp only
  by_cases e : q = r
  · subst e; rw [if_pos rfl]; exact Nat.le_refl _
  · rw [if_neg e]
    rcases hi q hq with h3 | h3
    · rw [hn q h3 e]; exact h1 q h3
    · exact absurd h3 e
theorem half_le {n : Nd} {s : St} (H : Halves n s.kd (wantV s) (entV s) (lowV n s)) (r : Int) : wgt (lftN (chgN n s) (lowV n s) r) = 3 ∧ wgt (rgtN (chgN n s) (lowV n s)) = 3 ∧ (n.lv = 0 → n.ks.length = 5) ∧ (n.lv ≠ 0 → n.ks.length = 6) := by
  have hcl := crowd_len H.i H.cr
  have hc1 := (cg_count H.i).1
  have hb := right_bd n H.i.rt
  have hbd := cg_bd H.i
  have hp := cg_pw H.i
  have h0l : 0 ≤ least n.lv := by unfold least; split <;> omega
  have hbb : ∀ q ∈ (chgN n s).ks, 0 ≤ q ∧ q < n.hi := fun q hq => by have := hbd q hq; omega
  have hsum := flt2 (chgN n s).ks (lowV n s) n.hi hbb
  have hlen : (chgN n s).ks.length = if n.lv = 0 then 6 else 7 := by
    split
    · rename_i h0; exact hcl.1 h0
    · rename_i h0; exact hcl.2.1 h0
  have hmid : midV n s = if n.lv = 0 then 3 else 4 := by
    unfold midV
    rw [hlen]
    split <;> rfl
  have hml : midV n s < (chgN n s).ks.length := by rw [hmid, hlen]; split <;> omega
  have hlow : (cg n s.kd (wantV s) (entV s)).ks[midV n s]'hml = lowV n s := by
    have hc : crwB n s = true := H.cr
    unfold lowV
    rw [if_pos hc, List.getElem?_eq_getElem hml]; rfl
  have e1 : (chgN n s).ks.filter (fun q => decide (0 ≤ q) && decide (q < lowV n s)) = (chgN n s).ks.filter (fun q => decide (q < lowV n s)) := List.filter_congr fun q hq => by have := hbb q hq; simp; omega
  have k4 : ¬ midV n s < ((chgN n s).ks.filter fun q => decide (q < lowV n s)).length := fun hlt => by
    have := (sorted_idx hp (lowV n s) (midV n s) hml).2 hlt
    rw [hlow] at this
    omega
  have k3 : midV n s - 1 < ((chgN n s).ks.filter fun q => decide (q < lowV n s)).length := by
    have hm1 : midV n s - 1 < (chgN n s).ks.length := by omega
    refine (sorted_idx hp (lowV n s) (midV n s - 1) hm1).1 ?_
    have h9 : midV n s - 1 < midV n s := by rw [hmid]; split <;> omega
    have := List.pairwise_iff_getElem.1 hp (midV n s - 1) (midV n s) hm1 hml h9
    rw [hlow] at this
    exact this
  have eL : (lftN (chgN n s) (lowV n s) r).ks = (chgN n s).ks.filter (fun q => decide (0 ≤ q) && decide (q < lowV n s)) := H.ksL r
  have eR : (rgtN (chgN n s) (lowV n s)).ks = (chgN n s).ks.filter (fun q => decide (lowV n s ≤ q) && decide (q < n.hi)) := H.ksR
  rw [e1] at hsum eL
  unfold wgt
  rw [eL, eR]
  have el : (lftN (chgN n s) (lowV n s) r).lv = n.lv := rfl
  have er : (rgtN (chgN n s) (lowV n s)).lv = n.lv := rfl
  rw [el, er]
  have hc2 : (cg n s.kd (wantV s) (entV s)).ks.length = (chgN n s).ks.length := rfl
  by_cases h0 : n.lv = 0
  · rw [if_pos h0] at hmid hlen
    rw [if_pos h0, if_pos h0]
    have := hb.2.2.2.2.2.1 h0
    refine ⟨by omega, by omega, fun _ => by omega, fun h => absurd h0 h⟩
  · rw [if_neg h0] at hmid hlen
    rw [if_neg h0, if_neg h0]
    have := hb.2.2.2.2.1
    refine ⟨by omega, by omega, fun h => absurd h h0, fun _ => by omega⟩
theorem wgt_cg {n : Nd} {k key v : Int} (h : ChI n k key v) : (n.lv = 0 → wgt (cg n k key v) ≤ wgt n + 2) ∧ (n.lv ≠ 0 → wgt (cg n k key v) ≤ wgt n + 4) ∧ (key ∈ n.ks ∨ k = 3 → wgt (cg n k key v) ≤ wgt n) := by
  have h1 := cg_count h
  have el : (cg n k key v).lv = n.lv := rfl
  unfold wgt
  rw [el]
  refine ⟨fun h0 => ?_, fun h0 => ?_, fun hh => ?_⟩
  · rw [if_pos h0, if_pos h0]; omega
  · rw [if_neg h0, if_neg h0]; omega
  · have h2 := h1.2 hh
    split <;> omega
theorem Swd.pot {x : Wd} {t t' : Tre} {s : St} {p : Nat} {N : Nat → Nd → Prop} {o : List Dn} (A : Swd x t t' s p N o) (C : CgAt t p s.kd (wantV s) (entV s)) (ht : t.Ok) {B : Nat} (h : Pot t B) :
    ((t.nd p).lv = 0 → pgsN (t.nd p) s = 1 → ∀ B', B ≤ B' + 1 → Pot t' B') ∧ ((t.nd p).lv = 0 → Pot t' (B + 2)) ∧ ((t.nd p).lv = 0 → (wantV s ∈ (t.nd p).ks ∨ s.kd = 3) → Pot t' B) ∧ ((t.nd p).lv ≠ 0 → pgsN (t.nd p) s = 1 → Pot t' B) ∧ ((t.nd p).lv ≠ 0 → Pot t' (B + 4)) := by
  rcases A.sh with ⟨hc, rfl⟩ | ⟨H, hp0, r, hr1, hr, rfl⟩ | ⟨H, rfl, hpg, l, r, hl, hr, l1, r1, hlr, rfl⟩
  · have hw := wgt_cg C.i
    have st : ∀ B', B + wgt (cg (t.nd p) s.kd (wantV s) (entV s)) ≤ B' + wgt (t.nd p) → Pot (t.put p (chgN (t.nd p) s)) B' := fun B' hb => h.set ht C.inn (fun _ hq => hq) (fun q _ hq => t.put_ne _ hq) (by rw [t.put_self]; exact hb)
    have hp0 : pgsN (t.nd p) s ≠ 1 := fun e => by
      have := (pgsN_le (t.nd p) s).2.2.1.1 (by omega)
      rw [hc] at this; cases this
    exact ⟨fun _ e => absurd e hp0, fun h0 => st _ (by have := hw.1 h0; omega), fun _ hk => st _ (by have := hw.2.2 hk; omega), fun _ e => absurd e hp0, fun h0 => st _ (by have := hw.2.1 h0; omega)⟩
  · have hrp : p ≠ r := fun e => hr (e ▸ C.inn)
    have hh := half_le H r
    have r64 : r < 64 := by
      have : (t.split p r (lftN (chgN (t.nd p) s) (lowV (t.nd p) s) r) (rgtN (chgN (t.nd p) s) (lowV (t.nd p) s)) (lowV (t.nd p) s)).inn r := Or.inr rfl
      exact A.tu.ok.lt r this
    have st : ∀ B', B + 6 ≤ B' + wgt (t.nd p) → Pot (t.split p r (lftN (chgN (t.nd p) s) (lowV (t.nd p) s) r) (rgtN (chgN (t.nd p) s) (lowV (t.nd p) s)) (lowV (t.nd p) s)) B' := fun B' hb => by
      obtain ⟨P, h1, h2⟩ := h
      have hpp := h1 p C.inn
      have hs1 := sumN_upd P p (P p + 3 - wgt (t.nd p)) 64 (ht.lt p C.inn)
      have hs2 := sumN_upd (fun q => if q = p then P p + 3 - wgt (t.nd p) else P q) r 3 64 r64
      refine ⟨fun q => if q = r then 3 else if q = p then P p + 3 - wgt (t.nd p) else P q, fun q hq => ?_, ?_⟩
      · dsimp only
        by_cases e : q = r
        · subst e
          rw [if_pos rfl]
          show wgt (if q = q then _ else _ : Nd) ≤ 3
          rw [if_pos rfl, hh.2.1]; exact Nat.le_refl _
        · rw [if_neg e]
          by_cases e2 : q = p
          · subst e2
            rw [if_pos rfl]
            show wgt (if q = r then _ else if q = q then _ else t.nd q : Nd) ≤ _
            rw [if_neg e, if_pos rfl, hh.1]
            omega
          · rw [if_neg e2]
            show wgt (if q = r then _ else if q = p then _ else t.nd q : Nd) ≤ _
            rw [if_neg e, if_neg e2]
            rcases hq with hq | hq
            · exact h1 q hq
            · exact absurd hq e
      · omega
    have w0 : (t.nd p).lv = 0 → wgt (t.nd p) = 7 := fun h0 => by unfold wgt; rw [if_pos h0, hh.2.2.1 h0]
    have w1 : (t.nd p).lv ≠ 0 → wgt (t.nd p) = 11 := fun h0 => by unfold wgt; rw [if_neg h0, hh.2.2.2 h0]
    exact ⟨fun h0 _ B' hb => st _ (by rw [w0 h0]; omega), fun h0 => st _ (by rw [w0 h0]; omega), fun h0 _ => st _ (by rw [w0 h0]; omega), fun h0 _ => st _ (by rw [w1 h0]; omega), fun h0 => st _ (by rw [w1 h0]; omega)⟩
  · have hh := half_le H r
    have gi : ∀ q, (t.grow l r s.kd (wantV s) (entV s) (lowV (t.nd 0) s)).inn q → t.inn q ∨ q = l ∨ q = r := fun q hq => by
      rcases hq with (hq | hq) | hq
      · exact Or.inl hq
      · exact Or.inr (Or.inl hq)
      · exact Or.inr (Or.inr hq)
    have r64 : r < 64 := A.tu.ok.lt r (Or.inr rfl)
    have l64 : l < 64 := A.tu.ok.lt l (Or.inl (Or.inr rfl))
    have n0 : (t.grow l r s.kd (wantV s) (entV s) (lowV (t.nd 0) s)).nd 0 = topN (cg (t.nd 0) s.kd (wantV s) (entV s)) (lowV (t.nd 0) s) l r := Tre.put_self _ _ _
    have nl : (t.grow l r s.kd (wantV s) (entV s) (lowV (t.nd 0) s)).nd l = lftN (cg (t.nd 0) s.kd (wantV s) (entV s)) (lowV (t.nd 0) s) r := by
      show (if l = 0 then _ else if l = r then _ else if l = l then _ else _ : Nd) = _
      rw [if_neg (by omega), if_neg hlr, if_pos rfl]
    have nr : (t.grow l r s.kd (wantV s) (entV s) (lowV (t.nd 0) s)).nd r = rgtN (cg (t.nd 0) s.kd (wantV s) (entV s)) (lowV (t.nd 0) s) := by
      show (if r = 0 then _ else if r = r then _ else _ : Nd) = _
      rw [if_neg (by omega), if_pos rfl]
    have hlv0 := (right_bd _ (ht.rt 0 ht.r0)).1
    have wt0 : wgt (topN (cg (t.nd 0) s.kd (wantV s) (entV s)) (lowV (t.nd 0) s) l r) = 3 := by
      have e : (topN (cg (t.nd 0) s.kd (wantV s) (entV s)) (lowV (t.nd 0) s) l r).lv = (t.nd 0).lv + 1 := rfl
      unfold wgt
      rw [e, if_neg (by omega)]; rfl
    have st : ∀ B', B + 9 ≤ B' + wgt (t.nd 0) → Pot (t.grow l r s.kd (wantV s) (entV s) (lowV (t.nd 0) s)) B' := fun B' hb => by
      obtain ⟨P, h1, h2⟩ := h
      have hpp := h1 0 ht.r0
      have hs1 := sumN_upd P 0 (P 0 + 3 - wgt (t.nd 0)) 64 (by omega)
      have hs2 := sumN_upd (fun q => if q = 0 then P 0 + 3 - wgt (t.nd 0) else P q) l 3 64 l64
      have hs3 := sumN_upd (fun q => if q = l then 3 else if q = 0 then P 0 + 3 - wgt (t.nd 0) else P q) r 3 64 r64
      refine ⟨fun q => if q = r then 3 else if q = l then 3 else if q = 0 then P 0 + 3 - wgt (t.nd 0) else P q, fun q hq => ?_, by omega⟩
      dsimp only
      by_cases e : q = r
      · subst e; rw [if_pos rfl, nr]; exact Nat.le_of_eq hh.2.1
      · rw [if_neg e]
        by_cases e2 : q = l
        · subst e2; rw [if_pos rfl, nl]; exact Nat.le_of_eq hh.1
        · rw [if_neg e2]
          by_cases e3 : q = 0
          · subst e3; rw [if_pos rfl, n0, wt0]; omega
          · rw [if_neg e3]
            rcases gi q hq with h3 | h3 | h3
            · rw [A.tu.old q h3 e3]; exact h1 q h3
            · exact absurd h3 e2
            · exact absurd h3 e
    have w0 : (t.nd 0).lv = 0 → wgt (t.nd 0) = 7 := fun h0 => by unfold wgt; rw [if_pos h0, hh.2.2.1 h0]
    have w1 : (t.nd 0).lv ≠ 0 → wgt (t.nd 0) = 11 := fun h0 => by unfold wgt; rw [if_neg h0, hh.2.2.2 h0]
    have hno := crowd_len H.i H.cr
    refine ⟨fun _ e => absurd e hpg, fun h0 => st _ (by rw [w0 h0]; omega), fun _ hk => ?_, fun _ e => absurd e hpg, fun h0 => st _ (by rw [w1 h0]; omega)⟩
    rcases hk with hk | hk
    · exact absurd hk hno.2.2.1
    · have := hno.2.2.2; omega
def cnt2 (o : List Dn) : Nat := (o.filter fun e => decide (e.k = 2)).length
def cntP (ds : List Dd) : Nat := (ds.filter fun d => decide (d.k = 2)).length
def entB (S : Nat → St) (ds : List Dd) (i : Nat) : Nat :=
  match ds[i]? with
  | some d => if d.en = false ∧ 0 < (S i).lv then 1 else 0
  | none => 0
def entE (S : Nat → St) (ds : List Dd) : Nat := sumN (entB S ds) ds.length
structure FulX (x : Wd) (t : Tre) (S : Nat → St) (o : List Dn) : Prop where
  pot : ∃ B, Pot t B ∧ B + 4 * entE S x.ds ≤ 3 * cnt2 o + 3
  use : ∀ p : Nat, x.U[p]? = some true → t.inn p ∨ ∃ (i : Nat) (d : Dd), x.ds[i]? = some d ∧ d.k = 2 ∧ (p : Int) ∈ (S i).sp
  sp2 : ∀ (i : Nat) (d : Dd), x.ds[i]? = some d → (S i).sp.length ≤ 2
  er : ∀ (i : Nat) (d : Dd), x.ds[i]? = some d → d.er = 0 ∨ (d.er = 4 ∧ d.k = 2 ∧ d.rf = true)
  puts : x.puts = cntP x.ds
theorem entE_upd {S S' : Nat → St} {ds : List Dd} {i : Nat} {d' : Dd} (hi : i < ds.length) (hS : ∀ j, j ≠ i → S' j = S j) : entE S' (ds.set i d') + entB S ds i = entE S ds + (if d'.en = false ∧ 0 < (S' i).lv then 1 else 0) := by
  have h1 := sumN_upd (entB S ds) i (if d'.en = false ∧ 0 < (S' i).lv then 1 else 0) ds.length hi
  have h2 : entE S' (ds.set i d') = sumN (fun q => if q = i then (if d'.en = false ∧ 0 < (S' i).lv then 1 else 0) else entB S ds q) ds.length := by
    unfold entE
    rw [List.length_set]
    refine sumN_congr fun q _ => ?_
    by_cases e : q = i
    · subst e
      rw [if_pos rfl]
      unfold entB
      rw [List.getElem?_set_self hi]
    · rw [if_neg e]
      unfold entB
      rw [List.getElem?_set_ne (Ne.symm e), hS q e]
  rw [h2]; exact h1
theorem entB_live {S : Nat → St} {ds : List Dd} {i : Nat} {d : Dd} (hd : ds[i]? = some d) (he : d.en = false) : entB S ds i = if 0 < (S i).lv then 1 else 0 := by
  unfold entB
  rw [hd]
  simp only [he, true_and]
theorem cntP_set {ds : List Dd} {i : Nat} {d d' : Dd} (hd : ds[i]? = some d) (hk : d'.k = d.k) : cntP (ds.set i d') = cntP ds := by
  unfold cntP
  induction ds generalizing i with
  | nil => cases hd
  | cons a r ih =>
    cases i with
    | zero =>
      have e : a = d := Option.some.inj hd
      subst e
      rw [List.set_cons_zero, List.filter_cons, List.filter_cons, hk]
      split <;> rfl
    | succ i =>
      rw [List.set_cons_succ, List.filter_cons, List.filter_cons]
      have := ih (i := i) hd
      split
      · rw [List.length_cons, List.length_cons, this]
      · exact this
theorem cnt2_snoc (o : List Dn) (e : Dn) : cnt2 (o ++ [e]) = cnt2 o + if e.k = 2 then 1 else 0 := by
  unfold cnt2
  rw [List.filter_append, List.length_append]
  congr 1
  rw [List.filter_cons]
  by_cases h : e.k = 2
  · rw [if_pos (by simp [h]), if_pos h]; rfl
  · rw [if_neg (by simp [h]), if_neg h]; rfl
theorem Pot.one {t : Tre} {B : Nat} (ht : t.Ok) (h : Pot t B) : 3 ≤ B := by
  have := h.pages ht (A := [0]) (by simp) fun p hp => by rw [List.mem_singleton] at hp; subst hp; exact ht.r0
  simpa using this
theorem ful_on {wt : Bool} {gw : Nat} {x x' : Wd} {t t' : Tre} {S : Nat → St} {o o' : List Dn} {c i : Nat} {d d' : Dd} {s' : St} {U' : List Bool} (h : Mov wt gw x t S o c i d) (F : FulX x t S o) (E : EvOn x t t' (S i) s' d U' o o') (I' : Inv wt gw x' t' (upS S i s') o') (gr : Grows t t') (hds : x'.ds = x.ds.set i d') (hU : x'.U = U') (hp : x'.puts = x.puts) (hen : d'.en = false) (hk : d'.k = d.k) (her : d'.er = d.er) (hrf : d.rf = true → d'.rf = true) : FulX x' t' (upS S i s') o' := by
  have hi := (List.getElem?_eq_some_iff.1 h.ds).1
  have L := h.live
  have hlvb := L.ok.lvb
  have upne : ∀ j, j ≠ i → upS S i s' j = S j := fun j hj => if_neg hj
  have upeq : upS S i s' i = s' := if_pos rfl
  have own : x'.ds[i]? = some d' := by rw [hds]; exact List.getElem?_set_self hi
  have get : ∀ (j : Nat) (e : Dd), j ≠ i → (x'.ds[j]? = some e ↔ x.ds[j]? = some e) := fun j e hj => by rw [hds, List.getElem?_set_ne (Ne.symm hj)]
  have L' := (I'.ds i d' own).lv hen
  rw [upeq] at L'
  refine ⟨?_, fun p hp2 => ?_, fun j e hj => ?_, fun j e hj => ?_, ?_⟩
  · obtain ⟨B, hB, hb⟩ := F.pot
    have hE := entE_upd (S := S) (S' := upS S i s') (d' := d') hi upne
    rw [entB_live h.ds h.en, upeq] at hE
    rw [← hds] at hE
    have hB3 := hB.one h.inv.tok
    rcases E.2 with ⟨rfl, e1, -, rfl⟩ | ⟨p, N, A, C, hlv, hpg, rfl, rfl⟩
    · refine ⟨B, hB, ?_⟩
      rw [e1] at hE
      simp only [hen, true_and] at hE
      omega
    · have hP := A.pot C h.inv.tok hB
      have hcr : crwB (t.nd p) (S i) = true := (pgsN_le (t.nd p) (S i)).2.2.1.1 (by omega)
      have hk2 : (S i).kd = 2 := (crowd_len C.i hcr).2.2.2
      have hdk : d.k = 2 := by rw [← L.kd]; exact hk2
      have hpos : 0 < (enS (t.nd p) (S i)).lv := by show 0 < (S i).lv + 1; omega
      rw [if_pos (show d'.en = false ∧ 0 < (enS (t.nd p) (S i)).lv from ⟨hen, hpos⟩)] at hE
      by_cases hl : (S i).lv = 0
      · rw [if_neg (by omega)] at hE
        refine ⟨B - 1, hP.1 (by omega) hpg _ (by omega), ?_⟩
        rw [if_pos hl, cnt2_snoc, if_pos hdk]
        omega
      · rw [if_pos (by omega)] at hE
        refine ⟨B, hP.2.2.2.1 (by omega) hpg, ?_⟩
        rw [if_neg hl]
        omega
  · rw [hU] at hp2
    have mine : (p : Int) ∈ s'.sp → t'.inn p ∨ ∃ (j : Nat) (e : Dd), x'.ds[j]? = some e ∧ e.k = 2 ∧ (p : Int) ∈ (upS S i s' j).sp := fun hm => by
      refine Or.inr ⟨i, d', own, ?_, by rw [upeq]; exact hm⟩
      rcases L'.ok.spk with e | e
      · rw [← L'.kd]; exact e
      · rw [e] at hm; cases hm
    rcases E.1.1 p hp2 with h1 | h1
    · rcases F.use p h1 with h2 | ⟨j, e, h2, h3, h4⟩
      · exact Or.inl (gr.inn p h2)
      · by_cases e0 : j = i
        · subst e0
          rcases E.1.2 _ h4 with h5 | ⟨q, h5, h6⟩
          · exact mine h5
          · have : p = q := by omega
            subst this
            exact Or.inl h6
        · exact Or.inr ⟨j, e, (get j e e0).2 h2, h3, by rw [upne j e0]; exact h4⟩
    · exact mine h1
  · by_cases e0 : j = i
    · subst e0; rw [upeq]; exact L'.ok.sp2
    · rw [upne j e0]; exact F.sp2 j e ((get j e e0).1 hj)
  · by_cases e0 : j = i
    · subst e0
      rw [own] at hj
      cases hj
      rw [her, hk]
      rcases F.er _ d h.ds with h1 | h1
      · exact Or.inl h1
      · exact Or.inr ⟨h1.1, h1.2.1, hrf h1.2.2⟩
    · exact F.er j e ((get j e e0).1 hj)
  · rw [hp, hds, cntP_set h.ds hk]; exact F.puts
theorem ful_fin {wt : Bool} {gw : Nat} {x x' : Wd} {t t' : Tre} {S : Nat → St} {o o' : List Dn} {c i : Nat} {d d' : Dd} {rf1 : Bool} {er : Int} {U' : List Bool} (h : Mov wt gw x t S o c i d) (F : FulX x t S o) (E : EvFin x t t' (S i) d rf1 er U' o o') (gr : Grows t t') (hds : x'.ds = x.ds.set i d') (hU : x'.U = U') (hp : x'.puts = x.puts) (hen : d'.en = true) (hk : d'.k = d.k) (her : d'.er = er) (hrf : d'.rf = rf1) : FulX x' t' (upS S i (S i)) o' := by
  have hi := (List.getElem?_eq_some_iff.1 h.ds).1
  have L := h.live
  have hlvb := L.ok.lvb
  have uS : ∀ j, upS S i (S i) j = S j := fun j => by
    unfold upS
    split
    · rename_i e; rw [e]
    · rfl
  have own : x'.ds[i]? = some d' := by rw [hds]; exact List.getElem?_set_self hi
  have get : ∀ (j : Nat) (e : Dd), j ≠ i → (x'.ds[j]? = some e ↔ x.ds[j]? = some e) := fun j e hj => by rw [hds, List.getElem?_set_ne (Ne.symm hj)]
  refine ⟨?_, fun p hp2 => ?_, fun j e hj => ?_, fun j e hj => ?_, ?_⟩
  · obtain ⟨B, hB, hb⟩ := F.pot
    have hE := entE_upd (S := S) (S' := upS S i (S i)) (d' := d') hi fun j _ => uS j
    rw [entB_live h.ds h.en, if_neg (show ¬ (d'.en = false ∧ 0 < (upS S i (S i) i).lv) from fun e => by rw [hen] at e; exact absurd e.1 (by decide)), ← hds] at hE
    rcases E.2.2 with ⟨rfl, -, ho⟩ | ⟨p, N, A, C, hlv, -, hpg, rfl⟩
    · refine ⟨B, hB, ?_⟩
      have : cnt2 o' = cnt2 o := by
        rcases ho with rfl | ⟨h3, rfl⟩
        · rfl
        · rw [cnt2_snoc, if_neg (by show ¬ d.k = 2; omega)]; rfl
      rw [this]
      omega
    · have hP := A.pot C h.inv.tok hB
      by_cases hl : (S i).lv = 0
      · rw [if_neg (by omega)] at hE
        rw [if_pos hl, cnt2_snoc]
        rcases C.i.kd with h2 | h3
        · have hdk : d.k = 2 := by rw [← L.kd]; exact h2
          refine ⟨B + 2, hP.2.1 (by omega), ?_⟩
          rw [if_pos hdk]
          omega
        · have hdk : d.k = 3 := by rw [← L.kd]; exact h3
          refine ⟨B, hP.2.2.1 (by omega) (Or.inr h3), ?_⟩
          rw [if_neg (by show ¬ d.k = 2; omega)]
          omega
      · rw [if_pos (by omega)] at hE
        refine ⟨B + 4, hP.2.2.2.2 (by omega), ?_⟩
        rw [if_neg hl]
        omega
  · rw [hU, E.1] at hp2
    rcases F.use p hp2 with h2 | ⟨j, e, h2, h3, h4⟩
    · exact Or.inl (gr.inn p h2)
    · by_cases e0 : j = i
      · subst e0
        rw [h.ds] at h2
        cases h2
        exact Or.inr ⟨j, d', own, by rw [hk]; exact h3, by rw [uS]; exact h4⟩
      · exact Or.inr ⟨j, e, (get j e e0).2 h2, h3, by rw [uS]; exact h4⟩
  · rw [uS]
    by_cases e0 : j = i
    · subst e0; exact F.sp2 j d h.ds
    · exact F.sp2 j e ((get j e e0).1 hj)
  · by_cases e0 : j = i
    · subst e0
      rw [own] at hj
      cases hj
      rw [her, hk, hrf]
      exact E.2.1
    · exact F.er j e ((get j e e0).1 hj)
  · rw [hp, hds, cntP_set h.ds hk]; exact F.puts
theorem FulX.begun {x : Wd} {t : Tre} {S : Nat → St} {o : List Dn} (F : FulX x t S o) (x' : Wd) (gd kg kc : Nat) (k key v : Int) (f : ByteArray) (hds : x'.ds = x.ds ++ [Dd.new gd kg kc k key v f]) (hU : x'.U = x.U) (hp : x'.puts = pu k x.puts) : FulX x' t (upS S x.ds.length (bgS k key v)) o := by
  have upne : ∀ j, j < x.ds.length → upS S x.ds.length (bgS k key v) j = S j := fun j hj => if_neg (by omega)
  have upeq : upS S x.ds.length (bgS k key v) x.ds.length = bgS k key v := if_pos rfl
  have get : ∀ (i : Nat) (d : Dd), x'.ds[i]? = some d → (i < x.ds.length ∧ x.ds[i]? = some d) ∨ (i = x.ds.length ∧ d = Dd.new gd kg kc k key v f) := fun i d hd => by
    rw [hds] at hd
    rcases Nat.lt_trichotomy i x.ds.length with hi | hi | hi
    · rw [List.getElem?_append_left hi] at hd; exact Or.inl ⟨hi, hd⟩
    · rw [List.getElem?_append_right (by omega), hi, Nat.sub_self] at hd
      cases hd
      exact Or.inr ⟨hi, rfl⟩
    · rw [List.getElem?_eq_none (by rw [List.length_append, List.length_singleton]; omega)] at hd
      cases hd
  refine ⟨?_, fun p hp2 => ?_, fun i d hd => ?_, fun i d hd => ?_, ?_⟩
  · obtain ⟨B, hB, hb⟩ := F.pot
    refine ⟨B, hB, ?_⟩
    have e : entE (upS S x.ds.length (bgS k key v)) x'.ds = entE S x.ds := by
      unfold entE
      rw [hds, List.length_append, List.length_singleton]
      show sumN _ x.ds.length + entB _ _ x.ds.length = _
      have e1 : entB (upS S x.ds.length (bgS k key v)) (x.ds ++ [Dd.new gd kg kc k key v f]) x.ds.length = 0 := by
        unfold entB
        rw [List.getElem?_append_right (Nat.le_refl _), Nat.sub_self, upeq]; rfl
      rw [e1, Nat.add_zero]
      refine sumN_congr fun q hq => ?_
      unfold entB
      rw [List.getElem?_append_left hq, upne q hq]
    rw [e]; exact hb
  · rw [hU] at hp2
    rcases F.use p hp2 with h2 | ⟨j, e, h2, h3, h4⟩
    · exact Or.inl h2
    · have hj := (List.getElem?_eq_some_iff.1 h2).1
      exact Or.inr ⟨j, e, by rw [hds, List.getElem?_append_left hj]; exact h2, h3, by rw [upne j hj]; exact h4⟩
  · rcases get i d hd with ⟨hi, hd2⟩ | ⟨hi, rfl⟩
    · rw [upne i hi]; exact F.sp2 i d hd2
    · rw [hi, upeq]; exact Nat.zero_le _
  · rcases get i d hd with ⟨hi, hd2⟩ | ⟨hi, rfl⟩
    · exact F.er i d hd2
    · exact Or.inl rfl
  · rw [hp, hds, F.puts]
    unfold cntP pu
    rw [List.filter_append, List.length_append, List.filter_cons]
    show _ = (((x.ds.filter fun d => decide (d.k = 2)).length + (if decide (k = 2) = true then [Dd.new gd kg kc k key v f] else []).length : Nat) : Int)
    by_cases h : k = 2
    · rw [if_pos h, if_pos (by simp [h])]; simp
    · rw [if_neg h, if_neg (by simp [h])]; simp
theorem FulX.first (gw tg tc ug uc vg vc bg bc : Nat) (S : Nat → St) : FulX (Wd.first gw tg tc ug uc vg vc bg bc) Tre.one S [] := by
  refine ⟨⟨3, ⟨fun q => if q = 0 then 3 else 0, fun p hp => ?_, ?_⟩, ?_⟩, fun p hp => ?_, fun i d hd => (by cases hd), fun i d hd => (by cases hd), rfl⟩
  · have e : p = 0 := hp
    subst e
    exact Nat.le_refl _
  · have h1 := sumN_upd (fun _ => 0) 0 3 64 (by omega)
    have h2 : ∀ n, sumN (fun _ => 0) n = 0 := fun n => by
      induction n with
      | zero => rfl
      | succ n ih => unfold sumN; rw [ih]
    rw [h2] at h1
    have h3 : sumN (fun q => if q = 0 then 3 else 0) 64 + 0 = 0 + 3 := h1
    omega
  · exact Nat.le_refl _
  · cases p with
    | zero => exact Or.inl rfl
    | succ p =>
      replace hp : (List.replicate 63 false)[p]? = some true := hp
      rw [List.getElem?_replicate] at hp
      split at hp
      · cases hp
      · cases hp
theorem nodup_subN {l l' : List Nat} (hn : l.Nodup) (h : ∀ a ∈ l, a ∈ l') : l.length ≤ l'.length := by
  induction l generalizing l' with
  | nil => exact Nat.zero_le _
  | cons a r ih =>
    obtain ⟨h1, h2⟩ := List.nodup_cons.1 hn
    have ha := h a (by simp)
    have h3 := ih (l' := l'.erase a) h2 fun b hb => (List.mem_erase_of_ne (show b ≠ a from fun e => h1 (e ▸ hb))).2 (h b (by simp [hb]))
    rw [List.length_erase, if_pos ha] at h3
    have := List.length_pos_of_mem ha
    rw [List.length_cons]; omega
theorem cntP_succ (ds : List Dd) (n : Nat) : cntP (ds.take (n + 1)) = cntP (ds.take n) + (match ds[n]? with | some d => if d.k = 2 then 1 else 0 | none => 0) := by
  unfold cntP
  rw [List.take_add_one, List.filter_append, List.length_append]
  congr 1
  cases ds[n]? with
  | none => rfl
  | some d =>
    show (List.filter _ [d]).length = if d.k = 2 then 1 else 0
    rw [List.filter_cons]
    by_cases h : d.k = 2
    · rw [if_pos (by simp [h]), if_pos h]; rfl
    · rw [if_neg (by simp [h]), if_neg h]; rfl
theorem eff_k {s : St} {d : Dd} {e : Dn} (h : effD s d = some e) : e.k = d.k := by
  unfold effD at h
  split at h
  · unfold tkD at h
    split at h
    · cases h; rfl
    · cases h
  · split at h
    · cases h; rfl
    · cases h
theorem cnt2_effs (S : Nat → St) (ds : List Dd) (n : Nat) : cnt2 ((List.range n).filterMap (effA S ds)) ≤ cntP (ds.take n) := by
  induction n with
  | zero => exact Nat.le_refl _
  | succ n ih =>
    rw [List.range_succ, List.filterMap_append, cntP_succ]
    have e : List.filterMap (effA S ds) [n] = (effA S ds n).toList := by
      rw [List.filterMap_cons]
      cases effA S ds n <;> rfl
    rw [e]
    cases h : effA S ds n with
    | none =>
      show cnt2 (_ ++ []) ≤ _
      rw [List.append_nil]; omega
    | some x =>
      show cnt2 (_ ++ [x]) ≤ _
      rw [cnt2_snoc]
      unfold effA at h
      cases hd : ds[n]? with
      | none => rw [hd] at h; cases h
      | some d =>
        rw [hd] at h
        have hk := eff_k (s := S n) (d := d) h
        rw [hk]
        show _ ≤ _ + (if d.k = 2 then 1 else 0)
        omega
theorem spares_le (S : Nat → St) (ds : List Dd) (h : ∀ (i : Nat) (d : Dd), ds[i]? = some d → (S i).sp.length ≤ 2) (n : Nat) : ((List.range n).flatMap fun i => match ds[i]? with | some d => if d.k = 2 then (S i).sp.map Int.toNat else [] | none => []).length ≤ 2 * cntP (ds.take n) := by
  induction n with
  | zero => exact Nat.le_refl _
  | succ n ih =>
    rw [List.range_succ, List.flatMap_append, List.length_append, cntP_succ]
    have e : ([n].flatMap fun i => match ds[i]? with | some d => if d.k = 2 then (S i).sp.map Int.toNat else [] | none => []) = (match ds[n]? with | some d => if d.k = 2 then (S n).sp.map Int.toNat else [] | none => []) := by
      rw [List.flatMap_cons, List.flatMap_nil, List.append_nil]
    rw [e]
    cases hd : ds[n]? with
    | none => show _ + ([] : List Nat).length ≤ 2 * (_ + 0); rw [List.length_nil]; omega
    | some d =>
      have h2 := h n d hd
      show _ + (if d.k = 2 then (S n).sp.map Int.toNat else []).length ≤ 2 * (_ + if d.k = 2 then 1 else 0)
      by_cases hk : d.k = 2
      · rw [if_pos hk, if_pos hk, List.length_map]; omega
      · rw [if_neg hk, if_neg hk, List.length_nil]; omega
theorem FulX.pages {wt : Bool} {gw : Nat} {x : Wd} {t : Tre} {S : Nat → St} {o : List Dn} (h : Inv wt gw x t S o) (F : FulX x t S o) {A : List Nat} (hn : A.Nodup) (hA : ∀ p ∈ A, x.U[p]? = some true) : (A.length : Int) ≤ 1 + 3 * x.puts := by
  classical
  obtain ⟨B, hB, hb⟩ := F.pot
  have hsplit : A.length = (A.filter fun p => decide (t.inn p)).length + (A.filter fun p => !decide (t.inn p)).length := by
    have := List.length_eq_countP_add_countP (fun p => decide (t.inn p)) (l := A)
    rw [List.countP_eq_length_filter, List.countP_eq_length_filter] at this
    rw [this]
    congr 2
    refine List.filter_congr fun q _ => ?_
    simp
  have h1 := hB.pages h.tok (A := A.filter fun p => decide (t.inn p)) (hn.filter _) fun p hp => by simpa using (List.mem_filter.1 hp).2
  have h2 : cnt2 o ≤ cntP x.ds := by
    have e : cnt2 o = cnt2 (effs S x.ds) := by unfold cnt2; exact (h.op.filter _).length_eq
    have := cnt2_effs S x.ds x.ds.length
    rw [List.take_length] at this
    rw [e]; exact this
  have h3 := spares_le S x.ds F.sp2 x.ds.length
  rw [List.take_length] at h3
  have h4 := nodup_subN (l := A.filter fun p => !decide (t.inn p)) (hn.filter _) (l' := (List.range x.ds.length).flatMap fun i => match x.ds[i]? with | some d => if d.k = 2 then (S i).sp.map Int.toNat else [] | none => []) fun p hp => by
    obtain ⟨hp1, hp2⟩ := List.mem_filter.1 hp
    have hni : ¬ t.inn p := by simpa using hp2
    rcases F.use p (hA p hp1) with h5 | ⟨i, d, h5, h6, h7⟩
    · exact absurd h5 hni
    · refine List.mem_flatMap.2 ⟨i, List.mem_range.2 (List.getElem?_eq_some_iff.1 h5).1, ?_⟩
      rw [h5]
      show p ∈ if d.k = 2 then (S i).sp.map Int.toNat else []
      rw [if_pos h6]
      exact List.mem_map.2 ⟨_, h7, by omega⟩
  have h5 := F.puts
  omega
end Go.Proofs.YtajobgmnmbnhiaaGreatDoor.Sap
