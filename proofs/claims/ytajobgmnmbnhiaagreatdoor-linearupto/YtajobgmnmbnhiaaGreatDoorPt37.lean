/- WHAT IS PROVED HERE: plain facts on trees of pages that are linked to the right: which pages are in the tree, from which key on each is, what holds of them (Tre.Ok), and that it goes on holding when a node is written anew, when a node is split, and when the root grows (no program's function is walked). Conditions: none but those named at each theorem. -/
import Derived.Test.YtajobgmnmbnhiaaGreatDoorPt12
namespace Go.Proofs.YtajobgmnmbnhiaaGreatDoor.Sap
open Go.RowKit
def ent (n : Nd) : List (Int × Int) := n.ks.zip n.vs
structure Tre where
  nd : Nat → Nd
  inn : Nat → Prop
  low : Nat → Int
def Tre.kid (t : Tre) (l : Int) (e : Int × Int) : Prop := ∃ q : Nat, e.2 = (q : Int) ∧ t.inn q ∧ t.low q = e.1 ∧ (t.nd q).lv + 1 = l
structure Tre.Ok (t : Tre) : Prop where
  rt : ∀ p, t.inn p → rightB (t.nd p) = true
  lt : ∀ p, t.inn p → p < 64
  r0 : t.inn 0
  l0 : t.low 0 = 0
  h0 : (t.nd 0).hi = 10000
  top : ∀ p, t.inn p → p ≠ 0 → (t.nd p).lv < (t.nd 0).lv
  lo : ∀ p, t.inn p → 0 ≤ t.low p ∧ t.low p < (t.nd p).hi
  ks : ∀ p, t.inn p → ∀ k ∈ (t.nd p).ks, t.low p ≤ k
  fst : ∀ p, t.inn p → 0 < (t.nd p).lv → (t.nd p).ks.head? = some (t.low p)
  lnk : ∀ p, t.inn p → (t.nd p).hi ≠ 10000 → ∃ q : Nat, (t.nd p).lk = (q : Int) ∧ t.inn q ∧ t.low q = (t.nd p).hi ∧ (t.nd q).lv = (t.nd p).lv
  chd : ∀ p, t.inn p → 0 < (t.nd p).lv → ∀ e ∈ ent (t.nd p), t.kid (t.nd p).lv e
  dis : ∀ p q, t.inn p → t.inn q → (t.nd p).lv = (t.nd q).lv → p ≠ q → (t.nd p).hi ≤ t.low q ∨ (t.nd q).hi ≤ t.low p
  prd : ∀ p, t.inn p → 0 < t.low p → ∃ q, t.inn q ∧ (t.nd q).lv = (t.nd p).lv ∧ (t.nd q).hi = t.low p
structure Grows (t t' : Tre) : Prop where
  inn : ∀ p, t.inn p → t'.inn p
  low : ∀ p, t.inn p → t'.low p = t.low p
  lv : ∀ p, t.inn p → (t.nd p).lv ≤ (t'.nd p).lv
  lvE : ∀ p, t.inn p → p ≠ 0 → (t'.nd p).lv = (t.nd p).lv
theorem Grows.refl (t : Tre) : Grows t t := ⟨fun _ h => h, fun _ _ => rfl, fun _ _ => Int.le_refl _, fun _ _ _ => rfl⟩
theorem Grows.trans {t t' t'' : Tre} (h : Grows t t') (k : Grows t' t'') : Grows t t'' :=
  ⟨fun p hp => k.inn p (h.inn p hp), fun p hp => (k.low p (h.inn p hp)).trans (h.low p hp), fun p hp => Int.le_trans (h.lv p hp) (k.lv p (h.inn p hp)), fun p hp h0 => (k.lvE p (h.inn p hp) h0).trans (h.lvE p hp h0)⟩
theorem right_hi (n : Nd) (h : rightB n = true) : 1 ≤ n.hi ∧ n.hi ≤ 10000 ∧ (n.hi = 10000 ↔ n.lk = -1) ∧ (n.hi ≠ 10000 → 1 ≤ n.lk ∧ n.lk ≤ 63) := by
  rcases (right_bd n h).2.2.1 with ⟨h1, h2⟩ | ⟨h1, h2, h3, h4⟩
  · exact ⟨by omega, by omega, ⟨fun _ => h2, fun _ => h1⟩, fun h => absurd h1 h⟩
  · exact ⟨by omega, by omega, ⟨fun h => by omega, fun h => by omega⟩, fun _ => ⟨h3, h4⟩⟩
theorem right_kb (n : Nd) (h : rightB n = true) : ∀ k ∈ n.ks, 0 ≤ k ∧ k < n.hi := by
  unfold rightB at h
  simp only [Bool.and_eq_true, decide_eq_true_eq] at h
  intro k hk
  have h1 := keysOk_all _ _ _ h.2.2.2.2.2.1 k hk
  refine ⟨?_, h1.2⟩
  have : 0 ≤ least n.lv := by unfold least; split <;> omega
  omega
theorem right_pw (n : Nd) (h : rightB n = true) : n.ks.Pairwise (· < ·) := by
  unfold rightB at h
  simp only [Bool.and_eq_true, decide_eq_true_eq] at h
  exact keysOk_pair _ _ _ h.2.2.2.2.2.1
theorem ent_key {n : Nd} {e : Int × Int} (h : e ∈ ent n) : e.1 ∈ n.ks ∧ e.2 ∈ n.vs := List.of_mem_zip h
def Tre.put (t : Tre) (p : Nat) (n : Nd) : Tre := { t with nd := fun q => if q = p then n else t.nd q }
theorem Tre.put_self (t : Tre) (p : Nat) (n : Nd) : (t.put p n).nd p = n := if_pos rfl
theorem Tre.put_ne (t : Tre) {p q : Nat} (n : Nd) (h : q ≠ p) : (t.put p n).nd q = t.nd q := if_neg h
theorem Tre.put_fld {α : Type} (f : Nd → α) (t : Tre) (p : Nat) (n : Nd) (h : f n = f (t.nd p)) (q : Nat) : f ((t.put p n).nd q) = f (t.nd q) := by
  by_cases e : q = p
  · subst e; rw [t.put_self]; exact h
  · rw [t.put_ne n e]
structure Tre.PutOk (t : Tre) (p : Nat) (n : Nd) : Prop where
  inn : t.inn p
  lv : n.lv = (t.nd p).lv
  lk : n.lk = (t.nd p).lk
  hi : n.hi = (t.nd p).hi
  rt : rightB n = true
  ks : ∀ k ∈ n.ks, t.low p ≤ k
  fst : 0 < n.lv → n.ks.head? = some (t.low p)
  chd : 0 < n.lv → ∀ e ∈ ent n, t.kid n.lv e
theorem Tre.Ok.put {t : Tre} (h : t.Ok) {p : Nat} {n : Nd} (k : t.PutOk p n) : (t.put p n).Ok ∧ Grows t (t.put p n) := by
  have elv := t.put_fld Nd.lv p n k.lv
  have ehi := t.put_fld Nd.hi p n k.hi
  have elk := t.put_fld Nd.lk p n k.lk
  have kd : ∀ l e, t.kid l e → (t.put p n).kid l e := fun l e ⟨q, h1, h2, h3, h4⟩ => ⟨q, h1, h2, h3, by rw [elv]; exact h4⟩
  refine ⟨⟨fun q hq => ?_, h.lt, h.r0, h.l0, by rw [ehi]; exact h.h0, fun q hq h0 => by rw [elv, elv]; exact h.top q hq h0, fun q hq => by rw [ehi]; exact h.lo q hq, fun q hq => ?_, fun q hq h0 => ?_, fun q hq hh => ?_, fun q hq h0 => ?_, fun a b ha hb he hne => by rw [ehi, ehi]; rw [elv, elv] at he; exact h.dis a b ha hb he hne, fun q hq hl => ?_⟩, ⟨fun _ h => h, fun _ _ => rfl, fun q _ => by rw [elv]; omega, fun q _ _ => elv q⟩⟩
  · by_cases e : q = p
    · subst e; rw [t.put_self]; exact k.rt
    · rw [t.put_ne n e]; exact h.rt q hq
  · by_cases e : q = p
    · subst e; rw [t.put_self]; exact k.ks
    · rw [t.put_ne n e]; exact h.ks q hq
  · rw [elv] at h0
    by_cases e : q = p
    · subst e; rw [t.put_self]; exact k.fst (by rw [k.lv]; exact h0)
    · rw [t.put_ne n e]; exact h.fst q hq h0
  · rw [ehi] at hh
    obtain ⟨r, h1, h2, h3, h4⟩ := h.lnk q hq hh
    exact ⟨r, by rw [elk]; exact h1, h2, by rw [ehi]; exact h3, by rw [elv, elv]; exact h4⟩
  · rw [elv] at h0
    by_cases e : q = p
    · subst e
      intro x hx
      rw [t.put_self] at hx ⊢
      exact kd _ _ (k.chd (by rw [k.lv]; exact h0) x hx)
    · intro x hx
      rw [t.put_ne n e] at hx ⊢
      exact kd _ _ (h.chd q hq h0 x hx)
  · obtain ⟨r, h1, h2, h3⟩ := h.prd q hq hl
    exact ⟨r, h1, by rw [elv, elv]; exact h2, by rw [ehi]; exact h3⟩
def Tre.split (t : Tre) (p r : Nat) (a b : Nd) (mid : Int) : Tre :=
  ⟨fun q => if q = r then b else if q = p then a else t.nd q, fun q => t.inn q ∨ q = r, fun q => if q = r then mid else t.low q⟩
structure Tre.SplitOk (t : Tre) (p r : Nat) (a b : Nd) (mid : Int) : Prop where
  p0 : p ≠ 0
  inn : t.inn p
  new : ¬ t.inn r
  r64 : r < 64
  lva : a.lv = (t.nd p).lv
  lvb : b.lv = (t.nd p).lv
  lka : a.lk = (r : Int)
  hia : a.hi = mid
  lkb : b.lk = (t.nd p).lk
  hib : b.hi = (t.nd p).hi
  m1 : t.low p < mid
  m2 : mid < (t.nd p).hi
  rta : rightB a = true
  rtb : rightB b = true
  ksa : ∀ k ∈ a.ks, t.low p ≤ k
  ksb : ∀ k ∈ b.ks, mid ≤ k
  fsa : 0 < a.lv → a.ks.head? = some (t.low p)
  fsb : 0 < b.lv → b.ks.head? = some mid
  cha : 0 < a.lv → ∀ e ∈ ent a, t.kid a.lv e
  chb : 0 < b.lv → ∀ e ∈ ent b, t.kid b.lv e
theorem Tre.Ok.split {t : Tre} (h : t.Ok) {p r : Nat} {a b : Nd} {mid : Int} (k : t.SplitOk p r a b mid) : (t.split p r a b mid).Ok ∧ Grows t (t.split p r a b mid) := by
  have hrp : r ≠ p := fun e => k.new (e ▸ k.inn)
  have nr : (t.split p r a b mid).nd r = b := if_pos rfl
  have np : (t.split p r a b mid).nd p = a := by show (if p = r then b else if p = p then a else t.nd p) = a; rw [if_neg (fun e => hrp e.symm), if_pos rfl]
  have no : ∀ q, q ≠ r → q ≠ p → (t.split p r a b mid).nd q = t.nd q := fun q h1 h2 => by show (if q = r then b else if q = p then a else t.nd q) = t.nd q; rw [if_neg h1, if_neg h2]
  have lr : (t.split p r a b mid).low r = mid := if_pos rfl
  have lno : ∀ q, q ≠ r → (t.split p r a b mid).low q = t.low q := fun q h1 => if_neg h1
  have ne : ∀ q, t.inn q → q ≠ r := fun q hq e => k.new (e ▸ hq)
  have r0 : r ≠ 0 := fun e => k.new (e ▸ h.r0)
  have elv : ∀ q, t.inn q → ((t.split p r a b mid).nd q).lv = (t.nd q).lv := fun q hq => by
    by_cases e : q = p
    · subst e; rw [np, k.lva]
    · rw [no q (ne q hq) e]
  have n0 : (t.split p r a b mid).nd 0 = t.nd 0 := no 0 (Ne.symm r0) (Ne.symm k.p0)
  have kd : ∀ l e, t.kid l e → (t.split p r a b mid).kid l e := fun l e ⟨q, h1, h2, h3, h4⟩ => ⟨q, h1, Or.inl h2, by rw [lno q (ne q h2)]; exact h3, by rw [elv q h2]; exact h4⟩
  have hlo := h.lo p k.inn
  have hm1 := k.m1
  have hm2 := k.m2
  refine ⟨⟨fun q hq => ?_, fun q hq => ?_, Or.inl h.r0, ?_, by rw [n0]; exact h.h0, fun q hq h0 => ?_, fun q hq => ?_, fun q hq => ?_, fun q hq h0 => ?_, fun q hq hh => ?_, fun q hq h0 => ?_, fun x y hx hy he hne => ?_, fun q hq hl => ?_⟩, ⟨fun _ h => Or.inl h, fun q hq => lno q (ne q hq), fun q hq => by rw [elv q hq]; omega, fun q hq _ => elv q hq⟩⟩
  · rcases hq with hq | rfl
    · by_cases e : q = p
      · subst e; rw [np]; exact k.rta
      · rw [no q (ne q hq) e]; exact h.rt q hq
    · rw [nr]; exact k.rtb
  · rcases hq with hq | rfl
    · exact h.lt q hq
    · exact k.r64
  · rw [lno 0 (Ne.symm r0)]; exact h.l0
  · rw [n0]
    rcases hq with hq | rfl
    · rw [elv q hq]; exact h.top q hq h0
    · rw [nr, k.lvb]; exact h.top p k.inn k.p0
  · rcases hq with hq | rfl
    · rw [lno q (ne q hq)]
      by_cases e : q = p
      · subst e; rw [np, k.hia]; exact ⟨hlo.1, k.m1⟩
      · rw [no q (ne q hq) e]; exact h.lo q hq
    · rw [nr, lr, k.hib]; omega
  · rcases hq with hq | rfl
    · rw [lno q (ne q hq)]
      by_cases e : q = p
      · subst e; rw [np]; exact k.ksa
      · rw [no q (ne q hq) e]; exact h.ks q hq
    · rw [nr, lr]; exact k.ksb
  · rcases hq with hq | rfl
    · rw [elv q hq] at h0
      rw [lno q (ne q hq)]
      by_cases e : q = p
      · subst e; rw [np]; exact k.fsa (by rw [k.lva]; exact h0)
      · rw [no q (ne q hq) e]; exact h.fst q hq h0
    · rw [nr] at h0 ⊢; rw [lr]; exact k.fsb h0
  · rcases hq with hq | rfl
    · by_cases e : q = p
      · subst e
        exact ⟨r, by rw [np]; exact k.lka, Or.inr rfl, by rw [lr, np, k.hia], by rw [nr, np, k.lva, k.lvb]⟩
      · rw [no q (ne q hq) e] at hh ⊢
        obtain ⟨s, h1, h2, h3, h4⟩ := h.lnk q hq hh
        exact ⟨s, h1, Or.inl h2, by rw [lno s (ne s h2)]; exact h3, by rw [elv s h2]; exact h4⟩
    · rw [nr] at hh ⊢
      rw [k.hib] at hh
      obtain ⟨s, h1, h2, h3, h4⟩ := h.lnk p k.inn hh
      exact ⟨s, by rw [k.lkb]; exact h1, Or.inl h2, by rw [lno s (ne s h2), k.hib]; exact h3, by rw [elv s h2, k.lvb]; exact h4⟩
  · rcases hq with hq | rfl
    · rw [elv q hq] at h0
      intro x hx
      by_cases e : q = p
      · subst e; rw [np] at hx ⊢; exact kd _ _ (k.cha (by rw [k.lva]; exact h0) x hx)
      · rw [no q (ne q hq) e] at hx ⊢; exact kd _ _ (h.chd q hq h0 x hx)
    · intro x hx
      rw [nr] at h0 hx ⊢
      exact kd _ _ (k.chb h0 x hx)
  · -- two nodes of a level do not meet
    have key : ∀ x, t.inn x → x ≠ p → (t.nd x).lv = (t.nd p).lv → (t.nd x).hi ≤ t.low p ∨ (t.nd p).hi ≤ t.low x := fun x hx e he => h.dis x p hx k.inn he e
    rcases hx with hx | rfl
    · rcases hy with hy | rfl
      · rw [elv x hx, elv y hy] at he
        rw [lno x (ne x hx), lno y (ne y hy)]
        by_cases e1 : x = p
        · subst e1
          rw [np, k.hia, no y (ne y hy) (Ne.symm hne)]
          rcases key y hy (Ne.symm hne) he.symm with h1 | h1
          · right; exact h1
          · left; omega
        · rw [no x (ne x hx) e1]
          by_cases e2 : y = p
          · subst e2
            rw [np, k.hia]
            rcases key x hx e1 he with h1 | h1
            · left; exact h1
            · right; omega
          · rw [no y (ne y hy) e2]
            exact h.dis x y hx hy he hne
      · rw [elv x hx, nr, k.lvb] at he
        rw [lno x (ne x hx), lr, nr, k.hib]
        by_cases e1 : x = p
        · subst e1; rw [np, k.hia]; left; omega
        · rw [no x (ne x hx) e1]
          rcases key x hx e1 he with h1 | h1
          · left; omega
          · right; exact h1
    · rcases hy with hy | rfl
      · rw [elv y hy, nr, k.lvb] at he
        rw [lno y (ne y hy), lr, nr, k.hib]
        by_cases e1 : y = p
        · subst e1; rw [np, k.hia]; right; omega
        · rw [no y (ne y hy) e1]
          rcases key y hy e1 he.symm with h1 | h1
          · right; omega
          · left; exact h1
      · exact absurd rfl hne
  · rcases hq with hq | rfl
    · rw [lno q (ne q hq)] at hl ⊢
      obtain ⟨s, h1, h2, h3⟩ := h.prd q hq hl
      by_cases e : s = p
      · subst e
        exact ⟨r, Or.inr rfl, by rw [nr, k.lvb, elv q hq]; exact h2, by rw [nr, k.hib]; exact h3⟩
      · exact ⟨s, Or.inl h1, by rw [elv s h1, elv q hq]; exact h2, by rw [no s (ne s h1) e]; exact h3⟩
    · exact ⟨p, Or.inl k.inn, by rw [np, nr, k.lva, k.lvb], by rw [np, lr, k.hia]⟩
def Tre.lift (t : Tre) (l : Nat) : Tre :=
  ⟨fun q => if q = l then t.nd 0 else if q = 0 then ⟨(t.nd 0).lv + 1, -1, 10000, [0], [(l : Int)]⟩ else t.nd q, fun q => t.inn q ∨ q = l, fun q => if q = l then 0 else t.low q⟩
theorem Tre.Ok.lift {t : Tre} (h : t.Ok) {l : Nat} (hl : ¬ t.inn l) (l64 : l < 64) (h9 : (t.nd 0).lv < 9) : (t.lift l).Ok ∧ Grows t (t.lift l) := by
  have l0 : l ≠ 0 := fun e => hl (e ▸ h.r0)
  have ne : ∀ q, t.inn q → q ≠ l := fun q hq e => hl (e ▸ hq)
  have nl : (t.lift l).nd l = t.nd 0 := if_pos rfl
  have n0 : (t.lift l).nd 0 = ⟨(t.nd 0).lv + 1, -1, 10000, [0], [(l : Int)]⟩ := by show (if 0 = l then _ else if 0 = 0 then _ else _) = _; rw [if_neg (Ne.symm l0), if_pos rfl]
  have no : ∀ q, q ≠ l → q ≠ 0 → (t.lift l).nd q = t.nd q := fun q h1 h2 => by show (if q = l then _ else if q = 0 then _ else t.nd q) = _; rw [if_neg h1, if_neg h2]
  have ll : (t.lift l).low l = 0 := if_pos rfl
  have lno : ∀ q, q ≠ l → (t.lift l).low q = t.low q := fun q h1 => if_neg h1
  have lv0 : ((t.lift l).nd 0).lv = (t.nd 0).lv + 1 := by rw [n0]
  have elv : ∀ q, t.inn q → q ≠ 0 → ((t.lift l).nd q).lv = (t.nd q).lv := fun q hq e => by rw [no q (ne q hq) e]
  have hr0 := right_bd (t.nd 0) (h.rt 0 h.r0)
  have ne0 : ∀ q, t.inn q → (t.nd q).lv < (t.nd 0).lv → q ≠ 0 := fun q _ h1 e => by subst e; omega
  have kd : ∀ li e, li ≤ (t.nd 0).lv → t.kid li e → (t.lift l).kid li e := fun li e hle ⟨q, h1, h2, h3, h4⟩ => by
    have hq0 : q ≠ 0 := ne0 q h2 (by omega)
    exact ⟨q, h1, Or.inl h2, by rw [lno q (ne q h2)]; exact h3, by rw [elv q h2 hq0]; exact h4⟩
  have lvle : ∀ q, t.inn q → (t.nd q).lv ≤ (t.nd 0).lv := fun q hq => by
    by_cases e : q = 0
    · subst e; omega
    · have := h.top q hq e; omega
  refine ⟨⟨fun q hq => ?_, fun q hq => ?_, Or.inl h.r0, ?_, by rw [n0], fun q hq h0 => ?_, fun q hq => ?_, fun q hq => ?_, fun q hq h0 => ?_, fun q hq hh => ?_, fun q hq h0 => ?_, fun x y hx hy he hne => ?_, fun q hq hlo => ?_⟩, ⟨fun _ h => Or.inl h, fun q hq => lno q (ne q hq), fun q hq => ?_, fun q hq h0 => elv q hq h0⟩⟩
  · rcases hq with hq | rfl
    · by_cases e : q = 0
      · subst e
        rw [n0]
        have hlv := hr0.1
        unfold rightB endOk cntOk
        have e1 : ¬ ((t.nd 0).lv + 1 = 0) := by omega
        simp only [if_neg e1, keysOk, valsOk, valOk, pageOk, least]
        simp
        omega
      · rw [no q (ne q hq) e]; exact h.rt q hq
    · rw [nl]; exact h.rt 0 h.r0
  · rcases hq with hq | rfl
    · exact h.lt q hq
    · exact l64
  · rw [lno 0 (Ne.symm l0)]; exact h.l0
  · rw [lv0]
    rcases hq with hq | rfl
    · rw [elv q hq h0]; have := h.top q hq h0; omega
    · rw [nl]; omega
  · rcases hq with hq | rfl
    · rw [lno q (ne q hq)]
      by_cases e : q = 0
      · subst e; rw [n0, h.l0]; exact ⟨Int.le_refl _, show (0 : Int) < 10000 by decide⟩
      · rw [no q (ne q hq) e]; exact h.lo q hq
    · rw [nl, ll]; have := h.lo 0 h.r0; rw [h.l0] at this; exact this
  · rcases hq with hq | rfl
    · rw [lno q (ne q hq)]
      by_cases e : q = 0
      · subst e; rw [n0, h.l0]; intro k hk; rw [List.mem_singleton] at hk; omega
      · rw [no q (ne q hq) e]; exact h.ks q hq
    · rw [nl, ll]; have := h.ks 0 h.r0; rw [h.l0] at this; exact this
  · rcases hq with hq | rfl
    · rw [lno q (ne q hq)]
      by_cases e : q = 0
      · subst e; rw [n0, h.l0]; rfl
      · rw [no q (ne q hq) e] at h0 ⊢; exact h.fst q hq h0
    · rw [nl] at h0 ⊢; rw [ll]; have := h.fst 0 h.r0 h0; rw [h.l0] at this; exact this
  · rcases hq with hq | rfl
    · by_cases e : q = 0
      · subst e; rw [n0] at hh; exact absurd rfl hh
      · rw [no q (ne q hq) e] at hh ⊢
        obtain ⟨s, h1, h2, h3, h4⟩ := h.lnk q hq hh
        have hs0 : s ≠ 0 := ne0 s h2 (by have := h.top q hq e; omega)
        exact ⟨s, h1, Or.inl h2, by rw [lno s (ne s h2)]; exact h3, by rw [elv s h2 hs0]; exact h4⟩
    · rw [nl, h.h0] at hh; exact absurd rfl hh
  · rcases hq with hq | rfl
    · by_cases e : q = 0
      · subst e
        intro x hx
        rw [n0] at hx ⊢
        have hx2 : x = (0, (l : Int)) := by simpa [ent] using hx
        subst hx2
        exact ⟨l, rfl, Or.inr rfl, ll, by rw [nl]⟩
      · rw [elv q hq e] at h0
        intro x hx
        rw [no q (ne q hq) e] at hx ⊢
        exact kd _ _ (lvle q hq) (h.chd q hq h0 x hx)
    · intro x hx
      rw [nl] at h0 hx ⊢
      exact kd _ _ (Int.le_refl _) (h.chd 0 h.r0 h0 x hx)
  · have hz : ∀ y, t.inn y → y ≠ 0 → ((t.lift l).nd y).lv = (t.nd 0).lv → False := fun y hy e he => by rw [elv y hy e] at he; have := h.top y hy e; omega
    have hz2 : ∀ y, (t.inn y ∨ y = l) → y ≠ 0 → ((t.lift l).nd y).lv = (t.nd 0).lv + 1 → False := fun y hy e he => by
      rcases hy with hy | rfl
      · rw [elv y hy e] at he; have := h.top y hy e; omega
      · rw [nl] at he; omega
    by_cases ex : x = 0
    · subst ex
      rw [lv0] at he
      exact absurd he.symm (fun e => hz2 y hy (Ne.symm hne) e)
    · by_cases ey : y = 0
      · subst ey
        rw [lv0] at he
        exact absurd he (fun e => hz2 x hx ex e)
      · rcases hx with hx | rfl
        · rcases hy with hy | rfl
          · rw [elv x hx ex, elv y hy ey] at he
            rw [lno x (ne x hx), lno y (ne y hy), no x (ne x hx) ex, no y (ne y hy) ey]
            exact h.dis x y hx hy he hne
          · rw [nl] at he; exact absurd he (fun e => hz x hx ex e)
        · rcases hy with hy | rfl
          · rw [nl] at he; exact absurd he.symm (fun e => hz y hy ey e)
          · exact absurd rfl hne
  · rcases hq with hq | rfl
    · rw [lno q (ne q hq)] at hlo ⊢
      have hq0 : q ≠ 0 := fun e => by subst e; rw [h.l0] at hlo; omega
      obtain ⟨s, h1, h2, h3⟩ := h.prd q hq hlo
      have hs0 : s ≠ 0 := ne0 s h1 (by have := h.top q hq hq0; omega)
      exact ⟨s, Or.inl h1, by rw [elv s h1 hs0, elv q hq hq0]; exact h2, by rw [no s (ne s h1) hs0]; exact h3⟩
    · rw [ll] at hlo; omega
  · by_cases e : q = 0
    · subst e; rw [lv0]; omega
    · rw [elv q hq e]; omega
theorem Tre.Ok.congr {t t' : Tre} (h : t.Ok) (h1 : ∀ p, t'.inn p ↔ t.inn p) (h2 : ∀ p, t.inn p → t'.nd p = t.nd p) (h3 : ∀ p, t.inn p → t'.low p = t.low p) : t'.Ok ∧ Grows t t' := by
  have kd : ∀ l e, t.kid l e → t'.kid l e := fun l e ⟨q, a, b, c, d⟩ => ⟨q, a, (h1 q).2 b, by rw [h3 q b]; exact c, by rw [h2 q b]; exact d⟩
  refine ⟨⟨fun p hp => ?_, fun p hp => h.lt p ((h1 p).1 hp), (h1 0).2 h.r0, by rw [h3 0 h.r0]; exact h.l0, by rw [h2 0 h.r0]; exact h.h0, fun p hp e => ?_, fun p hp => ?_, fun p hp => ?_, fun p hp => ?_, fun p hp => ?_, fun p hp => ?_, fun p q hp hq => ?_, fun p hp => ?_⟩, ⟨fun p hp => (h1 p).2 hp, h3, fun p hp => by rw [h2 p hp]; omega, fun p hp _ => by rw [h2 p hp]⟩⟩
  · have hp := (h1 p).1 hp; rw [h2 p hp]; exact h.rt p hp
  · have hp := (h1 p).1 hp; rw [h2 p hp, h2 0 h.r0]; exact h.top p hp e
  · have hp := (h1 p).1 hp; rw [h2 p hp, h3 p hp]; exact h.lo p hp
  · have hp := (h1 p).1 hp; rw [h2 p hp, h3 p hp]; exact h.ks p hp
  · have hp := (h1 p).1 hp; rw [h2 p hp, h3 p hp]; exact h.fst p hp
  · have hp := (h1 p).1 hp
    rw [h2 p hp]
    intro hh
    obtain ⟨q, a, b, c, d⟩ := h.lnk p hp hh
    exact ⟨q, a, (h1 q).2 b, by rw [h3 q b]; exact c, by rw [h2 q b]; exact d⟩
  · have hp := (h1 p).1 hp
    rw [h2 p hp]
    exact fun h0 e he => kd _ _ (h.chd p hp h0 e he)
  · have hp := (h1 p).1 hp
    have hq := (h1 q).1 hq
    rw [h2 p hp, h2 q hq, h3 p hp, h3 q hq]; exact h.dis p q hp hq
  · have hp := (h1 p).1 hp
    rw [h3 p hp]
    intro hl
    obtain ⟨q, a, b, c⟩ := h.prd p hp hl
    exact ⟨q, (h1 q).2 a, by rw [h2 q a, h2 p hp]; exact b, by rw [h2 q a]; exact c⟩
structure Way (t : Tre) (p : Nat) (l key : Int) : Prop where
  inn : t.inn p
  lv : l ≤ (t.nd p).lv
  lo : t.low p ≤ key
theorem Way.mono {t t' : Tre} {p : Nat} {l key : Int} (h : Way t p l key) (k : Grows t t') : Way t' p l key :=
  ⟨k.inn p h.inn, Int.le_trans h.lv (k.lv p h.inn), by rw [k.low p h.inn]; exact h.lo⟩
theorem Way.root {t : Tre} (h : t.Ok) {l key : Int} (hl : l ≤ (t.nd 0).lv) (hk : 0 ≤ key) : Way t 0 l key := ⟨h.r0, hl, by rw [h.l0]; exact hk⟩
theorem chl_ent (ks vs : List Int) (key : Int) (hl : ks.length = vs.length) (k : Nat) (hk : k ≤ ks.length) (hh : ∃ x, ks.head? = some x ∧ x ≤ key) (h0 : 0 < k) :
    ∃ e ∈ ks.zip vs, chl ks vs key k = e.2 ∧ e.1 ≤ key := by
  induction k with
  | zero => omega
  | succ k ih =>
    have hk1 : k < ks.length := by omega
    have e1 : ks[k]?.getD 0 = ks[k] := by rw [List.getElem?_eq_getElem hk1]; rfl
    have e2 : vs[k]?.getD 0 = vs[k]'(by omega) := by rw [List.getElem?_eq_getElem (by omega)]; rfl
    unfold chl
    rw [e1, e2]
    by_cases hc : ks[k] ≤ key
    · rw [if_pos hc]
      exact ⟨(ks[k], vs[k]'(by omega)), List.mem_iff_getElem.2 ⟨k, by simp; omega, by simp⟩, rfl, hc⟩
    · rw [if_neg hc]
      rcases Nat.eq_zero_or_pos k with rfl | hp
      · obtain ⟨x, hx, hxk⟩ := hh
        rw [List.head?_eq_getElem?, List.getElem?_eq_getElem hk1] at hx
        have := Option.some.inj hx
        omega
      · exact ih (by omega) hp
theorem Way.link {t : Tre} (h : t.Ok) {p : Nat} {l key : Int} (w : Way t p l key) (hk : key ≤ 9999) (hh : (t.nd p).hi ≤ key) : ∃ q : Nat, (t.nd p).lk = (q : Int) ∧ Way t q l key ∧ (t.nd q).lv = (t.nd p).lv ∧ t.low q = (t.nd p).hi := by
  obtain ⟨q, h1, h2, h3, h4⟩ := h.lnk p w.inn (by omega)
  exact ⟨q, h1, ⟨h2, by rw [h4]; exact w.lv, by rw [h3]; exact hh⟩, h4, h3⟩
theorem Way.child {t : Tre} (h : t.Ok) {p : Nat} {l key : Int} (w : Way t p l key) (hl0 : 0 ≤ l) (hl : l < (t.nd p).lv) : ∃ q : Nat, chl (t.nd p).ks (t.nd p).vs key (t.nd p).ks.length = (q : Int) ∧ Way t q l key ∧ (t.nd q).lv + 1 = (t.nd p).lv := by
  have hlv : 0 < (t.nd p).lv := by omega
  have hb := right_bd _ (h.rt p w.inn)
  have hf := h.fst p w.inn hlv
  have hpos : 0 < (t.nd p).ks.length := by
    cases hks : (t.nd p).ks with
    | nil => rw [hks] at hf; cases hf
    | cons _ _ => simp
  obtain ⟨e, he, hc, hek⟩ := chl_ent (t.nd p).ks (t.nd p).vs key hb.2.2.2.1 _ (Nat.le_refl _) ⟨_, hf, w.lo⟩ hpos
  obtain ⟨q, h1, h2, h3, h4⟩ := h.chd p w.inn hlv e he
  exact ⟨q, by rw [hc]; exact h1, ⟨h2, by omega, by rw [h3]; exact hek⟩, h4⟩
theorem Way.onw {t : Tre} (h : t.Ok) {p : Nat} {l key : Int} (w : Way t p l key) (hl0 : 0 ≤ l) (hk : key ≤ 9999) (hgo : l < (t.nd p).lv ∨ (t.nd p).hi ≤ key) :
    ∃ q : Nat, onwV (t.nd p) key = (q : Int) ∧ Way t q l key ∧ q < 64 ∧ ((t.nd q).lv < (t.nd p).lv ∨ ((t.nd q).lv = (t.nd p).lv ∧ t.low p < t.low q)) := by
  unfold onwV
  by_cases hh : (t.nd p).hi ≤ key
  · obtain ⟨q, h1, h2, h3, h4⟩ := w.link h hk hh
    rw [if_pos hh]
    exact ⟨q, h1, h2, h.lt q h2.inn, Or.inr ⟨h3, by rw [h4]; exact (h.lo p w.inn).2⟩⟩
  · rw [if_neg hh]
    obtain ⟨q, h1, h2, h3⟩ := w.child h hl0 (by rcases hgo with h | h; exact h; exact absurd h hh)
    exact ⟨q, h1, h2, h.lt q h2.inn, Or.inl (by omega)⟩
theorem filter_le_of {l : List Nat} {P Q : Nat → Bool} (h : ∀ x ∈ l, P x = true → Q x = true) : (l.filter P).length ≤ (l.filter Q).length := by
  induction l with
  | nil => exact Nat.le_refl _
  | cons x r ih =>
    have ih := ih fun y hy => h y (by simp [hy])
    simp only [List.filter_cons]
    cases hp : P x
    · cases Q x <;> simp <;> omega
    · rw [h x (by simp) hp]; simp; omega
theorem filter_lt_of {l : List Nat} {P Q : Nat → Bool} (h : ∀ x ∈ l, P x = true → Q x = true) {a : Nat} (ha : a ∈ l) (hq : Q a = true) (hp : P a = false) : (l.filter P).length < (l.filter Q).length := by
  induction l with
  | nil => cases ha
  | cons x r ih =>
    have hr : ∀ y ∈ r, P y = true → Q y = true := fun y hy => h y (by simp [hy])
    simp only [List.filter_cons]
    rcases List.mem_cons.1 ha with rfl | ha
    · have := filter_le_of hr
      rw [hp, hq]; simp; omega
    · have ih := ih hr ha
      cases hpx : P x
      · cases Q x <;> simp <;> omega
      · rw [h x (by simp) hpx]; simp; omega
def Nearer (t : Tre) (q p : Nat) : Prop := (t.nd q).lv < (t.nd p).lv ∨ ((t.nd q).lv = (t.nd p).lv ∧ t.low p < t.low q)
theorem rank_ex (t : Tre) (h : t.Ok) : ∃ rk : Nat → Nat, (∀ p, rk p ≤ 64) ∧ ∀ p q, t.inn q → Nearer t q p → rk q < rk p := by
  classical
  refine ⟨fun p => ((List.range 64).filter fun x => decide (t.inn x ∧ Nearer t x p)).length, fun p => ?_, fun p q hq hn => ?_⟩
  · exact Nat.le_trans (List.length_filter_le _ _) (by simp)
  · refine filter_lt_of (a := q) (fun x _ hx => ?_) (List.mem_range.2 (h.lt q hq)) (decide_eq_true ⟨hq, hn⟩) (decide_eq_false fun hx => ?_)
    · have hx := of_decide_eq_true hx
      refine decide_eq_true ⟨hx.1, ?_⟩
      have h1 := hx.2
      unfold Nearer at h1 hn ⊢
      omega
    · have h1 := hx.2
      unfold Nearer at h1
      omega
def lmap (n : Nd) (q : Int) : Option Int := look (n.ks.zip n.vs) q
def Leafs (t : Tre) (mp : Int → Option Int) : Prop := ∀ p, t.inn p → (t.nd p).lv = 0 → ∀ q, t.low p ≤ q → q < (t.nd p).hi → lmap (t.nd p) q = mp q
theorem upd_ne {k key v : Int} {m : Int → Option Int} {q : Int} (h : q ≠ key) : upd k key v m q = m q := by unfold upd; rw [if_neg h]
theorem Tre.Ok.alone {t : Tre} (h : t.Ok) {p r : Nat} {key : Int} (hp : t.inn p) (hr : t.inn r) (hl : (t.nd p).lv = (t.nd r).lv) (h1 : t.low p ≤ key) (h2 : key < (t.nd p).hi) (h3 : t.low r ≤ key) (h4 : key < (t.nd r).hi) : p = r := by
  rcases Nat.decEq p r with hne | he
  · rcases h.dis p r hp hr hl hne with h5 | h5 <;> omega
  · exact he
theorem Leafs.put {t : Tre} {mp : Int → Option Int} (L : Leafs t mp) (h : t.Ok) {p : Nat} {n : Nd} {k key v : Int} (hp : t.inn p) (hlv : n.lv = (t.nd p).lv) (hhi : n.hi = (t.nd p).hi) (h0 : (t.nd p).lv = 0)
    (hl : ∀ q, lmap n q = upd k key v (lmap (t.nd p)) q) (hk1 : t.low p ≤ key) (hk2 : key < (t.nd p).hi) : Leafs (t.put p n) (upd k key v mp) := by
  intro r hr hr0 q hq1 hq2
  by_cases e : r = p
  · subst e
    rw [t.put_self] at hq2 ⊢
    rw [hl]
    rw [hhi] at hq2
    have h9 := L r hp h0 q hq1 hq2
    by_cases hq : q = key
    · subst hq; unfold upd; rw [if_pos rfl, if_pos rfl, h9]
    · rw [upd_ne hq, upd_ne hq]; exact h9
  · rw [t.put_ne n e] at hr0 hq2 ⊢
    have hqk : q ≠ key := fun hq => e (h.alone hr hp (by rw [hr0, h0]) (show t.low r ≤ key by rw [← hq]; exact hq1) (show key < (t.nd r).hi by rw [← hq]; exact hq2) hk1 hk2)
    rw [upd_ne hqk]
    exact L r hr hr0 q hq1 hq2
theorem Leafs.putN {t : Tre} {mp : Int → Option Int} (L : Leafs t mp) {p : Nat} {n : Nd} (hlv : n.lv = (t.nd p).lv) (h0 : (t.nd p).lv ≠ 0) : Leafs (t.put p n) mp := by
  intro r hr hr0 q hq1 hq2
  by_cases e : r = p
  · subst e; rw [t.put_self, hlv] at hr0; exact absurd hr0 h0
  · rw [t.put_ne n e] at hr0 hq2 ⊢
    exact L r hr hr0 q hq1 hq2
theorem Leafs.split {t : Tre} {mp : Int → Option Int} (L : Leafs t mp) (h : t.Ok) {p r : Nat} {a b : Nd} {mid k key v : Int} (s : t.SplitOk p r a b mid) (h0 : (t.nd p).lv = 0)
    (hla : ∀ q, q < mid → lmap a q = upd k key v (lmap (t.nd p)) q) (hlb : ∀ q, mid ≤ q → lmap b q = upd k key v (lmap (t.nd p)) q) (hk1 : t.low p ≤ key) (hk2 : key < (t.nd p).hi) : Leafs (t.split p r a b mid) (upd k key v mp) := by
  have hrp : r ≠ p := fun e => s.new (e ▸ s.inn)
  have hm1 := s.m1
  have hm2 := s.m2
  have key' : ∀ q, t.low p ≤ q → q < (t.nd p).hi → upd k key v (lmap (t.nd p)) q = upd k key v mp q := fun q h1 h2 => by
    have h9 := L p s.inn h0 q h1 h2
    by_cases hq : q = key
    · subst hq; unfold upd; rw [if_pos rfl, if_pos rfl, h9]
    · rw [upd_ne hq, upd_ne hq]; exact h9
  intro x hx hx0 q hq1 hq2
  by_cases ex : x = r
  · subst ex
    have e1 : (t.split p x a b mid).nd x = b := if_pos rfl
    have e2 : (t.split p x a b mid).low x = mid := if_pos rfl
    rw [e1] at hq2 ⊢
    rw [e2] at hq1
    rw [s.hib] at hq2
    rw [hlb q hq1]
    exact key' q (by omega) hq2
  · have hxi : t.inn x := by rcases hx with hx | hx; exact hx; exact absurd hx ex
    have e2 : (t.split p r a b mid).low x = t.low x := if_neg ex
    rw [e2] at hq1
    by_cases ep : x = p
    · subst ep
      have e1 : (t.split x r a b mid).nd x = a := by show (if x = r then b else if x = x then a else t.nd x) = a; rw [if_neg ex, if_pos rfl]
      rw [e1] at hq2 ⊢
      rw [s.hia] at hq2
      rw [hla q hq2]
      exact key' q hq1 (by omega)
    · have e1 : (t.split p r a b mid).nd x = t.nd x := by show (if x = r then b else if x = p then a else t.nd x) = t.nd x; rw [if_neg ex, if_neg ep]
      rw [e1] at hx0 hq2 ⊢
      have hqk : q ≠ key := fun hq => ep (h.alone hxi s.inn (by rw [hx0, h0]) (show t.low x ≤ key by rw [← hq]; exact hq1) (show key < (t.nd x).hi by rw [← hq]; exact hq2) hk1 hk2)
      rw [upd_ne hqk]
      exact L x hxi hx0 q hq1 hq2
theorem Leafs.lift {t : Tre} {mp : Int → Option Int} (L : Leafs t mp) (h : t.Ok) {l : Nat} (hl : ¬ t.inn l) : Leafs (t.lift l) mp := by
  have l0 : l ≠ 0 := fun e => hl (e ▸ h.r0)
  have hr0 := (right_bd (t.nd 0) (h.rt 0 h.r0)).1
  intro x hx hx0 q hq1 hq2
  by_cases ex : x = l
  · subst ex
    have e1 : (t.lift x).nd x = t.nd 0 := if_pos rfl
    have e2 : (t.lift x).low x = 0 := if_pos rfl
    rw [e1] at hx0 hq2 ⊢
    rw [e2] at hq1
    exact L 0 h.r0 hx0 q (by rw [h.l0]; exact hq1) hq2
  · have hxi : t.inn x := by rcases hx with hx | hx; exact hx; exact absurd hx ex
    have e2 : (t.lift l).low x = t.low x := if_neg ex
    rw [e2] at hq1
    by_cases e0 : x = 0
    · subst e0
      have e1 : ((t.lift l).nd 0).lv = (t.nd 0).lv + 1 := by show (if 0 = l then _ else if 0 = 0 then _ else _ : Nd).lv = _; rw [if_neg (Ne.symm l0), if_pos rfl]
      rw [e1] at hx0
      omega
    · have e1 : (t.lift l).nd x = t.nd x := by show (if x = l then _ else if x = 0 then _ else t.nd x) = _; rw [if_neg ex, if_neg e0]
      rw [e1] at hx0 hq2 ⊢
      exact L x hxi hx0 q hq1 hq2
theorem Leafs.splitN {t : Tre} {mp : Int → Option Int} (L : Leafs t mp) {p r : Nat} {a b : Nd} {mid : Int} (s : t.SplitOk p r a b mid) (h0 : (t.nd p).lv ≠ 0) : Leafs (t.split p r a b mid) mp := by
  intro x hx hx0 q hq1 hq2
  by_cases ex : x = r
  · subst ex
    have e1 : (t.split p x a b mid).nd x = b := if_pos rfl
    rw [e1, s.lvb] at hx0
    exact absurd hx0 h0
  · have hxi : t.inn x := by rcases hx with hx | hx; exact hx; exact absurd hx ex
    have e2 : (t.split p r a b mid).low x = t.low x := if_neg ex
    rw [e2] at hq1
    by_cases ep : x = p
    · subst ep
      have e1 : (t.split x r a b mid).nd x = a := by show (if x = r then b else if x = x then a else t.nd x) = a; rw [if_neg ex, if_pos rfl]
      rw [e1, s.lva] at hx0
      exact absurd hx0 h0
    · have e1 : (t.split p r a b mid).nd x = t.nd x := by show (if x = r then b else if x = p then a else t.nd x) = t.nd x; rw [if_neg ex, if_neg ep]
      rw [e1] at hx0 hq2 ⊢
      exact L x hxi hx0 q hq1 hq2
end Go.Proofs.YtajobgmnmbnhiaaGreatDoor.Sap
