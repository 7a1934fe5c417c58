/- WHAT IS PROVED HERE: plain facts: what a Swap that is done makes of the tree: a node written anew, a node split, the root split (no program's function is walked). Conditions: none but those named at each theorem. -/
import Derived.Test.YtajobgmnmbnhiaaDoorXK4K6
import Derived.Test.YtajobgmnmbnhiaaDoorXD1L6
import Derived.Test.YtajobgmnmbnhiaaDoorXV12X5
namespace Go.Proofs.YtajobgmnmbnhiaaDoor.Sap
open Go.RowKit

/-- What the leaves have behind a change at a level. -/
def aft (lv k key v : Int) (mp : Int → Option Int) : Int → Option Int := if lv = 0 then upd k key v mp else mp
/-- What is known of the tree behind a change at page p, by which the pages of N came in. -/
structure Turn (t t' : Tre) (p : Nat) (n : Nd) (N : Nat → Nd → Prop) (mp mp' : Int → Option Int) : Prop where
  ok : t'.Ok
  gr : Grows t t'
  lf : Leafs t mp → Leafs t' mp'
  at_ : t'.nd p = n
  old : ∀ q, t.inn q → q ≠ p → t'.nd q = t.nd q
  new : ∀ q, t'.inn q → t.inn q ∨ N q (t'.nd q)
  lvp : p ≠ 0 → n.lv = (t.nd p).lv

theorem turn_put {t : Tre} {p : Nat} {k key v : Int} (h : CgAt t p k key v) (T : t.Ok) (hc : crowd (t.nd p).lv (cg (t.nd p) k key v).ks.length = false) (mp : Int → Option Int) :
    Turn t (t.put p (cg (t.nd p) k key v)) p (cg (t.nd p) k key v) (fun _ _ => False) mp (aft (t.nd p).lv k key v mp) := by
  obtain ⟨h1, h2⟩ := T.put (h.putOk T hc)
  refine ⟨h1, h2, fun L => ?_, t.put_self _ _, fun q _ hq => t.put_ne _ hq, fun q hq => Or.inl hq, fun _ => rfl⟩
  unfold aft
  split
  · rename_i h0
    exact L.put T h.inn rfl rfl h0 (cg_look h.i) h.lo h.i.kh
  · rename_i h0
    exact L.putN rfl h0
theorem turn_split {t : Tre} {p r : Nat} {k key v low : Int} (h : CgAt t p k key v) (T : t.Ok) (hv : Halves (t.nd p) k key v low) (p0 : p ≠ 0) (hr : ¬ t.inn r) (r1 : 1 ≤ r) (r64 : r < 64) (mp : Int → Option Int) :
    Turn t (t.split p r (lftN (cg (t.nd p) k key v) low r) (rgtN (cg (t.nd p) k key v) low) low) p (lftN (cg (t.nd p) k key v) low r) (fun q n => q = r ∧ n = rgtN (cg (t.nd p) k key v) low) mp (aft (t.nd p).lv k key v mp) := by
  have S := h.splitOk T hv p0 hr r1 r64
  obtain ⟨h1, h2⟩ := T.split S
  have hrp : r ≠ p := fun e => hr (e ▸ h.inn)
  refine ⟨h1, h2, fun L => ?_, ?_, fun q hq hqp => ?_, fun q hq => ?_, fun _ => rfl⟩
  · unfold aft
    split
    · rename_i h0
      exact L.split T S h0 (fun q hq => hv.lkL _ q hq) (fun q hq => hv.lkR q hq) h.lo h.i.kh
    · rename_i h0
      exact L.splitN S h0
  · show (if p = r then _ else if p = p then _ else t.nd p) = _
    rw [if_neg (Ne.symm hrp), if_pos rfl]
  · show (if q = r then _ else if q = p then _ else t.nd q) = _
    rw [if_neg (show q ≠ r from fun e => hr (e ▸ hq)), if_neg hqp]
  · by_cases e : q = r
    · refine Or.inr ⟨e, ?_⟩
      show (if q = r then _ else if q = p then _ else t.nd q) = _
      rw [if_pos e]
    · rcases hq with hq | hq
      · exact Or.inl hq
      · exact absurd hq e

/-- The root's growth. -/
theorem lift_cg {t : Tre} {l : Nat} {k key v : Int} (h : CgAt t 0 k key v) (hl : ¬ t.inn l) : CgAt (t.lift l) l k key v := by
  have nl : (t.lift l).nd l = t.nd 0 := if_pos rfl
  have ll : (t.lift l).low l = 0 := if_pos rfl
  refine ⟨Or.inr rfl, by rw [nl]; exact h.i, by rw [ll]; have := h.i.k1; omega, ?_⟩
  rw [nl]
  intro h0
  obtain ⟨q, h1, h2, h3, h4⟩ := h.kid h0
  have hql : q ≠ l := fun e => hl (e ▸ h2)
  have hq0 : q ≠ 0 := fun e => by subst e; omega
  refine ⟨q, h1, Or.inl h2, ?_, ?_⟩
  · show (if q = l then (0 : Int) else t.low q) = _
    rw [if_neg hql]; exact h3
  · show (if q = l then t.nd 0 else if q = 0 then _ else t.nd q : Nd).lv + 1 = _
    rw [if_neg hql, if_neg hq0]; exact h4
/-- The tree behind the root's split. -/
def Tre.grow (t : Tre) (l r : Nat) (k key v low : Int) : Tre :=
  ((t.lift l).split l r (lftN (cg (t.nd 0) k key v) low r) (rgtN (cg (t.nd 0) k key v) low) low).put 0 (topN (cg (t.nd 0) k key v) low l r)
theorem turn_grow {t : Tre} {l r : Nat} {k key v low : Int} (h : CgAt t 0 k key v) (T : t.Ok) (hv : Halves (t.nd 0) k key v low) (hr : ¬ t.inn r) (r1 : 1 ≤ r) (r64 : r < 64) (hl : ¬ t.inn l) (l1 : 1 ≤ l) (l64 : l < 64) (hlr : l ≠ r) (h9 : (t.nd 0).lv < 9) (mp : Int → Option Int) :
    Turn t (t.grow l r k key v low) 0 (topN (cg (t.nd 0) k key v) low l r) (fun q n => (q = r ∧ n = rgtN (cg (t.nd 0) k key v) low) ∨ (q = l ∧ n = lftN (cg (t.nd 0) k key v) low r)) mp (aft (t.nd 0).lv k key v mp) := by
  obtain ⟨A1, A2⟩ := T.lift hl l64 h9
  have nl : (t.lift l).nd l = t.nd 0 := if_pos rfl
  have C := lift_cg h hl
  have hr1 : ¬ (t.lift l).inn r := fun e => by
    rcases e with e | e
    · exact hr e
    · exact hlr e.symm
  have B := turn_split C A1 (by rw [nl]; exact hv) (by omega) hr1 r1 r64 mp
  rw [nl] at B
  obtain ⟨t2, ht2⟩ : ∃ t2, (t.lift l).split l r (lftN (cg (t.nd 0) k key v) low r) (rgtN (cg (t.nd 0) k key v) low) low = t2 := ⟨_, rfl⟩
  have hg : t.grow l r k key v low = t2.put 0 (topN (cg (t.nd 0) k key v) low l r) := by unfold Tre.grow; rw [ht2]
  have l0 : (0 : Nat) ≠ l := by omega
  have r0 : (0 : Nat) ≠ r := by omega
  have n0 : t2.nd 0 = ⟨(t.nd 0).lv + 1, -1, 10000, [0], [(l : Int)]⟩ := by
    rw [← ht2]
    show (if 0 = r then _ else if 0 = l then _ else (t.lift l).nd 0) = _
    rw [if_neg r0, if_neg l0]
    show (if 0 = l then _ else if 0 = 0 then _ else _) = _
    rw [if_neg l0, if_pos rfl]
  have n2l : t2.nd l = lftN (cg (t.nd 0) k key v) low r := by rw [← ht2]; exact B.at_
  have n2r : t2.nd r = rgtN (cg (t.nd 0) k key v) low := by rw [← ht2]; exact if_pos rfl
  have i2l : t2.inn l := by rw [← ht2]; exact Or.inl (Or.inr rfl)
  have i2r : t2.inn r := by rw [← ht2]; exact Or.inr rfl
  have w2l : t2.low l = 0 := by
    rw [← ht2]
    show (if l = r then low else (t.lift l).low l) = 0
    rw [if_neg hlr]; exact if_pos rfl
  have w2r : t2.low r = low := by rw [← ht2]; exact if_pos rfl
  have w20 : t2.low 0 = 0 := by
    rw [← ht2]
    show (if 0 = r then low else (t.lift l).low 0) = 0
    rw [if_neg r0]
    show (if 0 = l then 0 else t.low 0) = 0
    rw [if_neg l0]; exact T.l0
  have i2 : ∀ q, t2.inn q ↔ (t.inn q ∨ q = l) ∨ q = r := fun q => by rw [← ht2]; exact Iff.rfl
  rw [ht2] at B
  obtain ⟨hm, -, hm1, hm2⟩ := hv.mem
  have P : t2.PutOk 0 (topN (cg (t.nd 0) k key v) low l r) := by
    refine ⟨(i2 0).2 (Or.inl (Or.inl T.r0)), by rw [n0]; rfl, by rw [n0]; rfl, by rw [n0]; rfl, hv.rtT h9 (by omega) (by omega) (by omega) (by omega), fun q hq => ?_, fun _ => ?_, fun _ e he => ?_⟩
    · replace hq : q ∈ [0, low] := hq
      rw [w20]
      simp at hq
      omega
    · rw [w20]; rfl
    · replace he : e ∈ [((0 : Int), (l : Int)), (low, (r : Int))] := he
      simp at he
      rcases he with rfl | rfl
      · exact ⟨l, rfl, i2l, w2l, by rw [n2l]; rfl⟩
      · exact ⟨r, rfl, i2r, w2r, by rw [n2r]; rfl⟩
  obtain ⟨Q1, Q2⟩ := B.ok.put P
  rw [hg]
  refine ⟨Q1, (A2.trans B.gr).trans Q2, fun L => ?_, t2.put_self _ _, fun q hq hq0 => ?_, fun q hq => ?_, fun e => absurd rfl e⟩
  · have L2 := B.lf (L.lift T hl)
    exact L2.putN (by rw [n0]; rfl) (by rw [n0]; have := (right_bd _ (T.rt 0 T.r0)).1; show (t.nd 0).lv + 1 ≠ 0; omega)
  · rw [t2.put_ne _ hq0]
    have hql : q ≠ l := fun e => hl (e ▸ hq)
    have hqr : q ≠ r := fun e => hr (e ▸ hq)
    rw [← ht2]
    show (if q = r then _ else if q = l then _ else (t.lift l).nd q) = _
    rw [if_neg hqr, if_neg hql]
    show (if q = l then _ else if q = 0 then _ else t.nd q) = _
    rw [if_neg hql, if_neg hq0]
  · replace hq : t2.inn q := hq
    rcases (i2 q).1 hq with (h1 | rfl) | rfl
    · exact Or.inl h1
    · refine Or.inr (Or.inr ⟨rfl, ?_⟩)
      rw [t2.put_ne _ (by omega)]; exact n2l
    · refine Or.inr (Or.inl ⟨rfl, ?_⟩)
      rw [t2.put_ne _ (by omega)]; exact n2r
end Go.Proofs.YtajobgmnmbnhiaaDoor.Sap

/- WHAT IS PROVED HERE: plain facts: what saplingkeep's table has, made by the operations in their order, is a map; a list in the order of its times, no two of them one, is the only such (no program's function is walked). Conditions: none but those named at each theorem. -/
namespace Go.Proofs.YtajobgmnmbnhiaaDoor.Sap
open Go.RowKit

/-- The map that operations make, in their order. -/
def mapO (l : List Dn) : Int → Option Int := l.foldl (fun m d => upd d.k d.key d.v m) (fun _ => none)
theorem mapO_snoc (l : List Dn) (d : Dn) : mapO (l ++ [d]) = upd d.k d.key d.v (mapO l) := by simp [mapO]

theorem look_eq {P P' : List (Int × Int)} (hn : (P.map Prod.fst).Nodup) (hn' : (P'.map Prod.fst).Nodup) {q : Int} (h : ∀ v, (q, v) ∈ P' ↔ (q, v) ∈ P) : look P' q = look P q := by
  cases h1 : look P q with
  | some v => exact look_mem hn' ((h v).2 (mem_look h1))
  | none =>
    cases h2 : look P' q with
    | none => rfl
    | some v =>
      have := look_mem hn ((h v).1 (mem_look h2))
      rw [h1] at this; cases this

theorem zip_set (K V : List Int) (i : Nat) (a b : Int) : (K.set i a).zip (V.set i b) = (K.zip V).set i (a, b) := by
  induction K generalizing V i with
  | nil => simp
  | cons x r ih =>
    cases V with
    | nil => simp
    | cons y s =>
      cases i with
      | zero => simp
      | succ i => simp [ih]
theorem zip_take (K V : List Int) (m : Nat) : (K.take m).zip (V.take m) = (K.zip V).take m := by
  induction K generalizing V m with
  | nil => simp
  | cons x r ih =>
    cases V with
    | nil => simp
    | cons y s =>
      cases m with
      | zero => simp
      | succ m => simp [ih]

/-- The last is laid at the place of the one that goes. -/
theorem swap_last {α : Type} (l : List α) (i : Nat) (z : α) (hi : i < l.length) (hz : l[l.length - 1]? = some z) : ((l.set i z).take (l.length - 1)).Perm (l.eraseIdx i) := by
  obtain ⟨m, hm⟩ : ∃ m, l.length = m + 1 := ⟨l.length - 1, by omega⟩
  rw [hm, Nat.add_sub_cancel] at hz ⊢
  have hl : l = l.take m ++ [z] := by
    have h1 : l.take (m + 1) = l := List.take_of_length_le (by omega)
    rw [List.take_add_one, hz] at h1
    exact h1.symm
  by_cases he : i = m
  · subst he
    have : l.set i z = l := by
      rw [List.set_eq_take_append_cons_drop, if_pos hi, List.drop_of_length_le (by omega)]
      exact hl.symm
    rw [this, List.eraseIdx_eq_take_drop_succ, List.drop_of_length_le (by omega), List.append_nil]
  · have him : i < m := by omega
    rw [List.eraseIdx_eq_take_drop_succ, List.set_eq_take_append_cons_drop, if_pos hi]
    have hd : l.drop (i + 1) = (l.drop (i + 1)).take (m - (i + 1)) ++ [z] := by
      conv => lhs; rw [hl]
      rw [List.drop_append_of_le_length (by rw [List.length_take]; omega), List.drop_take]
    have ht : (l.take i ++ z :: l.drop (i + 1)).take m = l.take i ++ z :: (l.drop (i + 1)).take (m - (i + 1)) := by
      rw [List.take_append, List.length_take, Nat.min_eq_left (by omega), List.take_of_length_le (by rw [List.length_take]; omega)]
      congr 1
      rw [show m - i = (m - (i + 1)) + 1 by omega, List.take_succ_cons]
    rw [ht]
    conv => rhs; rw [hd]
    exact List.Perm.append_left _ (List.perm_append_comm (l₁ := [z]))

theorem nodup_inj {K : List Int} (hn : K.Nodup) {i j : Nat} (hi : i < K.length) (hj : j < K.length) (h : K[i] = K[j]) : i = j := by
  rcases Nat.lt_trichotomy i j with hlt | he | hlt
  · exact absurd h (List.pairwise_iff_getElem.1 hn i j hi hj hlt)
  · exact he
  · exact absurd h.symm (List.pairwise_iff_getElem.1 hn j i hj hi hlt)
theorem fst_zip {K V : List Int} (h : K.length = V.length) : (K.zip V).map Prod.fst = K := List.map_fst_zip (by omega)

theorem tdo_look (kd key v : Int) (K V : List Int) (hn : K.Nodup) (hl : K.length = V.length) (hk : kd = 2 ∨ kd = 3) : (tdo kd key v K V).1.Nodup ∧ (tdo kd key v K V).1.length = (tdo kd key v K V).2.length ∧ ∀ q, look ((tdo kd key v K V).1.zip (tdo kd key v K V).2) q = upd kd key v (look (K.zip V)) q := by
  have hlen := (tdo_len kd key v K V hl).1
  have hnz : ((K.zip V).map Prod.fst).Nodup := by rw [fst_zip hl]; exact hn
  unfold tdo at hlen ⊢
  by_cases hm : key ∈ K
  · obtain ⟨i, hi, hki⟩ : ∃ i, ∃ h : i < K.length, K[i] = key := ⟨K.idxOf key, List.idxOf_lt_length_of_mem hm, List.getElem_idxOf _⟩
    have hii : K.idxOf key = i := by
      rw [← hki]
      exact List.Nodup.idxOf_getElem hn i hi
    rw [if_pos hm, hii] at hlen
    rw [if_pos hm, hii]
    clear hii
    have hzi : (K.zip V)[i]? = some (key, V[i]'(by omega)) := by
      rw [List.getElem?_zip_eq_some]
      exact ⟨by rw [List.getElem?_eq_getElem hi, hki], List.getElem?_eq_getElem (by omega)⟩
    rcases hk with rfl | rfl
    · rw [if_pos rfl] at hlen ⊢
      refine ⟨hn, hlen, fun q => ?_⟩
      have hz : K.zip (V.set i v) = (K.zip V).set i (key, v) := by
        have := zip_set K V i key v
        rw [← hki, List.set_getElem_self] at this
        rw [← hki]; exact this
      have hn' : ((K.zip (V.set i v)).map Prod.fst).Nodup := by rw [fst_zip (by simpa using hl)]; exact hn
      show look (K.zip (V.set i v)) q = _
      unfold upd
      by_cases hq : q = key
      · rw [if_pos hq, if_pos rfl, hq]
        refine look_mem hn' ?_
        rw [hz]
        exact List.mem_iff_getElem?.2 ⟨i, by rw [List.getElem?_set_self (by simp; omega)]⟩
      · rw [if_neg hq]
        refine look_eq hnz hn' fun u => ?_
        rw [hz]
        constructor
        · intro h
          obtain ⟨j, hj⟩ := List.mem_iff_getElem?.1 h
          by_cases e : i = j
          · subst e
            rw [List.getElem?_set_self (by simp; omega)] at hj
            cases hj; exact absurd rfl hq
          · rw [List.getElem?_set_ne e] at hj
            exact List.mem_iff_getElem?.2 ⟨j, hj⟩
        · intro h
          obtain ⟨j, hj⟩ := List.mem_iff_getElem?.1 h
          by_cases e : i = j
          · subst e
            rw [hzi] at hj
            cases hj; exact absurd rfl hq
          · exact List.mem_iff_getElem?.2 ⟨j, by rw [List.getElem?_set_ne e]; exact hj⟩
    · rw [if_neg (by decide), if_pos rfl] at hlen ⊢
      have hp : K.length - 1 < K.length := by omega
      have hzl : (K.zip V)[(K.zip V).length - 1]? = some (K[K.length - 1]?.getD 0, V[K.length - 1]?.getD 0) := by
        have e : (K.zip V).length - 1 = K.length - 1 := by rw [List.length_zip]; omega
        rw [e, List.getElem?_zip_eq_some, List.getElem?_eq_getElem hp, List.getElem?_eq_getElem (show K.length - 1 < V.length by omega)]
        exact ⟨rfl, rfl⟩
      have hz : ((K.set i (K[K.length - 1]?.getD 0)).take (K.length - 1)).zip ((V.set i (V[K.length - 1]?.getD 0)).take (K.length - 1)) = ((K.zip V).set i (K[K.length - 1]?.getD 0, V[K.length - 1]?.getD 0)).take ((K.zip V).length - 1) := by
        rw [zip_take, zip_set, List.length_zip]
        congr 1
        omega
      have hpm := swap_last (K.zip V) i _ (by rw [List.length_zip]; omega) hzl
      rw [← hz] at hpm
      have hsub : ((K.zip V).eraseIdx i).Sublist (K.zip V) := List.eraseIdx_sublist _ _
      have hne : (((K.zip V).eraseIdx i).map Prod.fst).Nodup := (hsub.map Prod.fst).nodup hnz
      have hn' : ((((K.set i (K[K.length - 1]?.getD 0)).take (K.length - 1)).zip ((V.set i (V[K.length - 1]?.getD 0)).take (K.length - 1))).map Prod.fst).Nodup := (hpm.map Prod.fst).nodup_iff.2 hne
      refine ⟨?_, hlen, fun q => ?_⟩
      · rw [fst_zip hlen] at hn'; exact hn'
      · show look (((K.set i (K[K.length - 1]?.getD 0)).take (K.length - 1)).zip ((V.set i (V[K.length - 1]?.getD 0)).take (K.length - 1))) q = _
        unfold upd
        have hmem : ∀ u, (q, u) ∈ ((K.set i (K[K.length - 1]?.getD 0)).take (K.length - 1)).zip ((V.set i (V[K.length - 1]?.getD 0)).take (K.length - 1)) ↔ ((q, u) ∈ K.zip V ∧ q ≠ key) := fun u => by
          rw [hpm.mem_iff, List.mem_eraseIdx_iff_getElem?]
          constructor
          · rintro ⟨j, hj, hje⟩
            refine ⟨List.mem_iff_getElem?.2 ⟨j, hje⟩, fun e => hj ?_⟩
            subst e
            rw [List.getElem?_zip_eq_some] at hje
            have hjl := (List.getElem?_eq_some_iff.1 hje.1).1
            have h1 : K[j]'hjl = K[i]'hi := by rw [hki]; exact (List.getElem?_eq_some_iff.1 hje.1).2
            exact nodup_inj hn hjl hi h1
          · rintro ⟨h, hq⟩
            obtain ⟨j, hj⟩ := List.mem_iff_getElem?.1 h
            refine ⟨j, fun e => hq ?_, hj⟩
            subst e
            rw [hzi] at hj; cases hj; rfl
        by_cases hq : q = key
        · rw [if_pos hq, if_neg (by decide), if_pos rfl]
          cases hlk : look (((K.set i (K[K.length - 1]?.getD 0)).take (K.length - 1)).zip ((V.set i (V[K.length - 1]?.getD 0)).take (K.length - 1))) q with
          | none => rfl
          | some u => exact absurd hq ((hmem u).1 (mem_look hlk)).2
        · rw [if_neg hq]
          exact look_eq hnz hn' fun u => ⟨fun h => ((hmem u).1 h).1, fun h => (hmem u).2 ⟨h, hq⟩⟩
  · rw [if_neg hm] at hlen ⊢
    have hno : look (K.zip V) key = none := look_none fun x hx e => hm (by rw [← e]; exact (List.of_mem_zip hx).1)
    rcases hk with rfl | rfl
    · rw [if_pos rfl] at hlen ⊢
      refine ⟨?_, hlen, fun q => ?_⟩
      · show (K ++ [key]).Nodup
        rw [List.nodup_append]
        exact ⟨hn, by simp, fun a ha b hb => by rw [List.mem_singleton] at hb; subst hb; exact fun e => hm (e ▸ ha)⟩
      · show look ((K ++ [key]).zip (V ++ [v])) q = _
        rw [List.zip_append hl, look_append]
        unfold upd
        by_cases hq : q = key
        · rw [if_pos hq, if_pos rfl, hq, hno]; simp [look]
        · rw [if_neg hq]
          have : look ([key].zip [v]) q = none := by simp only [List.zip_cons_cons, look]; rw [if_neg (fun e => hq e.symm)]; rfl
          rw [this, Option.or_none]
    · rw [if_neg (by decide)] at hlen ⊢
      refine ⟨hn, hlen, fun q => ?_⟩
      unfold upd
      by_cases hq : q = key
      · rw [if_pos hq, if_neg (by decide), if_pos rfl, hq]; exact hno
      · rw [if_neg hq]

theorem tabO_snoc (l : List Dn) (d : Dn) : tabO (l ++ [d]) = tdo d.k d.key d.v (tabO l).1 (tabO l).2 := by simp [tabO]
/-- The table that operations make, in their order, has what the map has. -/
theorem tabO_look (l : List Dn) (hk : ∀ d ∈ l, d.k = 2 ∨ d.k = 3) : (tabO l).1.Nodup ∧ (tabO l).1.length = (tabO l).2.length ∧ ∀ q, look ((tabO l).1.zip (tabO l).2) q = mapO l q := by
  obtain ⟨r, hr⟩ : ∃ r, l = r.reverse := ⟨l.reverse, by simp⟩
  induction r generalizing l with
  | nil => subst hr; exact ⟨by simp [tabO], by simp [tabO], fun q => by simp [tabO, mapO, look]⟩
  | cons d r ih =>
    rw [List.reverse_cons] at hr
    subst hr
    obtain ⟨h1, h2, h3⟩ := ih r.reverse (fun x hx => hk x (by simp at hx ⊢; exact Or.inl hx)) rfl
    rw [tabO_snoc, mapO_snoc]
    obtain ⟨a1, a2, a3⟩ := tdo_look d.k d.key d.v _ _ h1 h2 (hk d (by simp))
    refine ⟨a1, a2, fun q => ?_⟩
    rw [a3]
    unfold upd
    rw [h3]
theorem valR_look {K V : List Int} (hn : K.Nodup) (hl : K.length = V.length) {q : Int} {fd : Bool} {v : Int} (h : ValR K V q fd v) : fd = (look (K.zip V) q).isSome ∧ v = (look (K.zip V) q).getD 0 := by
  have hnz : ((K.zip V).map Prod.fst).Nodup := by rw [fst_zip hl]; exact hn
  rcases h with ⟨h1, h2, h3⟩ | ⟨i, h1, h2, h3, -⟩
  · have hno : look (K.zip V) q = none := look_none fun x hx e => h3 (by rw [← e]; exact (List.of_mem_zip hx).1)
    rw [hno]; exact ⟨h1, h2⟩
  · have := look_mem hnz (List.mem_iff_getElem?.2 ⟨i, (List.getElem?_zip_eq_some (l₁ := K) (l₂ := V) (z := (q, v))).2 ⟨h2, h3⟩⟩)
    rw [this]; exact ⟨h1, rfl⟩

/-- A list in the strict order of its times is the only one that has the same in the order of times. -/
theorem srt_uniq (o o' : List Dn) (hs : o.Pairwise fun a b => a.t < b.t) (hp : o'.Perm o) (hs' : Srt o') : o' = o := by
  induction o generalizing o' with
  | nil => exact hp.eq_nil
  | cons d r ih =>
    cases o' with
    | nil => exact absurd hp.symm.eq_nil (by simp)
    | cons e r' =>
      have hs1 := List.pairwise_cons.1 hs
      have hs2 := List.pairwise_cons.1 hs'
      have hed : e = d := by
        have he : e ∈ d :: r := hp.mem_iff.1 (by simp)
        have hd : d ∈ e :: r' := hp.mem_iff.2 (by simp)
        rcases List.mem_cons.1 he with h | h
        · exact h
        · rcases List.mem_cons.1 hd with k | k
          · exact k.symm
          · have := hs1.1 e h
            have := hs2.1 d k
            omega
      subst hed
      rw [ih r' hs1.2 hp.cons_inv hs2.2]

theorem ahead_snoc (o : List Dn) (d : Dn) (time : Int) (h : time ≤ d.t) : ahead (o ++ [d]) time = ahead o time := by
  unfold ahead
  induction o with
  | nil =>
    have : ¬ d.t < time := by omega
    simp [this]
  | cons x r ih =>
    simp only [List.cons_append, List.takeWhile_cons]
    split
    · rw [ih]
    · rfl
theorem ahead_all (o : List Dn) (time : Int) (h : ∀ d ∈ o, d.t < time) : ahead o time = o := by
  unfold ahead
  induction o with
  | nil => rfl
  | cons x r ih =>
    rw [List.takeWhile_cons, if_pos (by simpa using h x (by simp)), ih fun d hd => h d (by simp [hd])]
end Go.Proofs.YtajobgmnmbnhiaaDoor.Sap

/- WHAT IS PROVED HERE: plain facts: the pieces of a Scan that is under way or has ended: each is what the map had at the time of its access (no program's function is walked). Conditions: none but those named at each theorem. -/
namespace Go.Proofs.YtajobgmnmbnhiaaDoor.Sap
open Go.RowKit

/-- What a Scan has seen. -/
structure Scn (o : List Dn) (ts : List Int) (key val : Int) (keys vals bel pts : List Int) : Prop where
  kl : keys.length = vals.length
  asc : keys.Pairwise (· < ·)
  inn : ∀ q ∈ keys, key ≤ q ∧ q < fromV bel key bel.length
  bl : bel.length = pts.length
  pb : ∀ p ∈ pts, 0 ≤ p ∧ p < ts.length
  pp : pts.Pairwise (· < ·)
  bp : ∀ j, j < bel.length → fromV bel key j < fromV bel key (j + 1) ∧ fromV bel key (j + 1) ≤ val + 1
  pc : ∀ j q u, j < bel.length → fromV bel key j ≤ q → q < fromV bel key (j + 1) → ((q, u) ∈ keys.zip vals ↔ mapO (ahead o (ts[(pts[j]?.getD 0).toNat]?.getD 0)) q = some u)

theorem Scn.first (o : List Dn) (ts : List Int) (key val : Int) : Scn o ts key val [] [] [] [] :=
  ⟨rfl, List.Pairwise.nil, fun _ h => (by cases h), rfl, fun _ h => (by cases h), List.Pairwise.nil, fun _ h => (by cases h), fun _ _ _ h => (by cases h)⟩
/-- A time of the list is one of its times. -/
theorem ts_mem {ts : List Int} {p : Int} (h : 0 ≤ p ∧ p < ts.length) : ts[p.toNat]?.getD 0 ∈ ts := by
  rw [List.getElem?_eq_getElem (by omega)]
  exact List.getElem_mem _
theorem ts_more {ts : List Int} {p now : Int} (h : 0 ≤ p ∧ p < ts.length) : (ts ++ [now])[p.toNat]?.getD 0 = ts[p.toNat]?.getD 0 := by
  rw [List.getElem?_append_left (by omega)]
theorem at_now (ts : List Int) (t : Int) : (ts ++ [t])[ts.length]?.getD 0 = t := by simp
theorem Scn.mono {o o' : List Dn} {ts : List Int} {key val : Int} {keys vals bel pts : List Int} (h : Scn o ts key val keys vals bel pts) (now : Int) (ha : ∀ τ ∈ ts, ahead o' τ = ahead o τ) : Scn o' (ts ++ [now]) key val keys vals bel pts := by
  refine ⟨h.kl, h.asc, h.inn, h.bl, fun p hp => ⟨(h.pb p hp).1, by have := (h.pb p hp).2; rw [List.length_append]; simp; omega⟩, h.pp, h.bp, fun j q u hj h1 h2 => ?_⟩
  have hp : pts[j]?.getD 0 ∈ pts := by rw [List.getElem?_eq_getElem (by rw [← h.bl]; exact hj)]; exact List.getElem_mem _
  rw [ts_more (h.pb _ hp), ha _ (ts_mem (h.pb _ hp))]
  exact h.pc j q u hj h1 h2
theorem Scn.same {o o' : List Dn} {ts : List Int} {key val : Int} {keys vals bel pts : List Int} (h : Scn o ts key val keys vals bel pts) (ha : ∀ τ ∈ ts, ahead o' τ = ahead o τ) : Scn o' ts key val keys vals bel pts := by
  refine ⟨h.kl, h.asc, h.inn, h.bl, h.pb, h.pp, h.bp, fun j q u hj h1 h2 => ?_⟩
  have hp : pts[j]?.getD 0 ∈ pts := by rw [List.getElem?_eq_getElem (by rw [← h.bl]; exact hj)]; exact List.getElem_mem _
  rw [ha _ (ts_mem (h.pb _ hp))]
  exact h.pc j q u hj h1 h2

theorem from_snoc (bel : List Int) (key b : Int) (j : Nat) (h : j ≤ bel.length) : fromV (bel ++ [b]) key j = fromV bel key j := by
  cases j with
  | zero => rfl
  | succ j => show (bel ++ [b])[j]?.getD 0 = bel[j]?.getD 0; rw [List.getElem?_append_left (by omega)]
theorem from_last (bel : List Int) (key b : Int) : fromV (bel ++ [b]) key (bel.length + 1) = b := by
  show (bel ++ [b])[bel.length]?.getD 0 = b; simp
theorem want_from {s : St} (h : s.lv = 0) : wantV s = fromV s.bel s.key s.bel.length := by
  unfold wantV
  rw [if_neg (by omega)]
  cases hb : s.bel with
  | nil => rfl
  | cons x r => show (x :: r).getLast?.getD s.key = (x :: r)[r.length]?.getD 0; rw [List.getLast?_eq_getElem?]; simp

theorem asc_ent {n : Nd} (h : rightB n = true) : Asc (ent n) := by
  have hb := right_bd n h
  have h1 := right_pw n h
  have h2 : (ent n).map Prod.fst = n.ks := List.map_fst_zip (by have := hb.2.2.2.1; omega)
  rw [← h2] at h1
  exact List.pairwise_map.1 h1
theorem rng_iff (a b : Int) (x : Int × Int) : rng a b x = true ↔ a ≤ x.1 ∧ x.1 < b := by simp [rng]
theorem lmap_mem {n : Nd} (h : rightB n = true) (q u : Int) : (q, u) ∈ ent n ↔ lmap n q = some u := by
  have hb := right_bd n h
  constructor
  · intro h1
    refine look_mem ?_ h1
    rw [List.map_fst_zip (by have := hb.2.2.2.1; omega)]
    exact (right_pw n h).imp fun h e => by omega
  · intro h1; exact mem_look h1

/-- What a Scan has behind a leaf. -/
theorem sc_zip {s : St} {n : Nd} (hr : rightB n = true) (hkl : s.keys.length = s.vals.length) (h12 : s.keys.length < 12) (hw : wantV s ≤ s.val) (hh : wantV s < n.hi) :
    (scK s n).length = (scV s n).length ∧ (scK s n).zip (scV s n) = s.keys.zip s.vals ++ (ent n).filter (rng (wantV s) (scB s n)) ∧ wantV s < scB s n ∧ scB s n ≤ s.val + 1 ∧ scB s n ≤ n.hi := by
  have hb := right_bd n hr
  obtain ⟨s1, s2⟩ := ad_spec n.ks n.vs (wantV s) s.val s.keys s.vals n.ks.length hb.2.2.2.1 (Nat.le_refl _) hkl (by omega)
  have hz : (n.ks.zip n.vs).take n.ks.length = ent n := List.take_of_length_le (by simp; omega)
  rw [hz] at s2
  have e1 : adK n.ks (wantV s) s.val s.keys n.ks.length = scK s n := rfl
  have e2 : adV n.ks n.vs (wantV s) s.val s.keys s.vals n.ks.length = scV s n := rfl
  rw [e1, e2] at s1 s2
  have hZ : (s.keys.zip s.vals).length = s.keys.length := by rw [List.length_zip]; omega
  have hL : (scK s n).length = ((s.keys.zip s.vals ++ (ent n).filter (rng (wantV s) (s.val + 1))).take 12).length := by rw [← s2, List.length_zip]; omega
  have hfst : ((scK s n).zip (scV s n)).map Prod.fst = scK s n := List.map_fst_zip (by omega)
  refine ⟨s1, ?_⟩
  by_cases hf : 12 ≤ (scK s n).length
  · have hB : scB s n = (scK s n).getLast?.getD 0 + 1 := by unfold scB; rw [if_pos hf]
    rw [List.take_append, hZ, List.take_of_length_le (by omega)] at s2
    obtain ⟨m, hm⟩ : ∃ m, 12 - s.keys.length = m + 1 := ⟨11 - s.keys.length, by omega⟩
    rw [hm] at s2
    have hlen := congrArg List.length s2
    rw [List.length_zip, List.length_append, hZ] at hlen
    have hpos : 0 < (((ent n).filter (rng (wantV s) (s.val + 1))).take (m + 1)).length := by omega
    obtain ⟨y, hy⟩ : ∃ y, (((ent n).filter (rng (wantV s) (s.val + 1))).take (m + 1)).getLast? = some y := by
      cases hc : (((ent n).filter (rng (wantV s) (s.val + 1))).take (m + 1)).getLast? with
      | none => rw [List.getLast?_eq_none_iff] at hc; rw [hc] at hpos; cases hpos
      | some y => exact ⟨y, rfl⟩
    have hF := filter_take (asc_ent hr) hy
    have hym := List.mem_of_mem_take (List.mem_of_getLast? hy)
    have hy2 := (rng_iff _ _ _).1 (List.mem_filter.1 hym).2
    have hy3 := (right_kb n hr y.1 (ent_key (List.mem_filter.1 hym).1).1).2
    have hlast : (scK s n).getLast? = some y.1 := by
      rw [← hfst, s2, List.map_append, List.getLast?_append, List.getLast?_map, hy]; rfl
    have hBy : scB s n = y.1 + 1 := by rw [hB, hlast]; rfl
    rw [hBy]
    refine ⟨?_, by omega, by omega, by omega⟩
    rw [s2, hF]
  · rw [List.take_of_length_le (by rw [List.length_take] at hL; omega)] at s2
    have hB : scB s n = if s.val + 1 < n.hi then s.val + 1 else n.hi := by unfold scB; rw [if_neg hf]
    have hBe : scB s n ≤ s.val + 1 ∧ scB s n ≤ n.hi ∧ wantV s < scB s n := by rw [hB]; split <;> omega
    refine ⟨?_, hBe.2.2, hBe.1, hBe.2.1⟩
    rw [s2]
    congr 1
    refine List.filter_congr fun x hx => ?_
    have := (right_kb n hr x.1 (ent_key hx).1).2
    rw [Bool.eq_iff_iff, rng_iff, rng_iff, hB]
    split <;> omega
/-- A piece more. -/
theorem Scn.more {o o' : List Dn} {ts : List Int} {s : St} {n : Nd} {low now : Int} (h : Scn o ts s.key s.val s.keys s.vals s.bel s.pts) (hr : rightB n = true) (hlv : s.lv = 0) (h12 : s.keys.length < 12) (hw : wantV s ≤ s.val) (hh : wantV s < n.hi) (hlo : low ≤ wantV s)
    (hm : ∀ q, low ≤ q → q < n.hi → lmap n q = mapO o q) (hst : s.step = ts.length) (ha : ∀ τ ∈ ts, ahead o' τ = ahead o τ) (hn : ahead o' now = o) :
    Scn o' (ts ++ [now]) s.key s.val (scK s n) (scV s n) (s.bel ++ [scB s n]) (s.pts ++ [s.step]) := by
  obtain ⟨k1, k2, k3, k4, k5⟩ := sc_zip hr h.kl h12 hw hh
  have hwf := want_from hlv
  have hfst : ((scK s n).zip (scV s n)).map Prod.fst = scK s n := List.map_fst_zip (by omega)
  have hK : scK s n = s.keys ++ ((ent n).filter (rng (wantV s) (scB s n))).map Prod.fst := by
    rw [← hfst, k2, List.map_append, List.map_fst_zip (by have := h.kl; omega)]
  have hF : ∀ q ∈ ((ent n).filter (rng (wantV s) (scB s n))).map Prod.fst, wantV s ≤ q ∧ q < scB s n := fun q hq => by
    obtain ⟨y, hy, rfl⟩ := List.mem_map.1 hq
    exact (rng_iff _ _ _).1 (List.mem_filter.1 hy).2
  have hbase : ∀ j, j ≤ s.bel.length → s.key ≤ fromV s.bel s.key j := fun j => by
    induction j with
    | zero => intro _; exact Int.le_refl _
    | succ j ih => intro hj; have := ih (by omega); have := (h.bp j (by omega)).1; omega
  have hup : ∀ d j, j + d ≤ s.bel.length → fromV s.bel s.key j ≤ fromV s.bel s.key (j + d) := fun d => by
    induction d with
    | zero => intro j _; exact Int.le_refl _
    | succ d ih => intro j hj; have := ih j (by omega); have := (h.bp (j + d) (by omega)).1; rw [← Nat.add_assoc]; omega
  have hbw := hbase s.bel.length (Nat.le_refl _)
  have hkz : ∀ q u, (q, u) ∈ s.keys.zip s.vals → q < wantV s := fun q u hq => by rw [hwf]; exact (h.inn q (List.of_mem_zip hq).1).2
  refine ⟨k1, ?_, fun q hq => ?_, by rw [List.length_append, List.length_append, h.bl]; rfl, fun p hp => ?_, ?_, fun j hj => ?_, fun j q u hj h1 h2 => ?_⟩
  · rw [hK, List.pairwise_append]
    refine ⟨h.asc, List.pairwise_map.2 (asc_filter _ (asc_ent hr)), fun a ha b hb => ?_⟩
    have := (h.inn a ha).2
    have := (hF b hb).1
    omega
  · rw [List.length_append, List.length_singleton, from_last]
    rw [hK] at hq
    rcases List.mem_append.1 hq with hq | hq
    · have := h.inn q hq; omega
    · have := hF q hq; omega
  · rw [List.length_append, List.length_singleton]
    rcases List.mem_append.1 hp with hp | hp
    · have := h.pb p hp; omega
    · rw [List.mem_singleton] at hp; omega
  · rw [List.pairwise_append]
    refine ⟨h.pp, by simp, fun a ha b hb => ?_⟩
    rw [List.mem_singleton] at hb
    have := h.pb a ha
    omega
  · rw [List.length_append, List.length_singleton] at hj
    rw [from_snoc _ _ _ _ (by omega)]
    rcases Nat.lt_or_ge j s.bel.length with hj2 | hj2
    · rw [from_snoc _ _ _ _ (by omega)]; exact h.bp j hj2
    · obtain rfl : j = s.bel.length := by omega
      rw [from_last]
      omega
  · rw [List.length_append, List.length_singleton] at hj
    rw [from_snoc _ _ _ _ (by omega)] at h1
    rw [k2, List.mem_append, List.mem_filter, rng_iff]
    rcases Nat.lt_or_ge j s.bel.length with hj2 | hj2
    · rw [from_snoc _ _ _ _ (by omega)] at h2
      have hjp : j < s.pts.length := by rw [← h.bl]; exact hj2
      rw [List.getElem?_append_left hjp]
      have hp : s.pts[j]?.getD 0 ∈ s.pts := by rw [List.getElem?_eq_getElem hjp]; exact List.getElem_mem _
      rw [ts_more (h.pb _ hp), ha _ (ts_mem (h.pb _ hp)), ← h.pc j q u hj2 h1 h2]
      refine ⟨fun hx => ?_, Or.inl⟩
      rcases hx with hx | ⟨-, hx⟩
      · exact hx
      · have := hup (s.bel.length - (j + 1)) (j + 1) (by omega)
        rw [show j + 1 + (s.bel.length - (j + 1)) = s.bel.length by omega] at this
        have h3 : wantV s ≤ q := hx.1
        omega
    · obtain rfl : j = s.bel.length := by omega
      rw [from_last] at h2
      have e : (s.pts ++ [s.step])[s.bel.length]?.getD 0 = s.step := by rw [h.bl]; simp
      rw [e, hst, Int.toNat_natCast, at_now, hn, ← hm q (by omega) (by omega), ← lmap_mem hr]
      refine ⟨fun hx => ?_, fun hx => Or.inr ⟨hx, by omega, h2⟩⟩
      rcases hx with hx | ⟨hx, -⟩
      · have := hkz q u hx
        omega
      · exact hx
end Go.Proofs.YtajobgmnmbnhiaaDoor.Sap
