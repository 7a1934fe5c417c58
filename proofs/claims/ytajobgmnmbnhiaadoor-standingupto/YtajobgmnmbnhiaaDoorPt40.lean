/- WHAT IS PROVED HERE: plain facts: what saplingkeep's table has, made by the operations in their order, is a map; a list in the order of its times, no two of them one, is the only such (no program's function is walked). Conditions: none but those named at each theorem. -/
import Derived.Test.YtajobgmnmbnhiaaDoorPt34
import Derived.Test.YtajobgmnmbnhiaaDoorPt37
import Derived.Test.YtajobgmnmbnhiaaDoorPt43
namespace Go.Proofs.YtajobgmnmbnhiaaDoor.Sap
open Go.RowKit
theorem look_eq {P P' : List (Int × Int)} (hn : (P.map Prod.fst).Nodup) (hn' : (P'.map Prod.fst).Nodup) {q : Int} (h : ∀ v, (q, v) ∈ P' ↔ (q, v) ∈ P) : look P' q = look P q := by
  cases h1 : look P q with
  | some v => exact look_mem hn' ((h v).2 (mem_look h1))
  | none =>
    cases h2 : look P' q with
    | none => rfl
    | some v =>
      have := look_mem hn ((h v).1 (mem_look h2))
      rw [h1] at this; cases this
theorem zip_set (K V : List Int) (i : Nat) (a b : Int) : (K.set i a).zip (V.set i b) = (K.zip V).set i (a, b) := by
  induction K generalizing V i with
  | nil => simp
  | cons x r ih =>
    cases V with
    | nil => simp
    | cons y s =>
      cases i with
      | zero => simp
      | succ i => simp [ih]
theorem zip_take (K V : List Int) (m : Nat) : (K.take m).zip (V.take m) = (K.zip V).take m := by
  induction K generalizing V m with
  | nil => simp
  | cons x r ih =>
    cases V with
    | nil => simp
    | cons y s =>
      cases m with
      | zero => simp
      | succ m => simp [ih]
theorem swap_last {α : Type} (l : List α) (i : Nat) (z : α) (hi : i < l.length) (hz : l[l.length - 1]? = some z) : ((l.set i z).take (l.length - 1)).Perm (l.eraseIdx i) := by
  obtain ⟨m, hm⟩ : ∃ m, l.length = m + 1 := ⟨l.length - 1, by omega⟩
  rw [hm, Nat.add_sub_cancel] at hz ⊢
  have hl : l = l.take m ++ [z] := by
    have h1 : l.take (m + 1) = l := List.take_of_length_le (by omega)
    rw [List.take_add_one, hz] at h1
    exact h1.symm
  by_cases he : i = m
  · subst he
    have : l.set i z = l := by
      rw [List.set_eq_take_append_cons_drop, if_pos hi, List.drop_of_length_le (by omega)]
      exact hl.symm
    rw [this, List.eraseIdx_eq_take_drop_succ, List.drop_of_length_le (by omega), List.append_nil]
  · have him : i < m := by omega
    rw [List.eraseIdx_eq_take_drop_succ, List.set_eq_take_append_cons_drop, if_pos hi]
    have hd : l.drop (i + 1) = (l.drop (i + 1)).take (m - (i + 1)) ++ [z] := by
      conv => lhs; rw [hl]
      rw [List.drop_append_of_le_length (by rw [List.length_take]; omega), List.drop_take]
    have ht : (l.take i ++ z :: l.drop (i + 1)).take m = l.take i ++ z :: (l.drop (i + 1)).take (m - (i + 1)) := by
      rw [List.take_append, List.length_take, Nat.min_eq_left (by omega), List.take_of_length_le (by rw [List.length_take]; omega)]
      congr 1
      rw [show m - i = (m - (i + 1)) + 1 by omega, List.take_succ_cons]
    rw [ht]
    conv => rhs; rw [hd]
    exact List.Perm.append_left _ (List.perm_append_comm (l₁ := [z]))
theorem nodup_inj {K : List Int} (hn : K.Nodup) {i j : Nat} (hi : i < K.length) (hj : j < K.length) (h : K[i] = K[j]) : i = j := by
  rcases Nat.lt_trichotomy i j with hlt | he | hlt
  · exact absurd h (List.pairwise_iff_getElem.1 hn i j hi hj hlt)
  · exact he
  · exact absurd h.symm (List.pairwise_iff_getElem.1 hn j i hj hi hlt)
theorem fst_zip {K V : List Int} (h : K.length = V.length) : (K.zip V).map Prod.fst = K := List.map_fst_zip (by omega)
theorem tdo_look (kd key v : Int) (K V : List Int) (hn : K.Nodup) (hl : K.length = V.length) (hk : kd = 2 ∨ kd = 3) : (tdo kd key v K V).1.Nodup ∧ (tdo kd key v K V).1.length = (tdo kd key v K V).2.length ∧ ∀ q, look ((tdo kd key v K V).1.zip (tdo kd key v K V).2) q = upd kd key v (look (K.zip V)) q := by
  have hlen := (tdo_len kd key v K V hl).1
  have hnz : ((K.zip V).map Prod.fst).Nodup := by rw [fst_zip hl]; exact hn
  unfold tdo at hlen ⊢
  by_cases hm : key ∈ K
  · obtain ⟨i, hi, hki⟩ : ∃ i, ∃ h : i < K.length, K[i] = key := ⟨K.idxOf key, List.idxOf_lt_length_of_mem hm, List.getElem_idxOf _⟩
    have hii : K.idxOf key = i := by
      rw [← hki]
      exact List.Nodup.idxOf_getElem hn i hi
    rw [if_pos hm, hii] at hlen
    rw [if_pos hm, hii]
    clear hii
    have hzi : (K.zip V)[i]? = some (key, V[i]'(by omega)) := by
      rw [List.getElem?_zip_eq_some]
      exact ⟨by rw [List.getElem?_eq_getElem hi, hki], List.getElem?_eq_getElem (by omega)⟩
    rcases hk with rfl | rfl
    · rw [if_pos rfl] at hlen ⊢
      refine ⟨hn, hlen, fun q => ?_⟩
      have hz : K.zip (V.set i v) = (K.zip V).set i (key, v) := by
        have := zip_set K V i key v
        rw [← hki, List.set_getElem_self] at this
        rw [← hki]; exact this
      have hn' : ((K.zip (V.set i v)).map Prod.fst).Nodup := by rw [fst_zip (by simpa using hl)]; exact hn
      show look (K.zip (V.set i v)) q = _
      unfold upd
      by_cases hq : q = key
      · rw [if_pos hq, if_pos rfl, hq]
        refine look_mem hn' ?_
        rw [hz]
        exact List.mem_iff_getElem?.2 ⟨i, by rw [List.getElem?_set_self (by simp; omega)]⟩
      · rw [if_neg hq]
        refine look_eq hnz hn' fun u => ?_
        rw [hz]
        constructor
        · intro h
          obtain ⟨j, hj⟩ := List.mem_iff_getElem?.1 h
          by_cases e : i = j
          · subst e
            rw [List.getElem?_set_self (by simp; omega)] at hj
            cases hj; exact absurd rfl hq
          · rw [List.getElem?_set_ne e] at hj
            exact List.mem_iff_getElem?.2 ⟨j, hj⟩
        · intro h
          obtain ⟨j, hj⟩ := List.mem_iff_getElem?.1 h
          by_cases e : i = j
          · subst e
            rw [hzi] at hj
            cases hj; exact absurd rfl hq
          · exact List.mem_iff_getElem?.2 ⟨j, by rw [List.getElem?_set_ne e]; exact hj⟩
    · rw [if_neg (by decide), if_pos rfl] at hlen ⊢
      have hp : K.length - 1 < K.length := by omega
      have hzl : (K.zip V)[(K.zip V).length - 1]? = some (K[K.length - 1]?.getD 0, V[K.length - 1]?.getD 0) := by
        have e : (K.zip V).length - 1 = K.length - 1 := by rw [List.length_zip]; omega
        rw [e, List.getElem?_zip_eq_some, List.getElem?_eq_getElem hp, List.getElem?_eq_getElem (show K.length - 1 < V.length by omega)]
        exact ⟨rfl, rfl⟩
      have hz : ((K.set i (K[K.length - 1]?.getD 0)).take (K.length - 1)).zip ((V.set i (V[K.length - 1]?.getD 0)).take (K.length - 1)) = ((K.zip V).set i (K[K.length - 1]?.getD 0, V[K.length - 1]?.getD 0)).take ((K.zip V).length - 1) := by
        rw [zip_take, zip_set, List.length_zip]
        congr 1
        omega
      have hpm := swap_last (K.zip V) i _ (by rw [List.length_zip]; omega) hzl
      rw [← hz] at hpm
      have hsub : ((K.zip V).eraseIdx i).Sublist (K.zip V) := List.eraseIdx_sublist _ _
      have hne : (((K.zip V).eraseIdx i).map Prod.fst).Nodup := (hsub.map Prod.fst).nodup hnz
      have hn' : ((((K.set i (K[K.length - 1]?.getD 0)).take (K.length - 1)).zip ((V.set i (V[K.length - 1]?.getD 0)).take (K.length - 1))).map Prod.fst).Nodup := (hpm.map Prod.fst).nodup_iff.2 hne
      refine ⟨?_, hlen, fun q => ?_⟩
      · rw [fst_zip hlen] at hn'; exact hn'
      · show look (((K.set i (K[K.length - 1]?.getD 0)).take (K.length - 1)).zip ((V.set i (V[K.length - 1]?.getD 0)).take (K.length - 1))) q = _
        unfold upd
        have hmem : ∀ u, (q, u) ∈ ((K.set i (K[K.length - 1]?.getD 0)).take (K.length - 1)).zip ((V.set i (V[K.length - 1]?.getD 0)).take (K.length - 1)) ↔ ((q, u) ∈ K.zip V ∧ q ≠ key) := fun u => by
          rw [hpm.mem_iff, List.mem_eraseIdx_iff_getElem?]
          constructor
          · rintro ⟨j, hj, hje⟩
            refine ⟨List.mem_iff_getElem?.2 ⟨j, hje⟩, fun e => hj ?_⟩
            subst e
            rw [List.getElem?_zip_eq_some] at hje
            have hjl := (List.getElem?_eq_some_iff.1 hje.1).1
            have h1 : K[j]'hjl = K[i]'hi := by rw [hki]; exact (List.getElem?_eq_some_iff.1 hje.1).2
            exact nodup_inj hn hjl hi h1
          · rintro ⟨h, hq⟩
            obtain ⟨j, hj⟩ := List.mem_iff_getElem?.1 h
            refine ⟨j, fun e => hq ?_, hj⟩
            subst e
            rw [hzi] at hj; cases hj; rfl
        by_cases hq : q = key
        · rw [if_pos hq, if_neg (by decide), if_pos rfl]
          cases hlk : look (((K.set i (K[K.length - 1]?.getD 0)).take (K.length - 1)).zip ((V.set i (V[K.length - 1]?.getD 0)).take (K.length - 1))) q with
          | none => rfl
          | some u => exact absurd hq ((hmem u).1 (mem_look hlk)).2
        · rw [if_neg hq]
          exact look_eq hnz hn' fun u => ⟨fun h => ((hmem u).1 h).1, fun h => (hmem u).2 ⟨h, hq⟩⟩
  · rw [if_neg hm] at hlen ⊢
    have hno : look (K.zip V) key = none := look_none fun x hx e => hm (by rw [← e]; exact (List.of_mem_zip hx).1)
    rcases hk with rfl | rfl
    · rw [if_pos rfl] at hlen ⊢
      refine ⟨?_, hlen, fun q => ?_⟩
      · show (K ++ [key]).Nodup
        rw [List.nodup_append]
        exact ⟨hn, by simp, fun a ha b hb => by rw [List.mem_singleton] at hb; subst hb; exact fun e => hm (e ▸ ha)⟩
      · show look ((K ++ [key]).zip (V ++ [v])) q = _
        rw [List.zip_append hl, look_append]
        unfold upd
        by_cases hq : q = key
        · rw [if_pos hq, if_pos rfl, hq, hno]; simp [look]
        · rw [if_neg hq]
          have : look ([key].zip [v]) q = none := by simp only [List.zip_cons_cons, look]; rw [if_neg (fun e => hq e.symm)]; rfl
          rw [this, Option.or_none]
    · rw [if_neg (by decide)] at hlen ⊢
      refine ⟨hn, hlen, fun q => ?_⟩
      unfold upd
      by_cases hq : q = key
      · rw [if_pos hq, if_neg (by decide), if_pos rfl, hq]; exact hno
      · rw [if_neg hq]
theorem tabO_snoc (l : List Dn) (d : Dn) : tabO (l ++ [d]) = tdo d.k d.key d.v (tabO l).1 (tabO l).2 := by simp [tabO]
theorem tabO_look (l : List Dn) (hk : ∀ d ∈ l, d.k = 2 ∨ d.k = 3) : (tabO l).1.Nodup ∧ (tabO l).1.length = (tabO l).2.length ∧ ∀ q, look ((tabO l).1.zip (tabO l).2) q = mapO l q := by
  obtain ⟨r, hr⟩ : ∃ r, l = r.reverse := ⟨l.reverse, by simp⟩
  induction r generalizing l with
  | nil => subst hr; exact ⟨by simp [tabO], by simp [tabO], fun q => by simp [tabO, mapO, look]⟩
  | cons d r ih =>
    rw [List.reverse_cons] at hr
    subst hr
    obtain ⟨h1, h2, h3⟩ := ih r.reverse (fun x hx => hk x (by simp at hx ⊢; exact Or.inl hx)) rfl
    rw [tabO_snoc, mapO_snoc]
    obtain ⟨a1, a2, a3⟩ := tdo_look d.k d.key d.v _ _ h1 h2 (hk d (by simp))
    refine ⟨a1, a2, fun q => ?_⟩
    rw [a3]
    unfold upd
    rw [h3]
theorem valR_look {K V : List Int} (hn : K.Nodup) (hl : K.length = V.length) {q : Int} {fd : Bool} {v : Int} (h : ValR K V q fd v) : fd = (look (K.zip V) q).isSome ∧ v = (look (K.zip V) q).getD 0 := by
  have hnz : ((K.zip V).map Prod.fst).Nodup := by rw [fst_zip hl]; exact hn
  rcases h with ⟨h1, h2, h3⟩ | ⟨i, h1, h2, h3, -⟩
  · have hno : look (K.zip V) q = none := look_none fun x hx e => h3 (by rw [← e]; exact (List.of_mem_zip hx).1)
    rw [hno]; exact ⟨h1, h2⟩
  · have := look_mem hnz (List.mem_iff_getElem?.2 ⟨i, (List.getElem?_zip_eq_some (l₁ := K) (l₂ := V) (z := (q, v))).2 ⟨h2, h3⟩⟩)
    rw [this]; exact ⟨h1, rfl⟩
theorem srt_uniq (o o' : List Dn) (hs : o.Pairwise fun a b => a.t < b.t) (hp : o'.Perm o) (hs' : Srt o') : o' = o := by
  induction o generalizing o' with
  | nil => exact hp.eq_nil
  | cons d r ih =>
    cases o' with
    | nil => exact absurd hp.symm.eq_nil (by simp)
    | cons e r' =>
      have hs1 := List.pairwise_cons.1 hs
      have hs2 := List.pairwise_cons.1 hs'
      have hed : e = d := by
        have he : e ∈ d :: r := hp.mem_iff.1 (by simp)
        have hd : d ∈ e :: r' := hp.mem_iff.2 (by simp)
        rcases List.mem_cons.1 he with h | h
        · exact h
        · rcases List.mem_cons.1 hd with k | k
          · exact k.symm
          · have := hs1.1 e h
            have := hs2.1 d k
            omega
      subst hed
      rw [ih r' hs1.2 hp.cons_inv hs2.2]
theorem fm_take {β : Type} (ds : List Dd) (g : Nat → Dd → Option β) (f : Dd → Option β) (hg : ∀ (i : Nat) (d : Dd), ds[i]? = some d → g i d = f d) (n : Nat) : (List.range n).filterMap (fun i => (ds[i]?).bind (g i)) = (ds.take n).filterMap f := by
  induction n with
  | zero => simp
  | succ n ih =>
    rw [List.range_succ, List.filterMap_append, ih, List.take_add_one, List.filterMap_append]
    congr 1
    have e : List.filterMap (fun i => (ds[i]?).bind (g i)) [n] = ((ds[n]?).bind (g n)).toList := by
      rw [List.filterMap_cons]
      cases (ds[n]?).bind (g n) <;> rfl
    rw [e]
    cases hd : ds[n]? with
    | none => rfl
    | some d =>
      show (g n d).toList = List.filterMap f [d]
      rw [hg n d hd, List.filterMap_cons]
      cases f d <;> rfl
theorem Inv.effs_all {wt : Bool} {gw : Nat} {x : Wd} {t : Tre} {S : Nat → St} {o : List Dn} (h : Inv wt gw x t S o) (hid : ∀ c, c < 64 → x.bs[c]? = some (-1)) : effs S x.ds = tkL x.ds := by
  have h1 := fm_take x.ds (fun i d => effD (S i) d) tkD (fun i d hd => effD_end (h.allEnded hid i d hd).1) x.ds.length
  rw [List.take_length] at h1
  exact h1
theorem Inv.uniq {wt : Bool} {gw : Nat} {x : Wd} {t : Tre} {S : Nat → St} {o o' : List Dn} (h : Inv wt gw x t S o) (hid : ∀ c, c < 64 → x.bs[c]? = some (-1)) (hp : o'.Perm (tkL x.ds)) (hs : Srt o') : o' = o := by
  refine srt_uniq o o' h.os ?_ hs
  rw [← h.effs_all hid] at hp
  exact hp.trans h.op.symm
structure RowF (t : Tre) (l : Int) (p : Nat) (ps : List Nat) : Prop where
  hd : ps[0]? = some p
  inn : ∀ q ∈ ps, t.inn q ∧ (t.nd q).lv = l
  lk : ∀ (i q : Nat), ps[i]? = some q → (t.nd q).lk = (ps[i + 1]?.map Int.ofNat).getD (-1)
  nx : ∀ (i q r : Nat), ps[i]? = some q → ps[i + 1]? = some r → t.low r = (t.nd q).hi
  ge : ∀ q ∈ ps, t.low p ≤ t.low q
  pw : ps.Pairwise fun a b => t.low a < t.low b
  all : ∀ q, t.inn q → (t.nd q).lv = l → t.low p ≤ t.low q → q ∈ ps
theorem row_ex {t : Tre} (h : t.Ok) : ∀ (n : Nat) (p : Nat) (m : Nat → Nat), (∀ p q, t.inn q → Nearer t q p → m q < m p) → m p ≤ n → t.inn p → ∃ ps, RowF t (t.nd p).lv p ps := by
  intro n
  induction n using Nat.strongRecOn with
  | ind n ih =>
    intro p m hm hn hp
    have hlo := h.lo p hp
    by_cases hh : (t.nd p).hi = 10000
    · refine ⟨[p], rfl, fun q hq => ?_, fun i q hi => ?_, fun i q r hi hj => ?_, fun q hq => ?_, by simp, fun q hq hl hlq => ?_⟩
      · rw [List.mem_singleton] at hq; subst hq; exact ⟨hp, rfl⟩
      · cases i with
        | zero =>
          have e : p = q := Option.some.inj hi
          subst e
          exact ((right_hi _ (h.rt p hp)).2.2.1).1 hh
        | succ i => simp at hi
      · simp at hj
      · rw [List.mem_singleton] at hq; subst hq; exact Int.le_refl _
      · rw [List.mem_singleton]
        rcases Nat.decEq q p with hne | he
        · have h2 := h.lo q hq
          have h3 := right_hi _ (h.rt q hq)
          rcases h.dis q p hq hp hl hne with h4 | h4 <;> omega
        · exact he
    · obtain ⟨r, r1, r2, r3, r4⟩ := h.lnk p hp hh
      have hnr : Nearer t r p := Or.inr ⟨r4, by rw [r3]; exact hlo.2⟩
      have hmr := hm p r r2 hnr
      obtain ⟨ps, R⟩ := ih (m r) (by omega) r m hm (Nat.le_refl _) r2
      rw [r4] at R
      refine ⟨p :: ps, rfl, fun q hq => ?_, fun i q hi => ?_, fun i q s hi hj => ?_, fun q hq => ?_, ?_, fun q hq hl hlq => ?_⟩
      · rcases List.mem_cons.1 hq with rfl | hq
        · exact ⟨hp, rfl⟩
        · exact R.inn q hq
      · cases i with
        | zero =>
          have e : p = q := Option.some.inj hi
          subst e
          show _ = (ps[0]?.map Int.ofNat).getD (-1)
          rw [R.hd, r1]; rfl
        | succ i => exact R.lk i q hi
      · cases i with
        | zero =>
          have e : p = q := Option.some.inj hi
          subst e
          have e2 : ps[0]? = some s := hj
          rw [R.hd] at e2
          have e3 := Option.some.inj e2
          subst e3
          exact r3
        | succ i => exact R.nx i q s hi hj
      · rcases List.mem_cons.1 hq with rfl | hq
        · exact Int.le_refl _
        · have := R.ge q hq; omega
      · refine List.pairwise_cons.2 ⟨fun q hq => ?_, R.pw⟩
        have := R.ge q hq; omega
      · rcases Nat.decEq q p with hne | he
        · refine List.mem_cons_of_mem _ (R.all q hq hl ?_)
          have h2 := h.lo q hq
          rcases h.dis q p hq hp hl hne with h4 | h4 <;> omega
        · exact List.mem_cons.2 (Or.inl he)
theorem row_all {t : Tre} (h : t.Ok) {p : Nat} (hp : t.inn p) (h0 : t.low p = 0) : ∃ ps, RowF t (t.nd p).lv p ps ∧ ps.length ≤ 64 ∧ ps.Nodup ∧ ∀ q, t.inn q → (t.nd q).lv = (t.nd p).lv → q ∈ ps := by
  obtain ⟨m, -, hm⟩ := rank_ex t h
  obtain ⟨ps, R⟩ := row_ex h _ p m hm (Nat.le_refl _) hp
  have hnd : ps.Nodup := R.pw.imp fun hlt e => by rw [e] at hlt; omega
  refine ⟨ps, R, ?_, hnd, fun q hq hl => R.all q hq hl (by rw [h0]; exact (h.lo q hq).1)⟩
  exact nodup_le 64 ps hnd fun a ha => h.lt a (R.inn a ha).1
theorem first_child {t : Tre} (h : t.Ok) {p : Nat} (hp : t.inn p) (h0 : t.low p = 0) (hl : 0 < (t.nd p).lv) : ∃ q : Nat, (t.nd p).vs[0]? = some (q : Int) ∧ t.inn q ∧ t.low q = 0 ∧ (t.nd q).lv + 1 = (t.nd p).lv := by
  have hf := h.fst p hp hl
  have hb := right_bd _ (h.rt p hp)
  cases hks : (t.nd p).ks with
  | nil => rw [hks] at hf; cases hf
  | cons a r =>
    rw [hks] at hf
    have ea : a = t.low p := Option.some.inj hf
    cases hvs : (t.nd p).vs with
    | nil => have := hb.2.2.2.1; rw [hks, hvs] at this; cases this
    | cons b s =>
      obtain ⟨q, q1, q2, q3, q4⟩ := h.chd p hp hl (a, b) (by unfold ent; rw [hks, hvs]; simp)
      refine ⟨q, ?_, q2, ?_, q4⟩
      · show some b = _
        rw [show b = (q : Int) from q1]
      · have : t.low q = a := q3
        omega
theorem perm_len {a b : List Int} (ha : a.Nodup) (hb : b.Nodup) (h : ∀ q, q ∈ a ↔ q ∈ b) : a.length = b.length := ((List.perm_ext_iff_of_nodup ha hb).2 h).length_eq
end Go.Proofs.YtajobgmnmbnhiaaDoor.Sap
